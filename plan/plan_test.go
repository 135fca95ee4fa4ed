package plan

import (
	"math"
	"math/rand"
	"slices"
	"testing"

	"slotwright/api"
)

const (
	huge  = math.MaxInt
	least = math.MinInt
)

// powers are all valid periods.
var powers = []int{1, 2, 4, 8, 16, 32, 64}

// same returns n times the number v.
func same(n, v int) []int { return slices.Repeat([]int{v}, n) }

// wrong tells what Wrong must return, by looking the periods up.
func wrong(periods []int) api.Errno {
	if len(periods) > api.MaxOps {
		return api.ErrRange
	}
	for _, p := range periods {
		switch {
		case slices.Contains(powers, p):
		case p < 1 || p > 64:
			return api.ErrRange
		default:
			return api.ErrForm
		}
	}
	return api.OK
}

// load counts, over 64 slots, how many the messages of valid periods use.
func load(periods []int) int {
	n := 0
	for _, p := range periods {
		for at := range 64 {
			if at%p == 0 {
				n++
			}
		}
	}
	return n
}

// sends tells whether a message is sent in the slot at.
func sends(period, from, at int) bool { return at >= from && (at-from)%period == 0 }

// meet tells whether first slots that are in their range make two messages use one slot.
func meet(periods, from []int) bool {
	for at := range 128 {
		n := 0
		for k, p := range periods {
			if sends(p, from[k], at) {
				n++
			}
		}
		if n > 1 {
			return true
		}
	}
	return false
}

// right tells what Right must return for valid periods and as many first slots.
func right(periods, from []int) bool {
	for k, p := range periods {
		if from[k] < 0 || from[k] >= p {
			return false
		}
	}
	return !meet(periods, from)
}

// made tells what Make must return for valid periods that are not too many: a sorted order, and a search through the slots.
func made(periods []int) []int {
	order := make([]int, len(periods))
	for k := range order {
		order[k] = k
	}
	slices.SortStableFunc(order, func(a, b int) int { return periods[a] - periods[b] })
	from := make([]int, len(periods))
	for done, k := range order {
		at := 0
		for slices.ContainsFunc(order[:done], func(before int) bool { return sends(periods[before], from[before], at) }) {
			at++
		}
		from[k] = at
	}
	return from
}

// checkWrong demands one error of all functions, whatever else is wrong.
func checkWrong(t *testing.T, name string, periods []int, want api.Errno) {
	t.Helper()
	if err := Wrong(periods); err != want {
		t.Errorf("%s: Wrong = %d; want %d", name, err, want)
	}
	if n, err := Load(periods); n != 0 || err != want {
		t.Errorf("%s: Load = %d, %d; want 0, %d", name, n, err, want)
	}
	if from, err := Make(periods); len(from) != 0 || err != want {
		t.Errorf("%s: Make = %v, %d; want none, %d", name, from, err, want)
	}
	for _, from := range [][]int{nil, {0}, {-1}, same(len(periods), 0), same(len(periods)+1, 0)} {
		if ok, err := Right(periods, from); ok || err != want {
			t.Errorf("%s: Right with %d first slots = %v, %d; want false, %d", name, len(from), ok, err, want)
		}
	}
}

// checkPlan demands of valid periods what the reference finds.
func checkPlan(t *testing.T, periods []int) {
	t.Helper()
	if err := Wrong(periods); err != api.OK {
		t.Fatalf("Wrong(%v) = %d", periods, err)
	}
	want := load(periods)
	if n, err := Load(periods); n != want || err != api.OK {
		t.Fatalf("Load(%v) = %d, %d; want %d, OK", periods, n, err, want)
	}
	from, err := Make(periods)
	if want > 64 {
		if len(from) != 0 || err != api.ErrFull {
			t.Fatalf("Make(%v) = %v, %d; want none, ErrFull", periods, from, err)
		}
		return
	}
	if m := made(periods); !slices.Equal(from, m) || err != api.OK {
		t.Fatalf("Make(%v) = %v, %d; want %v, OK", periods, from, err, m)
	}
	if !right(periods, from) {
		t.Fatalf("Make(%v) = %v; two messages meet, or a slot is out of its range", periods, from)
	}
	checkRight(t, periods, from)
}

// checkRight demands of valid periods and as many first slots what the reference finds.
func checkRight(t *testing.T, periods, from []int) {
	t.Helper()
	want := right(periods, from)
	if ok, err := Right(periods, from); ok != want || err != api.OK {
		t.Fatalf("Right(%v, %v) = %v, %d; want %v, OK", periods, from, ok, err, want)
	}
}

// J1: periods that are wrong, and which error comes first.
func TestWrong(t *testing.T) {
	tooMany := same(api.MaxOps+1, 64)
	for _, c := range []struct {
		name    string
		periods []int
		want    api.Errno
	}{
		{"0", []int{0}, api.ErrRange},
		{"-1", []int{-1}, api.ErrRange},
		{"-2", []int{-2}, api.ErrRange},
		{"-64", []int{-64}, api.ErrRange},
		{"65", []int{65}, api.ErrRange},
		{"a power of two that is too large", []int{128}, api.ErrRange},
		{"a large power of two", []int{1 << 62}, api.ErrRange},
		{"2 to the 32nd", []int{1 << 32}, api.ErrRange},
		{"one more than 2 to the 32nd", []int{1<<32 + 1}, api.ErrRange},
		{"the largest number", []int{huge}, api.ErrRange},
		{"the smallest number", []int{least}, api.ErrRange},
		{"one more than the smallest number", []int{least + 1}, api.ErrRange},
		{"3", []int{3}, api.ErrForm},
		{"6", []int{6}, api.ErrForm},
		{"48", []int{48}, api.ErrForm},
		{"63", []int{63}, api.ErrForm},
		{"a wrong one at the end", []int{1, 2, 4, 0}, api.ErrRange},
		{"a wrong one at the start", []int{65, 2, 4}, api.ErrRange},
		{"a wrong one in the middle", []int{2, 5, 4}, api.ErrForm},
		{"range before form", []int{0, 3}, api.ErrRange},
		{"form before range", []int{3, 0}, api.ErrForm},
		{"form before too large", []int{2, 12, 65}, api.ErrForm},
		{"too large before form", []int{2, 65, 12}, api.ErrRange},
		{"one too many", tooMany, api.ErrRange},
		{"one too many, and form at the start", append([]int{3}, tooMany[1:]...), api.ErrRange},
		{"one too many, and form at the end", append(tooMany[1:len(tooMany):len(tooMany)], 3), api.ErrRange},
		{"MaxOps, and form at the start", append([]int{3}, same(api.MaxOps-1, 64)...), api.ErrForm},
		{"MaxOps, and form at the end", append(same(api.MaxOps-1, 64), 3), api.ErrForm},
		{"MaxOps, and range at the end", append(same(api.MaxOps-1, 64), 65), api.ErrRange},
		{"too great a load, then form", []int{1, 1, 3}, api.ErrForm},
		{"too great a load, then range", []int{1, 1, 0}, api.ErrRange},
	} {
		if w := wrong(c.periods); w != c.want {
			t.Errorf("%s: the reference says %d; want %d", c.name, w, c.want)
		}
		checkWrong(t, c.name, c.periods, c.want)
	}
}

// J1: every number from -70 to 140 as the only period, and two of them in both orders.
func TestAllSmallPeriods(t *testing.T) {
	for a := -70; a <= 140; a++ {
		one := []int{a}
		if err, want := Wrong(one), wrong(one); err != want {
			t.Errorf("Wrong(%v) = %d; want %d", one, err, want)
		}
		for b := -70; b <= 140; b++ {
			two := []int{a, b}
			if err, want := Wrong(two), wrong(two); err != want {
				t.Errorf("Wrong(%v) = %d; want %d", two, err, want)
			}
		}
	}
	for shift := range 64 {
		for _, p := range []int{1<<shift - 1, 1 << shift, 1<<shift + 1} {
			if err, want := Wrong([]int{p}), wrong([]int{p}); err != want {
				t.Errorf("Wrong([%d]) = %d; want %d", p, err, want)
			}
		}
	}
}

// J1: Load by hand; it has no limit but that of the number of periods.
func TestLoad(t *testing.T) {
	for _, c := range []struct {
		name    string
		periods []int
		want    int
	}{
		{"no period", nil, 0},
		{"1", []int{1}, 64},
		{"2", []int{2}, 32},
		{"64", []int{64}, 1},
		{"one of each", powers, 127},
		{"the example", []int{4, 2, 8}, 56},
		{"just full", []int{2, 4, 8, 16, 32, 64, 64}, 64},
		{"one more", []int{1, 64}, 65},
		{"MaxOps long ones", same(api.MaxOps, 64), api.MaxOps},
		{"MaxOps short ones", same(api.MaxOps, 1), api.MaxOps * 64},
	} {
		if n, err := Load(c.periods); n != c.want || err != api.OK {
			t.Errorf("%s: Load = %d, %d; want %d, OK", c.name, n, err, c.want)
		}
	}
}

// J1: Right by hand.
func TestRight(t *testing.T) {
	for _, c := range []struct {
		name          string
		periods, from []int
		want          bool
	}{
		{"no message", nil, nil, true},
		{"the example", []int{4, 2, 8}, []int{1, 0, 3}, true},
		{"the example, otherwise", []int{4, 2, 8}, []int{1, 0, 7}, true},
		{"the example, with a conflict", []int{4, 2, 8}, []int{1, 0, 5}, false},
		{"a first slot of -1", []int{4}, []int{-1}, false},
		{"a first slot of 0", []int{4}, []int{0}, true},
		{"the period minus 1", []int{4}, []int{3}, true},
		{"the period", []int{4}, []int{4}, false},
		{"period 1, -1", []int{1}, []int{-1}, false},
		{"period 1, 0", []int{1}, []int{0}, true},
		{"period 1, 1", []int{1}, []int{1}, false},
		{"period 64, -1", []int{64}, []int{-1}, false},
		{"period 64, 0", []int{64}, []int{0}, true},
		{"period 64, 63", []int{64}, []int{63}, true},
		{"period 64, 64", []int{64}, []int{64}, false},
		{"the largest first slot", []int{64}, []int{huge}, false},
		{"the smallest first slot", []int{64}, []int{least}, false},
		{"a first slot that is a multiple of 2 to the 32nd", []int{64}, []int{1 << 32}, false},
		{"a later first slot of -1", []int{2, 2}, []int{0, -1}, false},
		{"a later first slot that is the period", []int{2, 2}, []int{1, 2}, false},
		{"a later first slot that is the smallest number", []int{2, 2}, []int{1, least}, false},
		{"a first slot that fits only the other period", []int{2, 4}, []int{3, 0}, false},
		{"the same slot", []int{2, 2}, []int{0, 0}, false},
		{"the same last slot", []int{64, 64}, []int{63, 63}, false},
		{"slots that just miss each other", []int{2, 2}, []int{0, 1}, true},
		{"last slots that just miss each other", []int{64, 64}, []int{62, 63}, true},
		{"a slot that is shared later", []int{2, 64}, []int{1, 63}, false},
		{"a slot that is just missed", []int{2, 64}, []int{1, 62}, true},
		{"a slot that is shared later, the other way round", []int{64, 2}, []int{63, 1}, false},
		{"a slot that is just missed, the other way round", []int{64, 2}, []int{62, 1}, true},
		{"a period of 1 and another message", []int{1, 64}, []int{0, 63}, false},
		{"a conflict of the last two", []int{4, 4, 4, 8}, []int{0, 1, 2, 6}, false},
		{"no conflict of the last two", []int{4, 4, 4, 8}, []int{0, 1, 2, 7}, true},
		{"just full", []int{2, 4, 8, 8}, []int{0, 1, 3, 7}, true},
		{"more messages than slots", []int{1, 1}, []int{0, 0}, false},
		{"MaxOps messages", same(api.MaxOps, 64), same(api.MaxOps, 0), false},
	} {
		if ok, err := Right(c.periods, c.from); ok != c.want || err != api.OK {
			t.Errorf("%s: Right = %v, %d; want %v, OK", c.name, ok, err, c.want)
		}
	}
}

// J1: lists of different lengths, also where the first slots are wrong or meet.
func TestRightOfDifferentLengths(t *testing.T) {
	for _, c := range []struct {
		name          string
		periods, from []int
	}{
		{"no first slot", []int{2}, nil},
		{"no period", nil, []int{0}},
		{"one first slot too few", []int{4, 2, 8}, []int{1, 0}},
		{"one first slot too many", []int{4, 2, 8}, []int{1, 0, 3, 5}},
		{"one too few, and a wrong one", []int{4, 2, 8}, []int{-1, 0}},
		{"one too many, and a wrong one", []int{4, 2, 8}, []int{1, 2, 3, 5}},
		{"one too few, and a conflict", []int{2, 2, 8}, []int{0, 0}},
		{"one too many, and a conflict", []int{2, 2}, []int{0, 0, 1}},
		{"MaxOps and one more", same(api.MaxOps, 64), same(api.MaxOps+1, 0)},
	} {
		if ok, err := Right(c.periods, c.from); ok || err != api.ErrForm {
			t.Errorf("%s: Right = %v, %d; want false, ErrForm", c.name, ok, err)
		}
	}
}

// J1: all pairs of messages with all first slots, also those just out of their ranges.
func TestRightOfAllPairs(t *testing.T) {
	for _, a := range powers {
		for _, b := range powers {
			for from := -1; from <= a; from++ {
				for other := -1; other <= b; other++ {
					checkRight(t, []int{a, b}, []int{from, other})
				}
			}
		}
	}
}

// J1: many messages, most of them placed by Make, with one or none moved.
func TestRightOfMovedMessages(t *testing.T) {
	r := rand.New(rand.NewSource(21))
	for range 3000 {
		periods := halved(r, 1+r.Intn(12))
		periods = periods[:1+r.Intn(len(periods))]
		from := made(periods)
		k := r.Intn(len(periods))
		from[k] = r.Intn(periods[k]+2) - 1
		checkRight(t, periods, from)
	}
}

// J2: Make by hand.
func TestMake(t *testing.T) {
	count := make([]int, 64)
	for k := range count {
		count[k] = k
	}
	for _, c := range []struct {
		name          string
		periods, want []int
	}{
		{"no period", nil, nil},
		{"1", []int{1}, []int{0}},
		{"2", []int{2}, []int{0}},
		{"64", []int{64}, []int{0}},
		{"the example", []int{4, 2, 8}, []int{1, 0, 3}},
		{"equal periods in the given order", []int{4, 4, 4}, []int{0, 1, 2}},
		{"equal periods around a longer one", []int{4, 8, 4}, []int{0, 2, 1}},
		{"equal periods around a shorter one", []int{4, 2, 4}, []int{1, 0, 3}},
		{"equal periods behind others", []int{64, 8, 64, 2, 8}, []int{5, 1, 7, 0, 3}},
		{"increasing periods", []int{2, 4, 8, 16, 32, 64}, []int{0, 1, 3, 7, 15, 31}},
		{"decreasing periods", []int{64, 32, 16, 8, 4, 2}, []int{31, 15, 7, 3, 1, 0}},
		{"just full", []int{2, 4, 8, 16, 32, 64, 64}, []int{0, 1, 3, 7, 15, 31, 63}},
		{"just full of long ones", same(64, 64), count},
		{"just full of short ones", []int{2, 2}, []int{0, 1}},
	} {
		from, err := Make(c.periods)
		if !slices.Equal(from, c.want) || err != api.OK {
			t.Errorf("%s: Make = %v, %d; want %v, OK", c.name, from, err, c.want)
		}
	}
}

// J2: a load that is too great, by one and by more.
func TestFull(t *testing.T) {
	for _, c := range []struct {
		name    string
		periods []int
	}{
		{"one too many behind 1", []int{1, 64}},
		{"one too many before 1", []int{64, 1}},
		{"one too many long ones", same(65, 64)},
		{"one too many of all periods", []int{2, 4, 8, 16, 32, 64, 64, 64}},
		{"two of 1", []int{1, 1}},
		{"one of each", powers},
		{"MaxOps long ones", same(api.MaxOps, 64)},
		{"MaxOps short ones", same(api.MaxOps, 1)},
	} {
		if from, err := Make(c.periods); len(from) != 0 || err != api.ErrFull {
			t.Errorf("%s: Make = %v, %d; want none, ErrFull", c.name, from, err)
		}
	}
}

// J1, J2: all lists of up to five periods.
func TestAllShortLists(t *testing.T) {
	lists := [][]int{nil}
	for range 6 {
		var longer [][]int
		for _, l := range lists {
			checkPlan(t, l)
			for _, p := range powers {
				longer = append(longer, append(slices.Clone(l), p))
			}
		}
		lists = longer
	}
}

// halved returns periods that just fill the capacity: a period of 1, one of them halved again and again, in some order.
func halved(r *rand.Rand, times int) []int {
	l := []int{1}
	for range times {
		if k := r.Intn(len(l)); l[k] < 64 {
			l[k] *= 2
			l = append(l, l[k])
		}
	}
	r.Shuffle(len(l), func(a, b int) { l[a], l[b] = l[b], l[a] })
	return l
}

// J2: everything up to the capacity has its place, and one message more has none.
func TestEverythingThatFitsIsPlaced(t *testing.T) {
	r := rand.New(rand.NewSource(22))
	for range 2000 {
		l := halved(r, r.Intn(120))
		if n := load(l); n != 64 {
			t.Fatalf("the test itself has a load of %d", n)
		}
		checkPlan(t, l)
		checkPlan(t, l[:r.Intn(len(l))])
		checkPlan(t, append(l, 64))
	}
}

// J1, J2: many lists with a load around the capacity, with long and short periods.
func TestManyLists(t *testing.T) {
	r := rand.New(rand.NewSource(23))
	for range 3000 {
		shortest := r.Intn(len(powers))
		l := make([]int, r.Intn(70))
		for k := range l {
			l[k] = powers[shortest+r.Intn(len(powers)-shortest)]
		}
		checkPlan(t, l)
	}
}

// AA2: arguments and their spare capacity stay as they are, and what lies behind the length is not read.
func TestArgumentsAreLeftAlone(t *testing.T) {
	all, first := []int{4, 2, 8, 64, 3}, []int{1, 0, 3, 7, -1}
	periods, from := slices.Clone(all), slices.Clone(first)
	for size := range len(all) {
		checkPlan(t, periods[:size])
		checkRight(t, periods[:size], from[:size])
		if ok, err := Right(periods[:size], from[:size+1]); ok || err != api.ErrForm {
			t.Errorf("Right(%v, %v) = %v, %d", periods[:size], from[:size+1], ok, err)
		}
	}
	checkWrong(t, "all of it", periods, api.ErrForm)
	if !slices.Equal(periods, all) || !slices.Equal(from, first) {
		t.Errorf("the arguments have become %v and %v", periods, from)
	}
}

// AA2: what Make returns is new memory, and shares nothing with an argument or another result.
func TestResultsAreNew(t *testing.T) {
	periods := []int{4, 2, 8}
	one, _ := Make(periods)
	two, _ := Make(periods)
	for k := range one {
		one[k] = 77
	}
	if !slices.Equal(periods, []int{4, 2, 8}) || !slices.Equal(two, []int{1, 0, 3}) {
		t.Errorf("after a change of one result the argument is %v, the other result is %v", periods, two)
	}
	periods[0] = 16
	if !slices.Equal(two, []int{1, 0, 3}) {
		t.Errorf("after a change of the argument the result is %v", two)
	}
}

// AA3: nil and an empty slice are the same argument.
func TestNilAndEmpty(t *testing.T) {
	for _, none := range [][]int{nil, {}} {
		checkPlan(t, none)
		for _, other := range [][]int{nil, {}} {
			if ok, err := Right(none, other); !ok || err != api.OK {
				t.Errorf("Right of no message = %v, %d", ok, err)
			}
		}
		if ok, err := Right([]int{2}, none); ok || err != api.ErrForm {
			t.Errorf("Right of no first slot = %v, %d", ok, err)
		}
		if ok, err := Right(none, []int{0}); ok || err != api.ErrForm {
			t.Errorf("Right of no period = %v, %d", ok, err)
		}
	}
}
