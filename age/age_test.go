package age

import (
	"math"
	"math/rand"
	"slices"
	"strconv"
	"strings"
	"testing"

	"slotwright/api"
)

const (
	huge  = math.MaxInt
	least = math.MinInt
	last  = api.MaxTime
	most  = api.MaxOps
)

// numbers are values of each argument around the limits, and such as only a narrower type takes for valid.
var numbers = []int{least, least + 1, -1 << 62, -last - 1, -last, -1 << 32, -1<<32 + 1, -1 << 20, -401, -400, -256, -255, -3, -2, -1, 0, 1, 2, 3, 4, 5, 255, 256, 257, 399, 400, 401, 402, 1 << 16, 1<<16 + 1, 1<<20 - 1, 1 << 20, 1<<20 + 1, 1 << 21, 1<<31 - 1, 1 << 31, 1 << 32, 1<<32 + 1, 1<<32 + 400, last - 1, last, last + 1, last + 2, 2 * last, 1 << 62, huge - 1, huge}

// op returns one operation.
func op(kind, n int) api.AgeOp { return api.AgeOp{Kind: kind, N: n} }

// words are the special numbers of a script.
var words = map[string]int{"least": least, "huge": huge, "last": last, "last+1": last + 1, "last-1": last - 1}

// number returns what a part of a script says: a number, one of the words, or nothing.
func number(text string) int {
	if n, ok := words[text]; ok {
		return n
	}
	n, _ := strconv.Atoi(text)
	return n
}

// script returns the operations of a text with words such as tell7, read, tick2 and kind9, and their answers: nothing, a letter for an error behind an exclamation mark, or the value and the age of a read behind equals signs.
func script(text string) ([]api.AgeOp, []api.AgeAns) {
	marks := map[string]api.Errno{"": api.OK, "R": api.ErrRange, "N": api.ErrNone, "F": api.ErrForm, "K": api.ErrKind}
	kinds := map[string]int{"tell": 1, "read": 2, "tick": 3}
	list, answers := []api.AgeOp{}, []api.AgeAns{}
	for word := range strings.FieldsSeq(text) {
		word, mark, _ := strings.Cut(word, "!")
		parts := append(strings.Split(word, "="), "", "")
		o := op(kinds[word[:4]], number(parts[0][4:]))
		if o.Kind == 0 {
			o.Kind, o.N = o.N, 0
		}
		list = append(list, o)
		answers = append(answers, api.AgeAns{Err: marks[mark], Val: number(parts[1]), Old: number(parts[2])})
	}
	return list, answers
}

// ops returns the operations of a text alone.
func ops(text string) []api.AgeOp {
	list, _ := script(text)
	return list
}

// times returns n times the text.
func times(n int, text string) string { return strings.Repeat(text+" ", n) }

// timeBefore returns the time that the operations lead to: the sum of their ticks, or MaxTime.
func timeBefore(list []api.AgeOp) int {
	sum := 0
	for _, o := range list {
		if o.Kind == 3 && o.N >= 0 && o.N <= last {
			sum += o.N
		}
	}
	return min(sum, last)
}

// expectedRead tells what a read after the operations must return, by looking back for the value.
func expectedRead(fresh int, list []api.AgeOp) api.AgeAns {
	for place := len(list) - 1; place >= 0; place-- {
		if list[place].Kind != 1 {
			continue
		}
		old := timeBefore(list) - timeBefore(list[:place])
		if old > fresh {
			return api.AgeAns{Err: api.ErrForm}
		}
		return api.AgeAns{Val: list[place].N, Old: old}
	}
	return api.AgeAns{Err: api.ErrNone}
}

// expected tells what Play must return, for each operation on its own.
func expected(fresh int, list []api.AgeOp) ([]api.AgeAns, api.Errno) {
	if fresh < 0 || fresh > last || len(list) > most {
		return nil, api.ErrRange
	}
	answers := []api.AgeAns{}
	for place, o := range list {
		var a api.AgeAns
		switch {
		case o.Kind < 1 || o.Kind > 3:
			a.Err = api.ErrKind
		case o.Kind == 2:
			a = expectedRead(fresh, list[:place])
		case o.Kind == 3 && (o.N < 0 || o.N > last):
			a.Err = api.ErrRange
		}
		answers = append(answers, a)
	}
	return answers, api.OK
}

// checkPlay demands these results of Play, and that the argument stays as it was.
func checkPlay(t *testing.T, name string, fresh int, list []api.AgeOp, want []api.AgeAns, wantErr api.Errno) {
	t.Helper()
	before := slices.Clone(list)
	if got, err := Play(fresh, list); !slices.Equal(got, want) || err != wantErr {
		t.Fatalf("%s: Play(%d, %v) = %v, %d; want %v, %d", name, fresh, before, got, err, want, wantErr)
	}
	if !slices.Equal(list, before) {
		t.Fatalf("%s: Play(%d, %v) changes the argument to %v", name, fresh, before, list)
	}
}

// compare demands of Play what the reference finds, and returns that.
func compare(t *testing.T, fresh int, list []api.AgeOp) []api.AgeAns {
	t.Helper()
	want, err := expected(fresh, list)
	checkPlay(t, "against the reference", fresh, list, want, err)
	return want
}

// playCase is a script with its answers.
type playCase struct {
	name  string
	fresh int
	text  string
}

// demand fails the test for each call that does not return what it must; the reference must find the same.
func demand(t *testing.T, cases []playCase) {
	t.Helper()
	for _, c := range cases {
		list, want := script(c.text)
		checkPlay(t, c.name, c.fresh, list, want, api.OK)
		if got, err := expected(c.fresh, list); !slices.Equal(got, want) || err != api.OK {
			t.Errorf("%s: the reference finds %v, %d; want %v", c.name, got, err, want)
		}
	}
}

// U1: no operation.
func TestNoOperation(t *testing.T) {
	for _, fresh := range []int{0, 1, 5, last - 1, last} {
		checkPlay(t, "nil", fresh, nil, nil, api.OK)
		checkPlay(t, "empty", fresh, []api.AgeOp{}, nil, api.OK)
	}
}

// U1: both errors of the call, alone and together; no error of an operation comes before them.
func TestErrorsOfTheCall(t *testing.T) {
	for _, text := range []string{"", "tell7", "tell7 tick3 read=7=3", "kind0!K", "tick-1!R", "read!N"} {
		list, answers := script(text)
		for _, fresh := range numbers {
			if fresh < 0 || fresh > last {
				checkPlay(t, "fresh out of range", fresh, list, nil, api.ErrRange)
			} else if fresh >= 3 {
				checkPlay(t, "fresh within its range", fresh, list, answers, api.OK)
			}
			checkPlay(t, "too many operations", fresh, ops(times(most+1, "tell7")+text), nil, api.ErrRange)
		}
	}
	for _, word := range []string{"tell7", "read!N", "tick1", "tick-1!R", "kind0!K", "kind4!K"} {
		for _, size := range []int{most - 1, most} {
			list, answers := script(times(size, word))
			checkPlay(t, "not too many operations", 5, list, answers, api.OK)
		}
		for _, size := range []int{most + 1, most + 2, 2 * most, 1 << 16, 1<<16 + 1} {
			checkPlay(t, "too many operations", 5, ops(times(size, word)), nil, api.ErrRange)
			checkPlay(t, "too many operations, fresh too small", -1, ops(times(size, word)), nil, api.ErrRange)
			checkPlay(t, "too many operations, fresh too great", last+1, ops(times(size, word)), nil, api.ErrRange)
		}
	}
}

// U1: as many operations as there may be, of which the last ones matter.
func TestManyOperations(t *testing.T) {
	demand(t, []playCase{
		{"a value, many ticks and a read", most, "tell7 " + times(most-2, "tick1") + "read=7=398"},
		{"a value, many ticks and a read too late", 397, "tell7 " + times(most-2, "tick1") + "read!F"},
		{"many values", 0, times(most-2, "tell7") + "tell8 read=8=0"},
		{"many reads", 0, "tell7 " + times(most-1, "read=7=0")},
		{"many reads in vain", 0, times(most-2, "read!N") + "tell7 read=7=0"},
		{"many errors", 0, "tell7 " + times(most-2, "tick-1!R") + "read=7=0"},
		{"many operations of no kind", 0, "tell7 " + times(most-2, "kind7!K") + "read=7=0"},
		{"many ticks to MaxTime and on", 0, "tick1 " + times(most-3, "ticklast") + "tell7 read=7=0"},
	})
}

// U1: AgeRead before there is a value.
func TestNoValue(t *testing.T) {
	demand(t, []playCase{
		{"at once", 5, "read!N"},
		{"at once, valid for no unit", 0, "read!N"},
		{"at once, valid for all time", last, "read!N"},
		{"several times", 5, "read!N read!N read!N"},
		{"later", 5, "tick3 read!N"},
		{"later than the interval", 5, "tick6 read!N"},
		{"at MaxTime", 5, "ticklast read!N"},
		{"at MaxTime, valid for all time", last, "ticklast read!N"},
		{"before the first value", 5, "read!N tell7 read=7=0"},
		{"after errors", 5, "tick-1!R kind0!K kind4!K read!N"},
	})
}

// U1: AgeRead around the end of the validity interval.
func TestInterval(t *testing.T) {
	demand(t, []playCase{
		{"at once", 5, "tell7 read=7=0"},
		{"at once after a tick of 0", 5, "tell7 tick0 read=7=0"},
		{"one unit later", 5, "tell7 tick1 read=7=1"},
		{"one unit before the end", 5, "tell7 tick4 read=7=4"},
		{"at the end", 5, "tell7 tick5 read=7=5"},
		{"one unit after the end", 5, "tell7 tick6 read!F"},
		{"long after the end", 5, "tell7 tick1000000 read!F"},
		{"at the end and on", 5, "tell9 tick5 read=9=5 tick1 read!F"},
		{"after each unit", 2, "tell7 read=7=0 tick1 read=7=1 tick1 read=7=2 tick1 read!F tick1 read!F"},
		{"a read does not renew the value", 2, "tell7 tick2 read=7=2 tick2 read!F"},
		{"a read in vain does not remove the value", 2, "tell7 tick3 read!F read!F tick1 read!F"},
		{"not at time 0", 5, "tick100 tell7 tick5 read=7=5 tick1 read!F"},
		{"valid for no unit, at once", 0, "tell7 read=7=0 read=7=0"},
		{"valid for no unit, one unit later", 0, "tell7 tick1 read!F"},
		{"valid for no unit, not at time 0", 0, "tick4 tell7 tick0 read=7=0 tick1 read!F"},
		{"valid for one unit", 1, "tell7 tick1 read=7=1 tick1 read!F"},
		{"valid for all time", last, "tell7 ticklast read=7=last"},
		{"valid for almost all time", last - 1, "tell7 ticklast-1 read=7=last-1 tick1 read!F"},
		{"valid for almost all time, not at time 0", last - 1, "tick1 tell7 ticklast-1 read=7=last-1 tick1 read=7=last-1"},
	})
	for fresh := range 30 {
		for old := range 40 {
			answer := "!F"
			if old <= fresh {
				answer = "=7=" + strconv.Itoa(old)
			}
			text := " tell7 tick" + strconv.Itoa(old) + " read" + answer
			demand(t, []playCase{{"at time 0", fresh, text}, {"later", fresh, "tick9" + text}, {"twice", fresh, text + text}})
		}
	}
}

// U1: AgeTell of several values, of which only the last one counts.
func TestSeveralValues(t *testing.T) {
	demand(t, []playCase{
		{"at one time", 5, "tell7 tell8 read=8=0"},
		{"at one time, the last one smaller", 5, "tell8 tell7 read=7=0"},
		{"at one time, equal", 5, "tell7 tell7 tick1 read=7=1"},
		{"three at one time", 5, "tell1 tell2 tell3 tick5 read=3=5 tick1 read!F"},
		{"at different times", 5, "tell7 tick1 tell8 tick1 read=8=1"},
		{"equal, at different times", 5, "tell7 tick3 tell7 tick3 read=7=3"},
		{"the first one would be too old", 5, "tell7 tick5 tell8 tick5 read=8=5 tick1 read!F"},
		{"the first one is too old", 5, "tell7 tick6 read!F tell8 read=8=0 tick5 read=8=5 tick1 read!F"},
		{"the same one again", 5, "tell7 tick6 read!F tell7 read=7=0"},
		{"each one is read", 5, "tell7 read=7=0 tell8 read=8=0 tick2 read=8=2 tell9 read=9=0"},
		{"valid for no unit", 0, "tell7 tick1 tell8 read=8=0 tick1 read!F tell9 tell10 read=10=0"},
	})
}

// U1: AgeTell of every sort of N, also such as stand for no value or no time elsewhere.
func TestEveryValue(t *testing.T) {
	for _, n := range numbers {
		for _, old := range []int{0, 1, 5} {
			list := []api.AgeOp{op(1, n), op(3, old), op(2, 0)}
			checkPlay(t, "a value", 5, list, []api.AgeAns{{}, {}, {Val: n, Old: old}}, api.OK)
			list = slices.Concat(ops("tell7 tick3"), list)
			checkPlay(t, "a second value", 5, list, []api.AgeAns{{}, {}, {}, {}, {Val: n, Old: old}}, api.OK)
		}
		list := []api.AgeOp{op(1, n), op(3, 6), op(2, 0)}
		checkPlay(t, "a value too old", 5, list, []api.AgeAns{{}, {}, {Err: api.ErrForm}}, api.OK)
	}
	demand(t, []playCase{
		{"0", 5, "tell0 tick2 read=0=2"},
		{"0 after another one", 5, "tell7 tick2 tell0 read=0=0"},
		{"negative", 5, "tell-1 tick2 read=-1=2"},
		{"the least one", 5, "tellleast tick2 read=least=2"},
		{"the greatest one", 5, "tellhuge tick2 read=huge=2"},
	})
}

// U1: AgeTick with every sort of N; one out of range leaves the time, and all else, as it was.
func TestTick(t *testing.T) {
	for _, n := range numbers {
		answer, old, err := api.AgeAns{}, n, api.OK
		if n < 0 || n > last {
			answer, old, err = api.AgeAns{Err: api.ErrRange}, 0, api.ErrRange
		}
		list := []api.AgeOp{op(1, 7), op(3, n), op(2, 0)}
		checkPlay(t, "at time 0", last, list, []api.AgeAns{{}, answer, {Val: 7, Old: old}}, api.OK)
		list = slices.Concat(ops("tell7 tick3"), list[1:])
		checkPlay(t, "at time 3", last, list, []api.AgeAns{{}, {}, {Err: err}, {Val: 7, Old: min(3+old, last)}}, api.OK)
		list = []api.AgeOp{op(3, n), op(2, 0), op(1, 7), op(2, 0)}
		checkPlay(t, "before a value", 0, list, []api.AgeAns{answer, {Err: api.ErrNone}, {}, {Val: 7}}, api.OK)
	}
	demand(t, []playCase{
		{"-1", 5, "tell7 tick2 tick-1!R read=7=2 tick3 read=7=5 tick1 read!F"},
		{"-1 when the value is too old", 5, "tell7 tick6 tick-1!R read!F"},
		{"0", 5, "tell7 tick5 tick0 tick0 read=7=5"},
		{"MaxTime", last, "tell7 ticklast read=7=last"},
		{"MaxTime + 1", 5, "tell7 tick2 ticklast+1!R read=7=2 tick3 read=7=5 tick1 read!F"},
		{"the least and the greatest one", 5, "tell7 tick2 tickleast!R read=7=2 tickhuge!R read=7=2"},
	})
}

// U1: the time reaches MaxTime, and stays there.
func TestMaxTime(t *testing.T) {
	demand(t, []playCase{
		{"reached exactly", last, "tell7 tick3 ticklast-1 read=7=last"},
		{"reached exactly by two ticks", last, "tell7 ticklast-1 tick1 read=7=last"},
		{"passed by one unit", last, "tell7 ticklast-1 tick2 read=7=last"},
		{"passed by one unit, the great tick last", last, "tell7 tick1 ticklast read=7=last"},
		{"passed twice", last, "tell7 ticklast ticklast ticklast read=7=last"},
		{"passed after a value", 5, "ticklast-1 tell7 ticklast read=7=1"},
		{"passed after an interval of 0", 0, "ticklast-1 tell7 ticklast read!F"},
		{"the end of the interval is after MaxTime", 5, "ticklast-1 tell7 tick5 read=7=1 tick5 read=7=1"},
		{"a value at MaxTime", 5, "ticklast tell7 read=7=0"},
		{"a value at MaxTime, and ticks", 5, "ticklast tell7 tick1 read=7=0 ticklast read=7=0"},
		{"a value at MaxTime, valid for no unit", 0, "ticklast tell7 tick1 read=7=0"},
		{"two values at MaxTime", 0, "ticklast tell7 tick9 tell8 tick9 read=8=0"},
		{"a tick that is wrong at MaxTime", 5, "ticklast tell7 ticklast+1!R tick-1!R read=7=0"},
		{"a value before MaxTime that is too old", 5, "tell7 ticklast read!F tick0 read!F tell8 read=8=0"},
	})
	for before := range 5 {
		for tick := range 8 {
			list := []api.AgeOp{op(3, last-before), op(1, 7), op(3, tick), op(2, 0)}
			checkPlay(t, "near MaxTime", last, list, []api.AgeAns{{}, {}, {}, {Val: 7, Old: min(tick, before)}}, api.OK)
		}
	}
}

// U1: an operation of no kind has an error and no effect, whatever its N and wherever it stands.
func TestUnknownKinds(t *testing.T) {
	list, answers := script("read!N tick2 tell7 tick2 read=7=2 tick1 tell8 tick3 read=8=3 tick1 read!F")
	for _, kind := range append(slices.Clone(numbers), 6, 7, 8) {
		if kind >= 1 && kind <= 3 {
			continue
		}
		for _, n := range numbers {
			for place := range len(list) + 1 {
				checkPlay(t, "a kind that is unknown", 3, slices.Insert(slices.Clone(list), place, op(kind, n)), slices.Insert(slices.Clone(answers), place, api.AgeAns{Err: api.ErrKind}), api.OK)
			}
		}
	}
}

// AA5: the N of a read means nothing.
func TestNumberOfRead(t *testing.T) {
	for _, n := range numbers {
		read := op(2, n)
		list := []api.AgeOp{read, op(1, 7), read, op(3, 5), read, op(3, 1), read, read}
		want := []api.AgeAns{{Err: api.ErrNone}, {}, {Val: 7}, {}, {Val: 7, Old: 5}, {}, {Err: api.ErrForm}, {Err: api.ErrForm}}
		checkPlay(t, "an N of a read", 5, list, want, api.OK)
	}
}

// U1: operations with an error between others.
func TestErrorsBetween(t *testing.T) {
	demand(t, []playCase{
		{"one of each", 5, "kind0!K read!N tick-1!R tell7 kind4!K tick5 ticklast+1!R read=7=5 tick1 read!F kind-1!K tell8 read=8=0"},
		{"only errors", 5, "read!N tick-1!R kind0!K read!N ticklast+1!R kind4!K"},
	})
}

// U1: every list of up to five operations, with the shortest intervals.
func TestAllShortLists(t *testing.T) {
	alphabet := ops("tell7 tell-8 read tick0 tick1 tick2 tick-1 kind0")
	for size := range 6 {
		list := make([]api.AgeOp, size)
		for choice := range 1 << (3 * size) {
			for place := range size {
				list[place] = alphabet[choice>>(3*place)&7]
			}
			for fresh := range 3 {
				compare(t, fresh, list)
			}
		}
	}
}

// someOps returns operations of which few are wrong, with ticks of one order of magnitude.
func someOps(r *rand.Rand, size, step int) []api.AgeOp {
	list := []api.AgeOp{}
	reads, wrong := 1+r.Intn(5), r.Intn(10)
	for range size {
		o := op(3, r.Intn(step+1))
		switch choice := r.Intn(8); {
		case choice < reads:
			o = op(2, r.Int())
		case choice == reads:
			o = op(1, int(r.Uint64()))
		}
		if wrong == 0 && r.Intn(5) == 0 {
			o = op(r.Intn(6)-1, numbers[r.Intn(len(numbers))])
		}
		list = append(list, o)
	}
	return list
}

// someCall returns both arguments of a call such that values of each age are read.
func someCall(r *rand.Rand) (int, []api.AgeOp) {
	step := 1 << r.Intn(40)
	fresh := min(step*(1+r.Intn(9))/2, last)
	if r.Intn(20) == 0 {
		fresh = min(max(numbers[r.Intn(len(numbers))], 0), last)
	}
	return fresh, someOps(r, r.Intn(80), step)
}

// U1: many lists.
func TestManyLists(t *testing.T) {
	r := rand.New(rand.NewSource(1))
	count := map[api.Errno]int{}
	for range 20000 {
		fresh, list := someCall(r)
		for place, a := range compare(t, fresh, list) {
			if list[place].Kind == 2 {
				count[a.Err]++
			}
		}
	}
	for range 200 {
		size := most - 5 + r.Intn(12)
		compare(t, r.Intn(1<<20), someOps(r, size, 1<<r.Intn(40)))
	}
	if count[api.OK] < 50000 || count[api.ErrNone] < 20000 || count[api.ErrForm] < 20000 {
		t.Errorf("the outcomes of the reads: %v", count)
	}
}

// The property of the whole: state messages are never read after their validity interval, and a longer interval changes no read that had a value.
func TestNothingIsReadTooLate(t *testing.T) {
	r := rand.New(rand.NewSource(2))
	for range 5000 {
		fresh, list := someCall(r)
		answers, _ := Play(fresh, list)
		longer, _ := Play(min(fresh+1+r.Intn(fresh+1), last), list)
		for place, a := range answers {
			if a.Old < 0 || a.Old > fresh || a.Err != api.OK && (a.Old != 0 || a.Val != 0) {
				t.Fatalf("Play(%d, %v) has the answer %v at %d", fresh, list, a, place)
			}
			if a.Err != api.ErrForm && a != longer[place] {
				t.Fatalf("Play(%d, %v) has the answer %v at %d, and %v with a longer interval", fresh, list, a, place, longer[place])
			}
		}
	}
}

// checkLasts demands these results of Lasts.
func checkLasts(t *testing.T, period, lost, want int, wantErr api.Errno) {
	t.Helper()
	if got, err := Lasts(period, lost); got != want || err != wantErr {
		t.Errorf("Lasts(%d, %d) = %d, %d; want %d, %d", period, lost, got, err, want, wantErr)
	}
}

// U2: the limits of both arguments, alone and together.
func TestLastsOutOfRange(t *testing.T) {
	for _, period := range numbers {
		for _, lost := range numbers {
			if period < 1 || period > 1<<20 || lost < 0 || lost > most {
				checkLasts(t, period, lost, 0, api.ErrRange)
			} else {
				checkLasts(t, period, lost, period-1+lost*period, api.OK)
			}
		}
	}
}

// U2: worked out by hand.
func TestLasts(t *testing.T) {
	for _, c := range []struct{ period, lost, want int }{
		{1, 0, 0}, // a new value at each time
		{1, 1, 1},
		{1, 2, 2},
		{1, most, 400},
		{2, 0, 1},
		{2, 1, 3},
		{10, 0, 9},
		{10, 1, 19},
		{10, 3, 39},
		{1000, most - 1, 399999},
		{1 << 20, 0, 1048575},
		{1 << 20, 1, 2097151},
		{1<<20 - 1, most, 420478574},
		{1 << 20, most, 420478975},
	} {
		checkLasts(t, c.period, c.lost, c.want, api.OK)
	}
}

// updates returns the operations of a variable that is stored at the times 0, period, and so on, except where bits of missing are set, and read at each time.
func updates(period, rounds, missing int) []api.AgeOp {
	list := []api.AgeOp{}
	for time := range period * rounds {
		if time%period == 0 && missing>>(time/period)&1 == 0 {
			list = append(list, op(1, time))
		}
		list = append(list, op(2, 0), op(3, 1))
	}
	return list
}

// isAllRead tells whether no operation of a call has an error.
func isAllRead(fresh int, list []api.AgeOp) bool {
	answers, err := Play(fresh, list)
	return err == api.OK && !slices.ContainsFunc(answers, func(a api.AgeAns) bool { return a.Err != api.OK })
}

// isAlwaysRead tells whether a variable can be read at all times, whatever updates are missing.
func isAlwaysRead(fresh, period, lost, rounds int) bool {
	for missing := 0; missing < 1<<rounds; missing += 2 { // the first update is not missing
		isTooMany := strings.Contains(strconv.FormatInt(int64(missing), 2), strings.Repeat("1", lost+1))
		if !isTooMany && !isAllRead(fresh, updates(period, rounds, missing)) {
			return false
		}
	}
	return true
}

// U2: the smallest interval of all, with every choice of missing updates.
func TestSmallestInterval(t *testing.T) {
	for period := 1; period <= 6; period++ {
		for lost := range 5 {
			fresh := 0
			for fresh < 7*period && !isAlwaysRead(fresh, period, lost, 7) {
				fresh++
			}
			checkLasts(t, period, lost, fresh, api.OK)
		}
	}
}

// U2: Play at the interval that Lasts returns, and at one unit less, also where that is no interval.
func TestPlayAtTheInterval(t *testing.T) {
	r := rand.New(rand.NewSource(3))
	for range 20000 {
		period, lost := 1+r.Intn(1<<r.Intn(21)), r.Intn(1+r.Intn(most+1))
		fresh, err := Lasts(period, lost)
		if err != api.OK {
			t.Fatalf("Lasts(%d, %d) has the error %d", period, lost, err)
		}
		list := []api.AgeOp{op(1, 7), op(2, 0), op(3, lost*period), op(2, 0), op(3, period-1), op(2, 0), op(3, 1), op(1, 8), op(2, 0)}
		if !isAllRead(fresh, list) {
			t.Fatalf("with period %d and lost %d an interval of %d is too short", period, lost, fresh)
		}
		if isAllRead(fresh-1, list) {
			t.Fatalf("with period %d and lost %d an interval of %d is not the smallest one", period, lost, fresh)
		}
	}
}

// AA1: calls in between, also with errors, change no result.
func TestNoStateIsKept(t *testing.T) {
	list, want := script("read!N tell7 tick3 read=7=3 tick3 read!F")
	for _, text := range []string{"", "tell1", "tick9", "tell1 tick9", "ticklast tell1", "tick-1 kind0", times(most, "tell1"), times(most+1, "tell1 tick1")} {
		for _, fresh := range []int{-1, 0, 9, last, last + 1} {
			Play(fresh, ops(text))
			Lasts(fresh, len(text))
			checkPlay(t, "after other calls", 5, list, want, api.OK)
			checkLasts(t, 10, 1, 19, api.OK)
		}
	}
}

// AA2: what lies behind the length of the argument is neither read nor changed.
func TestSpareCapacityIsLeftAlone(t *testing.T) {
	all := ops("read tell7 tick3 read tick-1 kind0 tick3 read tell8 read tick9 read")
	list := slices.Clone(all)
	for size := range len(all) {
		compare(t, 5, list[:size])
		if !slices.Equal(list, all) {
			t.Fatalf("with %d operations the argument has become %v", size, list)
		}
	}
	many := ops(times(most+2, "tell7"))
	compare(t, 5, many[:most])
}

// AA2: the result of one call is not that of another, and does not change with the argument.
func TestResultIsNewMemory(t *testing.T) {
	list, want := script("read!N tell7 tick3 read=7=3 tick3 read!F")
	first, _ := Play(5, list)
	again, _ := Play(5, list)
	clear(list)
	if !slices.Equal(first, want) {
		t.Errorf("Play = %v after its argument was changed; want %v", first, want)
	}
	clear(first)
	_ = append(first, api.AgeAns{Val: 1})
	if !slices.Equal(again, want) {
		t.Errorf("Play = %v after another result was changed; want %v", again, want)
	}
}
