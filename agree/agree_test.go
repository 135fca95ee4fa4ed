package agree

import (
	"math"
	"math/rand"
	"slices"
	"testing"

	"slotwright/api"
)

const (
	huge  = math.MaxInt
	least = math.MinInt
	last  = api.MaxTime
	nodes = api.MaxNode
)

// values and counts are the numbers around the limits of clock values and of numbers of liars or rounds, and such as only a wrong comparison, an overflow of 3 * liars or a narrower type takes for valid.
var (
	values = []int{least, least + 1, -1 << 62, -last - 1, -last, -last + 1, -1 << 32, -3, -2, -1, 0, 1, 2, 3, 1 << 32, last - 1, last, last + 1, 1 << 62, huge - 1, huge}
	counts = []int{least, least + 1, -1 << 62, -6148914691236517205, -1 << 32, -17, -16, -1, 0, 1, 2, 3, 4, 5, 6, 15, 16, 17, 99, 100, 101, 1 << 32, 1<<32 + 1, 6148914691236517205, 6148914691236517206, 1 << 62, huge - 1, huge}
)

// same returns n times the number v.
func same(n, v int) []int { return slices.Repeat([]int{v}, n) }

// steps returns n numbers from first on, each one greater than the one before it.
func steps(n, first int) []int {
	list := make([]int, n)
	for at := range list {
		list[at] = first + at
	}
	return list
}

// lists returns n lists of size times the number v.
func lists(n, size, v int) [][]int {
	all := make([][]int, n)
	for at := range all {
		all[at] = same(size, v)
	}
	return all
}

// network is what the functions are called with.
type network struct {
	shows []int
	liars int
	lies  [][]int
	many  int
}

// copied returns a network that shares nothing with n.
func (n network) copied() network {
	n.shows, n.lies = slices.Clone(n.shows), slices.Clone(n.lies)
	for at := range n.lies {
		n.lies[at] = slices.Clone(n.lies[at])
	}
	return n
}

// is tells whether two networks have the same numbers.
func (n network) is(other network) bool {
	return n.liars == other.liars && n.many == other.many && slices.Equal(n.shows, other.shows) && slices.EqualFunc(n.lies, other.lies, slices.Equal)
}

// valid returns a network of 7 clocks and 2 liars, without an error.
func valid() network {
	return network{shows: []int{40, -10, 20, 0, 30, 77, -77}, liars: 2, lies: lists(7, 2, 5), many: 3}
}

// someTime returns a value of any order of magnitude, on either side of 0.
func someTime(r *rand.Rand) int {
	v := r.Intn(1<<r.Intn(41) + 1)
	switch r.Intn(6) {
	case 0:
		v = last - r.Intn(3)
	case 1:
		v = r.Intn(4)
	}
	if r.Intn(2) == 0 {
		return -v
	}
	return v
}

// someTimes returns n values.
func someTimes(r *rand.Rand, n int) []int {
	list := make([]int, n)
	for at := range list {
		list[at] = someTime(r)
	}
	return list
}

// someNetwork returns a network without an error.
func someNetwork(r *rand.Rand) network {
	liars := r.Intn(6)
	size := 3*liars + 1 + r.Intn(nodes-3*liars)
	n := network{shows: someTimes(r, size), liars: liars, many: r.Intn(101)}
	for range size {
		n.lies = append(n.lies, someTimes(r, liars))
	}
	return n
}

// outside tells whether a value is no time.
func outside(v int) bool { return v < -1<<40 || v > 1<<40 }

// wrong tells what Wrong must return.
func wrong(n network) api.Errno {
	size := len(n.shows)
	switch {
	case size < 1, size > 16, n.liars < 0, n.liars > 16:
		return api.ErrRange
	case size <= 3*n.liars:
		return api.ErrShort
	case len(n.lies) != size:
		return api.ErrForm
	}
	for _, told := range n.lies {
		switch {
		case len(told) != n.liars:
			return api.ErrForm
		case slices.ContainsFunc(told, outside):
			return api.ErrRange
		}
	}
	if slices.ContainsFunc(n.shows, outside) {
		return api.ErrRange
	}
	return api.OK
}

// middle removes, k times, a smallest and a largest number, and tells the midpoint of the rest; the shift rounds down.
func middle(list []int, k int) int {
	rest := slices.Clone(list)
	for range k {
		low := slices.Index(rest, slices.Min(rest))
		rest = slices.Delete(rest, low, low+1)
		high := slices.Index(rest, slices.Max(rest))
		rest = slices.Delete(rest, high, high+1)
	}
	return (slices.Min(rest) + slices.Max(rest)) >> 1
}

// rounds tells the values after many rounds of a network without an error.
func rounds(n network, many int) []int {
	now := slices.Clone(n.shows)
	for range many {
		after := make([]int, len(now))
		for node := range now {
			var heard []int
			for other := 0; other+n.liars < len(now); other++ {
				heard = append(heard, now[other])
			}
			for _, lie := range n.lies[node] {
				heard = append(heard, lie)
			}
			after[node] = middle(heard, n.liars)
		}
		now = after
	}
	return now
}

// wide tells what Wide must return.
func wide(shows []int, liars int) (int, api.Errno) {
	if len(shows) > 16 || liars < 0 || liars > len(shows)-1 || slices.ContainsFunc(shows, outside) {
		return 0, api.ErrRange
	}
	sorted := slices.Clone(shows[:len(shows)-liars])
	slices.Sort(sorted)
	return sorted[len(sorted)-1] - sorted[0], api.OK
}

// demand fails the test unless the values and the error are the wanted ones.
func demand(t *testing.T, name string, got []int, err api.Errno, want []int, wantErr api.Errno) {
	t.Helper()
	if err != wantErr || !slices.Equal(got, want) {
		t.Fatalf("%s = %v, %d; want %v, %d", name, got, err, want, wantErr)
	}
}

// check demands of all functions what the reference finds, and that the arguments stay as they were.
func check(t *testing.T, n network) {
	t.Helper()
	before, want := n.copied(), wrong(n)
	if got := Wrong(n.shows, n.liars, n.lies); got != want {
		t.Fatalf("Wrong of %v = %d; want %d", n, got, want)
	}
	var once, often []int
	wantOften := want
	if want == api.OK {
		once = rounds(n, 1)
		if n.many < 0 || n.many > 100 {
			wantOften = api.ErrRange
		} else {
			often = rounds(n, n.many)
		}
	}
	got, err := Round(n.shows, n.liars, n.lies)
	demand(t, "Round", got, err, once, want)
	got, err = Rounds(n.shows, n.liars, n.lies, n.many)
	demand(t, "Rounds", got, err, often, wantOften)
	checkWide(t, n.shows, n.liars)
	if !n.is(before) {
		t.Fatalf("the arguments %v have become %v", before, n)
	}
}

// checkWide demands of Wide what the reference finds.
func checkWide(t *testing.T, shows []int, liars int) {
	t.Helper()
	got, err := Wide(shows, liars)
	if want, wantErr := wide(shows, liars); got != want || err != wantErr {
		t.Fatalf("Wide(%v, %d) = %d, %d; want %d, %d", shows, liars, got, err, want, wantErr)
	}
}

// checkError demands that Wrong, Round and Rounds all return this error, and no values.
func checkError(t *testing.T, name string, n network, want api.Errno) {
	t.Helper()
	if got := Wrong(n.shows, n.liars, n.lies); got != want {
		t.Errorf("%s: Wrong = %d; want %d", name, got, want)
	}
	if got, err := Round(n.shows, n.liars, n.lies); err != want || len(got) > 0 {
		t.Errorf("%s: Round = %v, %d; want no values, %d", name, got, err, want)
	}
	if got, err := Rounds(n.shows, n.liars, n.lies, n.many); err != want || len(got) > 0 {
		t.Errorf("%s: Rounds = %v, %d; want no values, %d", name, got, err, want)
	}
}

// M1: the errors of Wrong by hand; Round and Rounds return the same.
func TestErrors(t *testing.T) {
	four := []int{0, 10, 20, 99}
	for _, c := range []struct {
		name  string
		shows []int
		liars int
		lies  [][]int
		want  api.Errno
	}{
		{"no clock", nil, 0, nil, api.ErrRange},
		{"no clock, one liar", nil, 1, nil, api.ErrRange},
		{"no clock, one list", nil, 0, lists(1, 0, 0), api.ErrRange},
		{"MaxNode + 1 clocks", same(nodes+1, 0), 0, lists(nodes+1, 0, 0), api.ErrRange},
		{"MaxNode + 1 clocks, 5 liars", same(nodes+1, 0), 5, lists(nodes+1, 5, 0), api.ErrRange},
		{"MaxNode + 1 clocks, too few of them", same(nodes+1, 0), 6, lists(nodes+1, 6, 0), api.ErrRange},
		{"very many clocks", same(100000, 0), 1, lists(100000, 1, 0), api.ErrRange},
		{"liars = -1", four, -1, lists(4, 0, 0), api.ErrRange},
		{"liars = MaxNode", same(nodes, 0), nodes, lists(nodes, nodes, 0), api.ErrShort},
		{"liars = MaxNode + 1", same(nodes, 0), nodes + 1, lists(nodes, nodes+1, 0), api.ErrRange},
		{"the greatest number of liars", four, huge, lists(4, 0, 0), api.ErrRange},
		{"the smallest number of liars", four, least, lists(4, 0, 0), api.ErrRange},
		{"one clock, one liar", []int{0}, 1, lists(1, 1, 0), api.ErrShort},
		{"3 * liars clocks", four[:3], 1, lists(3, 1, 0), api.ErrShort},
		{"3 * liars clocks, 2 liars", same(6, 0), 2, lists(6, 2, 0), api.ErrShort},
		{"3 * liars clocks, 5 liars", same(15, 0), 5, lists(15, 5, 0), api.ErrShort},
		{"MaxNode clocks, 6 liars", same(nodes, 0), 6, lists(nodes, 6, 0), api.ErrShort},
		{"no lists", four, 1, nil, api.ErrForm},
		{"no lists and no liars", four, 0, nil, api.ErrForm},
		{"one list too few", four, 1, lists(3, 1, 0), api.ErrForm},
		{"one list too many", four, 1, lists(5, 1, 0), api.ErrForm},
		{"a list for each correct node only", same(7, 0), 2, lists(5, 2, 0), api.ErrForm},
		{"an element too few in the first list", four, 1, [][]int{{}, {1}, {1}, {1}}, api.ErrForm},
		{"an element too many in the first list", four, 1, [][]int{{1, 1}, {1}, {1}, {1}}, api.ErrForm},
		{"an element too few in the last list", four, 1, [][]int{{1}, {1}, {1}, nil}, api.ErrForm},
		{"an element too many in the last list", four, 1, [][]int{{1}, {1}, {1}, {1, 1}}, api.ErrForm},
		{"an element without a liar", []int{0}, 0, [][]int{{1}}, api.ErrForm},
		{"a lie before -MaxTime", four, 1, [][]int{{1}, {-last - 1}, {1}, {1}}, api.ErrRange},
		{"a lie after MaxTime", four, 1, [][]int{{1}, {1}, {last + 1}, {1}}, api.ErrRange},
		{"a wrong lie to a Byzantine node", four, 1, [][]int{{1}, {1}, {1}, {last + 1}}, api.ErrRange},
		{"the greatest lie", four, 1, [][]int{{huge}, {1}, {1}, {1}}, api.ErrRange},
		{"the smallest lie", four, 1, [][]int{{least}, {1}, {1}, {1}}, api.ErrRange},
		{"a clock before -MaxTime", []int{0, -last - 1, 0, 0}, 1, lists(4, 1, 0), api.ErrRange},
		{"a clock after MaxTime", []int{last + 1, 0, 0, 0}, 1, lists(4, 1, 0), api.ErrRange},
		{"a Byzantine clock before -MaxTime", []int{0, 0, 0, -last - 1}, 1, lists(4, 1, 0), api.ErrRange},
		{"a Byzantine clock after MaxTime", []int{0, 0, 0, last + 1}, 1, lists(4, 1, 0), api.ErrRange},
		{"the only clock after MaxTime", []int{last + 1}, 0, lists(1, 0, 0), api.ErrRange},
		{"the greatest number", []int{0, 0, huge, 0}, 1, lists(4, 1, 0), api.ErrRange},
		{"the smallest number", []int{0, 0, 0, least}, 1, lists(4, 1, 0), api.ErrRange},
		{"a wrong length behind a wrong value", four, 1, [][]int{{1}, {last + 1}, {}, {1}}, api.ErrRange},
		{"a wrong value behind a wrong length", four, 1, [][]int{{1}, {}, {last + 1}, {1}}, api.ErrForm},
		{"a wrong length and a wrong value in one list", four, 1, [][]int{{1}, {last + 1, 1}, {1}, {1}}, api.ErrForm},
		{"a wrong clock and a wrong length", []int{huge, 0, 0, 0}, 1, [][]int{{1}, {1}, {1}, {}}, api.ErrForm},
		{"a wrong clock and one list too few", []int{huge, 0, 0, 0}, 1, lists(3, 1, 0), api.ErrForm},
		{"a wrong clock, too few clocks", []int{huge, 0, 0}, 1, lists(3, 1, 0), api.ErrShort},
		{"too few clocks and no lists", four[:3], 1, nil, api.ErrShort},
		{"everything wrong", same(nodes+1, huge), -1, lists(3, 4, least), api.ErrRange},
	} {
		checkError(t, c.name, network{c.shows, c.liars, c.lies, 2}, c.want)
		checkError(t, c.name+", also many", network{c.shows, c.liars, c.lies, -1}, c.want)
	}
}

// M1: Wrong accepts everything up to the limits.
func TestNoError(t *testing.T) {
	for _, c := range []struct {
		name  string
		shows []int
		liars int
		lies  [][]int
	}{
		{"one clock", []int{0}, 0, lists(1, 0, 0)},
		{"one clock, its list nil", []int{0}, 0, [][]int{nil}},
		{"MaxNode clocks", same(nodes, 0), 0, lists(nodes, 0, 0)},
		{"MaxNode clocks, one liar", same(nodes, 0), 1, lists(nodes, 1, 0)},
		{"MaxNode clocks, 5 liars", same(nodes, 0), 5, lists(nodes, 5, 0)},
		{"3 * liars + 1 clocks", same(4, 0), 1, lists(4, 1, 0)},
		{"3 * liars + 1 clocks, 2 liars", same(7, 0), 2, lists(7, 2, 0)},
		{"all of -MaxTime", same(4, -last), 1, lists(4, 1, -last)},
		{"all of MaxTime", same(4, last), 1, lists(4, 1, last)},
		{"-1, 0 and 1", []int{-1, 0, 1, 0}, 1, [][]int{{-1}, {0}, {1}, {0}}},
	} {
		if got := Wrong(c.shows, c.liars, c.lies); got != api.OK {
			t.Errorf("%s: Wrong = %d; want OK", c.name, got)
		}
	}
}

// M1, M2: of several faults the one that the chapter names first decides.
func TestOrderOfErrors(t *testing.T) {
	faults := []struct {
		name string
		want api.Errno
		make func(n *network)
	}{
		{"no clocks", api.ErrRange, func(n *network) { n.shows = nil }},
		{"too many clocks", api.ErrRange, func(n *network) { n.shows = append(n.shows, same(nodes, 0)...) }},
		{"liars below 0", api.ErrRange, func(n *network) { n.liars = -1 }},
		{"too many liars", api.ErrRange, func(n *network) { n.liars = nodes + 1 }},
		{"too few clocks", api.ErrShort, func(n *network) { n.shows = n.shows[:min(6, len(n.shows))] }},
		{"too few lists", api.ErrForm, func(n *network) { n.lies = n.lies[:6] }},
		{"the length of the first list", api.ErrForm, func(n *network) { n.lies[0] = append(n.lies[0], 0) }},
		{"a value of the first list", api.ErrRange, func(n *network) { n.lies[0][1] = last + 1 }},
		{"the length of the second list", api.ErrForm, func(n *network) { n.lies[1] = append(n.lies[1], 0) }},
		{"a value of the second list", api.ErrRange, func(n *network) { n.lies[1][0] = -last - 1 }},
		{"the length of the last list", api.ErrForm, func(n *network) { n.lies[6] = append(n.lies[6], 0) }},
		{"a clock", api.ErrRange, func(n *network) { n.shows[0] = last + 1 }},
	}
	for at, first := range faults {
		for _, second := range faults[at:] {
			n := valid()
			second.make(&n)
			first.make(&n)
			checkError(t, first.name+", "+second.name, n, first.want)
		}
		n := valid()
		n.many = 101
		for later := len(faults) - 1; later > max(at, 3); later-- {
			faults[later].make(&n)
		}
		first.make(&n)
		checkError(t, first.name+" and all that follow", n, first.want)
	}
}

// M1: the width by hand.
func TestWide(t *testing.T) {
	for _, c := range []struct {
		name  string
		shows []int
		liars int
		want  int
		err   api.Errno
	}{
		{"one liar far away", []int{0, 10, 20, 99}, 1, 20, api.OK},
		{"no liar", []int{0, 10, 20, 99}, 0, 99, api.OK},
		{"a liar below", []int{5, 3, 9, -99}, 1, 6, api.OK},
		{"the first clock counts", []int{-99, 3, 9, 5}, 1, 108, api.OK},
		{"the last correct clock counts", []int{3, 9, 50, 5}, 1, 47, api.OK},
		{"any order", []int{7, -8, 3, 12, 0}, 0, 20, api.OK},
		{"equal values", []int{4, 4, 4}, 0, 0, api.OK},
		{"values below 0", []int{-4, -9, -6}, 0, 5, api.OK},
		{"one clock", []int{-7}, 0, 0, api.OK},
		{"both limits", []int{last, -last}, 0, 2199023255552, api.OK},
		{"both limits, one a liar's", []int{last, -last}, 1, 0, api.OK},
		{"more than a third are liars", []int{1, 5, 9, 2}, 2, 4, api.OK},
		{"liars one less than the clocks", []int{1, 5, 9}, 2, 0, api.OK},
		{"liars as many as the clocks", []int{1, 5, 9}, 3, 0, api.ErrRange},
		{"liars more than the clocks", []int{1, 5, 9}, 4, 0, api.ErrRange},
		{"one clock, one liar", []int{1}, 1, 0, api.ErrRange},
		{"MaxNode clocks, no liar", steps(nodes, -3), 0, 15, api.OK},
		{"MaxNode clocks, MaxNode - 1 liars", steps(nodes, -3), nodes - 1, 0, api.OK},
		{"MaxNode clocks, MaxNode - 2 liars", steps(nodes, -3), nodes - 2, 1, api.OK},
		{"MaxNode clocks, MaxNode liars", steps(nodes, -3), nodes, 0, api.ErrRange},
		{"MaxNode clocks, MaxNode + 1 liars", steps(nodes, -3), nodes + 1, 0, api.ErrRange},
		{"MaxNode + 1 clocks", steps(nodes+1, -3), 0, 0, api.ErrRange},
		{"MaxNode + 1 clocks, MaxNode liars", steps(nodes+1, -3), nodes, 0, api.ErrRange},
		{"no clock", nil, 0, 0, api.ErrRange},
		{"no clock, liars = -1", nil, -1, 0, api.ErrRange},
		{"liars = -1", []int{1, 5, 9}, -1, 0, api.ErrRange},
		{"the greatest number of liars", []int{1, 5, 9}, huge, 0, api.ErrRange},
		{"the smallest number of liars", []int{1, 5, 9}, least, 0, api.ErrRange},
		{"a clock after MaxTime", []int{1, last + 1, 9}, 1, 0, api.ErrRange},
		{"a clock before -MaxTime", []int{-last - 1, 1, 9}, 1, 0, api.ErrRange},
		{"a Byzantine clock after MaxTime", []int{1, 5, last + 1}, 1, 0, api.ErrRange},
		{"a Byzantine clock before -MaxTime", []int{1, 5, -last - 1}, 1, 0, api.ErrRange},
		{"the greatest and the smallest number", []int{huge, least}, 0, 0, api.ErrRange},
	} {
		if got, err := Wide(c.shows, c.liars); got != c.want || err != c.err {
			t.Errorf("%s: Wide = %d, %d; want %d, %d", c.name, got, err, c.want, c.err)
		}
	}
}

// M2: one round by hand.
func TestRound(t *testing.T) {
	const half = 549755813888 // MaxTime / 2
	for _, c := range []struct {
		name  string
		shows []int
		liars int
		lies  [][]int
		want  []int
	}{
		{"the example", []int{0, 10, 20, 99}, 1, [][]int{{-100}, {0}, {1000}, {-5}}, []int{5, 5, 15, 5}},
		{"the example, in another order", []int{20, 0, 10, 99}, 1, [][]int{{1000}, {-100}, {5}, {15}}, []int{15, 5, 7, 12}},
		{"the value that a Byzantine node shows does not matter", []int{0, 10, 20, last}, 1, [][]int{{-100}, {0}, {1000}, {-5}}, []int{5, 5, 15, 5}},
		{"one clock", []int{7}, 0, [][]int{{}}, []int{7}},
		{"one clock below 0", []int{-7}, 0, [][]int{nil}, []int{-7}},
		{"a sum of -1", []int{-1, 0}, 0, lists(2, 0, 0), []int{-1, -1}},
		{"a sum of 1", []int{0, 1}, 0, lists(2, 0, 0), []int{0, 0}},
		{"an odd sum below 0", []int{-1, -2}, 0, lists(2, 0, 0), []int{-2, -2}},
		{"an odd sum of both signs, below 0", []int{4, -7}, 0, lists(2, 0, 0), []int{-2, -2}},
		{"an odd sum of both signs, above 0", []int{-4, 7}, 0, lists(2, 0, 0), []int{1, 1}},
		{"an even sum below 0", []int{-1, -3}, 0, lists(2, 0, 0), []int{-2, -2}},
		{"the midpoint, not the mean", []int{0, 0, 0, 100}, 0, lists(4, 0, 0), same(4, 50)},
		{"odd sums below 0, one liar", []int{-10, -3, -6, 0}, 1, [][]int{{-100}, {-5}, {9}, {-10}}, []int{-8, -6, -5, -8}},
		{"a liar that tells the truth", []int{8, 8, 8, 8}, 1, lists(4, 1, 8), same(4, 8)},
		{"equal clocks and a wild liar", []int{8, 8, 8, 8}, 1, [][]int{{last}, {-last}, {0}, {9}}, same(4, 8)},
		{"the limits", []int{-last, last, last, 3}, 1, [][]int{{last}, {-last}, {0}, {1}}, []int{last, 0, half, half}},
		{"almost the limits, below 0", []int{-last, -last + 1, -last, 0}, 1, [][]int{{last}, {-last}, {-last + 1}, {0}}, []int{-last, -last, -last, -last}},
		{"five clocks, one liar", []int{30, 0, 10, 21, 5}, 1, [][]int{{-1}, {100}, {10}, {25}, {0}}, []int{10, 20, 15, 17, 10}},
		{"two liars, 3 * liars + 1 clocks", []int{1, 3, 6, 10, 20, 0, 0}, 2, [][]int{{-9, -9}, {99, 99}, {-9, 99}, {99, -9}, {4, 5}, {7, 2}, {6, 6}}, []int{3, 13, 6, 6, 5, 5, 6}},
		{"five liars below", steps(nodes, 0), 5, lists(nodes, 5, -last), same(nodes, 2)},
		{"five liars above", steps(nodes, 0), 5, lists(nodes, 5, last), same(nodes, 7)},
		{"five liars on both sides", steps(nodes, 0), 5, slices.Repeat([][]int{{last, -last, last, -last, last}}, nodes), same(nodes, 5)},
		{"MaxNode clocks, no liar", steps(nodes, -20), 0, lists(nodes, 0, 0), same(nodes, -13)},
	} {
		got, err := Round(c.shows, c.liars, c.lies)
		if err != api.OK || !slices.Equal(got, c.want) {
			t.Errorf("%s: Round = %v, %d; want %v, OK", c.name, got, err, c.want)
		}
	}
}

// M2: several rounds by hand.
func TestRounds(t *testing.T) {
	example := network{shows: []int{0, 10, 20, 99}, liars: 1, lies: [][]int{{-100}, {0}, {1000}, {-5}}}
	limits := network{shows: []int{-last, last, 0, 7}, liars: 1, lies: [][]int{{-last}, {last}, {0}, {last}}}
	for _, c := range []struct {
		n    network
		many int
		want []int
		err  api.Errno
	}{
		{example, -1, nil, api.ErrRange},
		{example, 0, []int{0, 10, 20, 99}, api.OK},
		{example, 1, []int{5, 5, 15, 5}, api.OK},
		{example, 2, []int{5, 5, 10, 5}, api.OK},
		{example, 3, []int{5, 5, 7, 5}, api.OK},
		{example, 4, []int{5, 5, 6, 5}, api.OK},
		{example, 5, []int{5, 5, 5, 5}, api.OK},
		{example, 100, []int{5, 5, 5, 5}, api.OK},
		{example, 101, nil, api.ErrRange},
		{example, huge, nil, api.ErrRange},
		{example, least, nil, api.ErrRange},
		{limits, 0, []int{-last, last, 0, 7}, api.OK},
		{limits, 1, []int{-last / 2, last / 2, 0, last / 2}, api.OK},
		{limits, 39, []int{-2, 2, 0, 2}, api.OK},
		{limits, 40, []int{-1, 1, 0, 1}, api.OK},
		{limits, 41, []int{-1, 0, 0, 0}, api.OK},
		{limits, 100, []int{-1, 0, 0, 0}, api.OK},
	} {
		got, err := Rounds(c.n.shows, c.n.liars, c.n.lies, c.many)
		if err != c.err || !slices.Equal(got, c.want) {
			t.Errorf("Rounds of %v, %d times = %v, %d; want %v, %d", c.n, c.many, got, err, c.want, c.err)
		}
	}
}

// M1, M2: every number of clocks, of liars and of lists around the limits.
func TestAllSizes(t *testing.T) {
	for size := range nodes + 3 {
		for _, liars := range counts {
			told := liars
			if told < 0 || told > 30 {
				told = 1
			}
			for number := range size + 3 {
				check(t, network{steps(size, -5), liars, lists(number, told, -1), 2})
			}
		}
	}
}

// M1, M2: every length of every list.
func TestAllLengthsOfLists(t *testing.T) {
	for _, size := range []int{1, 4, 7, nodes} {
		for liars := 0; 3*liars < size; liars++ {
			for place := range size {
				for length := range liars + 3 {
					n := network{steps(size, 0), liars, lists(size, liars, 3), 1}
					n.lies[place] = same(length, 3)
					check(t, n)
				}
			}
		}
	}
}

// M1, M2: a number around the limits at every place of the clocks and of the lies.
func TestOneOddValue(t *testing.T) {
	for _, size := range []int{1, 4, 5, 7, nodes} {
		for liars := 0; 3*liars < size; liars++ {
			for _, v := range values {
				for place := range size {
					n := network{steps(size, -3), liars, lists(size, liars, 1), 4}
					n.shows[place] = v
					check(t, n)
					for at := range liars {
						n = network{steps(size, -3), liars, lists(size, liars, 1), 4}
						n.lies[place][at] = v
						check(t, n)
					}
				}
			}
		}
	}
}

// M2: every number of rounds around the limits.
func TestAllCountsOfRounds(t *testing.T) {
	for many := -3; many < 104; many++ {
		n := valid()
		n.many = many
		check(t, n)
	}
	for _, many := range counts {
		n := valid()
		n.many = many
		check(t, n)
	}
}

// M1: every list of up to three numbers around the limits, with every number of liars around its limits.
func TestAllWidths(t *testing.T) {
	for _, liars := range counts {
		checkWide(t, nil, liars)
		for _, a := range values {
			checkWide(t, []int{a}, liars)
			for _, b := range values {
				checkWide(t, []int{a, b}, liars)
				for _, c := range values {
					checkWide(t, []int{a, b, c}, liars)
				}
			}
		}
	}
}

// M2: every small network of four clocks on both sides of 0, with every lie.
func TestAllSmallNetworks(t *testing.T) {
	for code := range 7 * 7 * 7 {
		shows := []int{code%7 - 3, code/7%7 - 3, code/49 - 3, 0}
		for lie := -4; lie < 5; lie++ {
			check(t, network{shows, 1, [][]int{{lie}, {-lie}, {lie + 1}, {0}}, 2})
		}
		check(t, network{shows, 0, lists(4, 0, 0), 2})
	}
}

// M1, M2: many networks of all sizes and orders of magnitude.
func TestManyNetworks(t *testing.T) {
	r := rand.New(rand.NewSource(1))
	for range 2000 {
		check(t, someNetwork(r))
	}
}

// M2: Rounds is Round, again and again, with the same lies.
func TestRoundsAreRounds(t *testing.T) {
	r := rand.New(rand.NewSource(2))
	for range 40 {
		n := someNetwork(r)
		now := n.shows
		for many := range 101 {
			got, err := Rounds(n.shows, n.liars, n.lies, many)
			demand(t, "Rounds", got, err, now, api.OK)
			now, err = Round(now, n.liars, n.lies)
			if err != api.OK {
				t.Fatalf("Round %d of %v has the error %d", many, n, err)
			}
		}
	}
}

// M2: the values that the Byzantine nodes themselves show have no effect on a round.
func TestByzantineClocksHaveNoEffect(t *testing.T) {
	r := rand.New(rand.NewSource(3))
	for range 2000 {
		n := someNetwork(r)
		want, wantErr := Round(n.shows, n.liars, n.lies)
		for liar := range n.liars {
			n.shows[len(n.shows)-1-liar] = someTime(r)
		}
		got, err := Round(n.shows, n.liars, n.lies)
		demand(t, "Round with other Byzantine clocks", got, err, want, wantErr)
	}
}

// The property of the whole: lies never move a value out of the range of the correct ones, and every round halves the disagreement, up to the rounding of an odd one.
func TestEveryRoundHalves(t *testing.T) {
	r := rand.New(rand.NewSource(4))
	for range 2000 {
		n := someNetwork(r)
		correct := n.shows[:len(n.shows)-n.liars]
		before, _ := Wide(n.shows, n.liars)
		got, err := Round(n.shows, n.liars, n.lies)
		if err != api.OK || slices.Min(got) < slices.Min(correct) || slices.Max(got) > slices.Max(correct) {
			t.Fatalf("Round of %v = %v, %d", n, got, err)
		}
		if after, err := Wide(got, n.liars); err != api.OK || after > (before+1)/2 {
			t.Fatalf("a round of %v makes the width %d, %d; it was %d", n, after, err, before)
		}
		got, _ = Rounds(n.shows, n.liars, n.lies, 100)
		if after, err := Wide(got, n.liars); err != api.OK || after > 1 {
			t.Fatalf("100 rounds of %v make the width %d, %d", n, after, err)
		}
	}
}

// AA1: calls in between, also wrong ones, change no result.
func TestNoStateIsKept(t *testing.T) {
	for _, v := range values {
		n := valid()
		n.shows[0], n.lies[1][1] = v, v
		check(t, n)
		n.liars = v
		check(t, n)
		check(t, valid())
	}
}

// AA2: the spare capacity of the arguments is neither read nor modified.
func TestSpareCapacityIsLeftAlone(t *testing.T) {
	for many := range 4 {
		n := valid()
		n.many = many
		shows, lies := append(n.shows, huge, least), append(n.lies, []int{huge}, nil)
		for at := range 7 {
			lies[at] = append(lies[at], huge, least)
		}
		all := network{shows: shows, lies: lies}
		before := all.copied()
		short := network{shows[:7], 2, slices.Clone(lies)[:7], many}
		for at := range short.lies {
			short.lies[at] = short.lies[at][:2]
		}
		check(t, short)
		if !all.is(before) {
			t.Fatalf("with %d rounds the arguments have become %v", many, all)
		}
	}
}

// AA2: the results are new memory, also after no round and where a round changes nothing.
func TestResultsAreNew(t *testing.T) {
	for many := range 3 {
		n := network{shows: same(4, 8), liars: 1, lies: lists(4, 1, 8)}
		before := n.copied()
		got, _ := Rounds(n.shows, n.liars, n.lies, many)
		once, _ := Round(n.shows, n.liars, n.lies)
		for at := range got {
			got[at], once[at] = 1, 2
		}
		if !n.is(before) {
			t.Errorf("a change of the result of %d rounds changes the arguments to %v", many, n)
		}
		got, _ = Rounds(n.shows, n.liars, n.lies, many)
		for at := range n.shows {
			n.shows[at], n.lies[at][0] = 3, 3
		}
		if !slices.Equal(got, same(4, 8)) {
			t.Errorf("a change of the arguments changes the result of %d rounds to %v", many, got)
		}
	}
}

// AA2: arguments that share memory with each other.
func TestSharedArguments(t *testing.T) {
	shared := []int{0, 10, 20, 99, -100}
	n := network{shared[:4], 1, [][]int{shared[4:], shared[:1], shared[3:4], shared[2:3]}, 2}
	check(t, n)
	got, err := Round(n.shows, n.liars, n.lies)
	demand(t, "Round", got, err, []int{5, 5, 15, 15}, api.OK)
}

// AA3: nil and an empty slice are the same argument.
func TestNilAndEmpty(t *testing.T) {
	for _, count := range counts {
		check(t, network{nil, count, nil, 1})
		check(t, network{[]int{}, count, [][]int{}, 1})
		check(t, network{[]int{5, -6}, 0, [][]int{nil, {}}, count})
		check(t, network{[]int{5, -6}, 0, [][]int{{}, nil}, count})
		check(t, network{[]int{5, -6}, count, [][]int{}, 1})
		check(t, network{[]int{5, -6}, count, nil, 1})
	}
}
