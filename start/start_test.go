package start

import (
	"math"
	"math/rand"
	"slices"
	"testing"

	"slotwright/api"
)

const (
	huge  = math.MaxInt
	least = math.MinInt
	units = 1 << 20
	nodes = api.MaxNode
)

// numbers are values of each argument around the limits, and such as only a narrower type takes for valid.
var numbers = []int{least, least + 1, -1 << 62, -api.MaxTime, -1 << 32, -1<<32 + 1, -1<<32 + 1000, -units - 1, -units, -1001, -1000, -256, -255, -2, -1, 0, 1, 2, 3, 255, 256, 257, 999, 1000, 1001, 1002, 1 << 16, 1<<16 + 1, units - 1, units, units + 1, units + 2, 2 * units, 1<<31 - 1, 1 << 31, 1 << 32, 1<<32 + 1, 1<<32 + 1000, api.MaxTime, 1 << 62, huge - 1, huge}

// same returns n times the number v.
func same(n, v int) []int { return slices.Repeat([]int{v}, n) }

// steps returns n numbers, of which the first one is one step and each other one is a step greater than the one before it.
func steps(n, step int) []int {
	list := make([]int, n)
	for at := range list {
		list[at] = (at + 1) * step
	}
	return list
}

// with returns the list with v at a place.
func with(list []int, place, v int) []int {
	list = slices.Clone(list)
	list[place] = v
	return list
}

// outcome is what Play returns.
type outcome struct {
	node, time, collisions int
	err                    api.Errno
}

// outside tells whether a number is not between low and high.
func outside(low, high int) func(int) bool { return func(v int) bool { return v < low || v > high } }

// wrong tells what Wrong must return.
func wrong(on, waits []int, late int) api.Errno {
	if len(on) != len(waits) {
		return api.ErrForm
	}
	if len(on) < 1 || len(on) > 16 || late <= 0 || late > 1000 || slices.ContainsFunc(on, outside(0, 1048576)) || slices.ContainsFunc(waits, outside(1, 1048576)) {
		return api.ErrRange
	}
	for one := range waits {
		for other := range one {
			if waits[one]-waits[other] < late && waits[other]-waits[one] < late {
				return api.ErrHeld
			}
		}
	}
	return api.OK
}

// scheduled tells from the times of all collisions for when a node is scheduled.
func scheduled(on, wait, late int, collisions []int) int {
	for _, at := range slices.Backward(collisions) {
		if on <= at {
			return at + late + wait
		}
	}
	return on + wait
}

// expected tells what Play must return: after each collision it works out the schedule anew, and puts it in order.
func expected(on, waits []int, late int) outcome {
	if err := wrong(on, waits, late); err != api.OK {
		return outcome{err: err}
	}
	collisions := []int{}
	for {
		var order [][2]int
		for node := range on {
			order = append(order, [2]int{scheduled(on[node], waits[node], late, collisions), node})
		}
		slices.SortFunc(order, func(a, b [2]int) int { return slices.Compare(a[:], b[:]) })
		if len(order) == 1 || order[1][0]-order[0][0] >= late {
			return outcome{order[0][1], order[0][0], len(collisions), api.OK}
		}
		collisions = append(collisions, order[0][0])
	}
}

// play calls Play, and demands that the arguments stay as they were.
func play(t *testing.T, on, waits []int, late int) outcome {
	t.Helper()
	onBefore, waitsBefore := slices.Clone(on), slices.Clone(waits)
	node, time, collisions, err := Play(on, waits, late)
	if !slices.Equal(on, onBefore) || !slices.Equal(waits, waitsBefore) {
		t.Fatalf("Play(%v, %v, %d) changes the arguments to %v, %v", onBefore, waitsBefore, late, on, waits)
	}
	return outcome{node, time, collisions, err}
}

// checkWrong demands this result of Wrong, and that the arguments stay as they were.
func checkWrong(t *testing.T, name string, on, waits []int, late int, want api.Errno) {
	t.Helper()
	onBefore, waitsBefore := slices.Clone(on), slices.Clone(waits)
	if got := Wrong(on, waits, late); got != want {
		t.Fatalf("%s: Wrong(%v, %v, %d) = %d; want %d", name, onBefore, waitsBefore, late, got, want)
	}
	if !slices.Equal(on, onBefore) || !slices.Equal(waits, waitsBefore) {
		t.Fatalf("%s: Wrong(%v, %v, %d) changes the arguments to %v, %v", name, onBefore, waitsBefore, late, on, waits)
	}
}

// check demands of both functions this outcome; the reference must find the same.
func check(t *testing.T, name string, on, waits []int, late int, want outcome) {
	t.Helper()
	checkWrong(t, name, on, waits, late, want.err)
	if got := play(t, on, waits, late); got != want {
		t.Fatalf("%s: Play(%v, %v, %d) = %v; want %v", name, on, waits, late, got, want)
	}
	if got := expected(on, waits, late); got != want {
		t.Fatalf("%s: the reference finds %v for %v, %v, %d; want %v", name, got, on, waits, late, want)
	}
}

// checkError demands that both functions return this error, and nothing else.
func checkError(t *testing.T, name string, on, waits []int, late int, want api.Errno) {
	t.Helper()
	check(t, name, on, waits, late, outcome{err: want})
}

// compare demands of both functions what the reference finds, and returns that.
func compare(t *testing.T, on, waits []int, late int) outcome {
	t.Helper()
	want := expected(on, waits, late)
	check(t, "against the reference", on, waits, late, want)
	return want
}

// playCase is a startup without an error, and its outcome.
type playCase struct {
	name                   string
	on, waits              []int
	late                   int
	node, time, collisions int
}

// demand fails the test for each startup that does not have its outcome, also with the nodes in other orders, and with all of them switched on at one time.
func demand(t *testing.T, cases []playCase) {
	t.Helper()
	for _, c := range cases {
		want := outcome{c.node, c.time, c.collisions, api.OK}
		check(t, c.name, c.on, c.waits, c.late, want)
		checkOrders(t, c.name, c.on, c.waits, c.late, want)
		for _, time := range []int{0, 1, 30, units} {
			checkTogether(t, c.name, time, c.waits, c.late)
		}
	}
}

// checkOrders demands the outcome with the nodes in the opposite order, and from each node on.
func checkOrders(t *testing.T, name string, on, waits []int, late int, want outcome) {
	t.Helper()
	on, waits = slices.Clone(on), slices.Clone(waits)
	slices.Reverse(on)
	slices.Reverse(waits)
	opposite := want
	opposite.node = len(on) - 1 - want.node
	check(t, name+", in the opposite order", on, waits, late, opposite)
	for first := range on {
		turned := opposite
		turned.node = (opposite.node - first + len(on)) % len(on)
		check(t, name+", in another order", slices.Concat(on[first:], on[:first]), slices.Concat(waits[first:], waits[:first]), late, turned)
	}
}

// checkTogether demands that there is no collision if all nodes are switched on at one time.
func checkTogether(t *testing.T, name string, time int, waits []int, late int) {
	t.Helper()
	shortest := slices.Min(waits)
	want := outcome{slices.Index(waits, shortest), time + shortest, 0, api.OK}
	check(t, name+", all switched on at one time", same(len(waits), time), waits, late, want)
}

// V1: the number of nodes.
func TestNumberOfNodes(t *testing.T) {
	for _, late := range []int{1, 10, 1000} {
		checkError(t, "no node", nil, nil, late, api.ErrRange)
		checkError(t, "no node, both lists empty", []int{}, []int{}, late, api.ErrRange)
		checkError(t, "no node, one list nil", nil, []int{}, late, api.ErrRange)
		for n := 1; n <= nodes; n++ {
			checkWrong(t, "up to MaxNode nodes", same(n, 5), steps(n, late), late, api.OK)
		}
		for _, n := range []int{nodes + 1, nodes + 2, 2 * nodes, 255, 256, 257, 1000} {
			checkError(t, "more than MaxNode nodes", same(n, 5), steps(n, late), late, api.ErrRange)
		}
	}
	for _, n := range []int{1 << 16, 1<<16 + 1, units} {
		checkError(t, "very many nodes", same(n, 0), steps(n, 1), 1, api.ErrRange)
	}
}

// V1: different lengths, alone and with every other error.
func TestDifferentLengths(t *testing.T) {
	for one := range nodes + 3 {
		for other := range nodes + 3 {
			if one == other {
				continue
			}
			checkError(t, "different lengths", same(one, 0), steps(other, 10), 10, api.ErrForm)
			checkError(t, "different lengths, late too small", same(one, 0), steps(other, 10), 0, api.ErrForm)
			checkError(t, "different lengths, late too great", same(one, 0), steps(other, 10), 1001, api.ErrForm)
			checkError(t, "different lengths, on too small", same(one, -1), steps(other, 10), 10, api.ErrForm)
			checkError(t, "different lengths, on too great", same(one, units+1), steps(other, 10), 10, api.ErrForm)
			checkError(t, "different lengths, waits too short", same(one, 0), same(other, 0), 10, api.ErrForm)
			checkError(t, "different lengths, waits too long", same(one, 0), same(other, units+1), 10, api.ErrForm)
			checkError(t, "different lengths, waits too close", same(one, 0), steps(other, 9), 10, api.ErrForm)
			checkError(t, "different lengths and all else", same(one, -1), same(other, 0), 0, api.ErrForm)
		}
	}
	checkError(t, "no list of waits", []int{0}, nil, 1, api.ErrForm)
	checkError(t, "no list of on", nil, []int{1}, 1, api.ErrForm)
	checkError(t, "very many nodes in one list", []int{0}, steps(1<<16+1, 1), 1, api.ErrForm)
}

// V1: every sort of late.
func TestLate(t *testing.T) {
	for _, late := range numbers {
		want := api.OK
		if late < 1 || late > 1000 {
			want = api.ErrRange
		}
		for n := 1; n <= nodes; n++ {
			checkWrong(t, "late", same(n, 0), steps(n, 1002), late, want)
		}
		if want != api.OK {
			checkError(t, "late, waits too close", []int{0, 0}, []int{5, 5}, late, api.ErrRange)
			checkError(t, "late, on out of range", []int{0, -1}, []int{5, 5000}, late, api.ErrRange)
			checkError(t, "late, one node", []int{0}, []int{5}, late, api.ErrRange)
		}
	}
	demand(t, []playCase{
		{"1", []int{0, 0}, []int{5, 6}, 1, 0, 5, 0},
		{"1000", []int{0, 0}, []int{5, 1005}, 1000, 0, 5, 0},
		{"1000, with a collision", []int{1000, 0}, []int{5, 1005}, 1000, 0, 2010, 1},
	})
}

// V1: every sort of element at every place of both lists.
func TestElements(t *testing.T) {
	for n := 1; n <= nodes; n++ {
		on, waits := steps(n, 7), steps(n, 5000)
		for place := range n {
			for _, v := range numbers {
				isOn, isWait := v >= 0 && v <= units, v >= 1 && v <= units
				if !isOn {
					checkError(t, "on out of range", with(on, place, v), waits, 10, api.ErrRange)
					checkError(t, "on out of range, waits too close", with(on, place, v), same(n, 5), 10, api.ErrRange)
				} else if got := compare(t, with(on, place, v), waits, 10); got.err != api.OK {
					t.Fatalf("with %d at %d of %d nodes on is out of range", v, place, n)
				}
				if !isWait {
					checkError(t, "waits out of range", on, with(waits, place, v), 10, api.ErrRange)
					checkError(t, "waits out of range, the others too close", on, with(same(n, 5), place, v), 10, api.ErrRange)
				} else if got := compare(t, on, with(waits, place, v), 10); got.err != api.OK {
					t.Fatalf("with %d at %d of %d nodes waits is out of range", v, place, n)
				}
			}
		}
	}
	checkError(t, "the range of on is not that of waits", []int{0}, []int{0}, 1, api.ErrRange)
	checkError(t, "both wrong", []int{-1}, []int{0}, 1, api.ErrRange)
}

// V1: two waits that differ by every amount around late, at all pairs of places.
func TestTooClose(t *testing.T) {
	for _, late := range []int{1, 2, 3, 10, 255, 256, 257, 999, 1000} {
		for n := 2; n <= nodes; n++ {
			for one := range n {
				for other := range n {
					if one == other {
						continue
					}
					for _, apart := range []int{0, 1, late / 2, late - 1, late, late + 1} {
						want := api.OK
						if apart < late {
							want = api.ErrHeld
						}
						waits := steps(n, 5000)
						waits[one] = waits[other] + apart
						if got := Wrong(same(n, 0), waits, late); got != want {
							t.Fatalf("Wrong of on of 0, %v and %d = %d; want %d", waits, late, got, want)
						}
					}
				}
			}
		}
	}
}

// V1, V2: waits by hand.
func TestWaits(t *testing.T) {
	for _, c := range []struct {
		name  string
		waits []int
		late  int
		want  api.Errno
	}{
		{"one node", []int{5}, 1000, api.OK},
		{"equal", []int{5, 5}, 1, api.ErrHeld},
		{"one apart, late 1", []int{5, 6}, 1, api.OK},
		{"one apart, late 2", []int{5, 6}, 2, api.ErrHeld},
		{"two apart, late 2", []int{5, 7}, 2, api.OK},
		{"two apart, in falling order", []int{7, 5}, 2, api.OK},
		{"one apart, in falling order", []int{6, 5}, 2, api.ErrHeld},
		{"three apart", []int{5, 8}, 2, api.OK},
		{"the first and the last one equal", []int{5, 20, 40, 60, 5}, 1, api.ErrHeld},
		{"the first and the last one too close", []int{5, 20, 40, 60, 14}, 10, api.ErrHeld},
		{"the first and the last one close", []int{5, 25, 40, 60, 15}, 10, api.OK},
		{"the last ones too close", []int{5, 20, 40, 60, 69}, 10, api.ErrHeld},
		{"the first ones too close", []int{14, 5, 40, 60, 80}, 10, api.ErrHeld},
		{"the middle ones too close", []int{80, 60, 30, 39, 5}, 10, api.ErrHeld},
		{"neighbours far apart, others too close", []int{10, 30, 11, 31}, 10, api.ErrHeld},
		{"too close to two others", []int{10, 28, 19}, 10, api.ErrHeld},
		{"all equal", same(nodes, 7), 1, api.ErrHeld},
		{"all one apart", steps(nodes, 1), 2, api.ErrHeld},
		{"the shortest and the longest one", []int{1, units}, 1000, api.OK},
		{"the longest ones too close", []int{units, units - 999}, 1000, api.ErrHeld},
		{"the longest ones close", []int{units, units - 1000}, 1000, api.OK},
		{"the shortest ones too close", []int{1, 1000}, 1000, api.ErrHeld},
		{"the shortest ones close", []int{1, 1001}, 1000, api.OK},
	} {
		for _, on := range []int{0, 1, 50, units} {
			checkWrong(t, c.name, same(len(c.waits), on), c.waits, c.late, c.want)
			if c.want != api.OK {
				checkError(t, c.name, same(len(c.waits), on), c.waits, c.late, c.want)
			}
		}
	}
}

// V1, V2: of several errors the one that the chapter names first is returned.
func TestOrderOfErrors(t *testing.T) {
	faults := []struct {
		want api.Errno
		make func(s *startup)
	}{
		{api.ErrForm, func(s *startup) { s.waits = append(s.waits, 90000) }},
		{api.ErrForm, func(s *startup) { s.on = append(s.on, 3, 3) }},
		{api.ErrRange, func(s *startup) {
			for at := range nodes {
				s.add(3, 100000+5000*at)
			}
		}},
		{api.ErrRange, func(s *startup) { s.late = 0 }},
		{api.ErrRange, func(s *startup) { s.late = 1001 }},
		{api.ErrRange, func(s *startup) { s.add(-1, 20000) }},
		{api.ErrRange, func(s *startup) { s.add(units+1, 30000) }},
		{api.ErrRange, func(s *startup) { s.add(1, 0) }},
		{api.ErrRange, func(s *startup) { s.add(1, units+1) }},
		{api.ErrHeld, func(s *startup) { s.add(1, 40000); s.add(1, 40009) }},
	}
	for choice := range 1 << len(faults) {
		s, want := startup{[]int{3, 8, 1}, []int{2000, 4000, 6000}, 10}, api.OK
		for at, f := range slices.Backward(faults) {
			if choice>>at&1 == 1 {
				f.make(&s)
				want = f.want
			}
		}
		if got := compare(t, s.on, s.waits, s.late); got.err != want {
			t.Fatalf("%v has the error %d; want %d", s, got.err, want)
		}
	}
	checkError(t, "no nodes, late too small", nil, nil, 0, api.ErrRange)
	checkError(t, "no nodes, late too great", nil, nil, 1001, api.ErrRange)
	checkError(t, "too many nodes, waits too close", same(nodes+1, 0), same(nodes+1, 7), 10, api.ErrRange)
	checkError(t, "waits of 0, too close", []int{0, 0}, []int{0, 0}, 10, api.ErrRange)
	checkError(t, "a wait out of range, close to another one", []int{0, 0}, []int{units, units + 1}, 10, api.ErrRange)
}

// V2: starts without a collision.
func TestAlone(t *testing.T) {
	demand(t, []playCase{
		{"the chapter's first test", []int{0, 0}, []int{5, 20}, 10, 0, 5, 0},
		{"one node", []int{0}, []int{1}, 1, 0, 1, 0},
		{"one node, later", []int{7}, []int{5}, 3, 0, 12, 0},
		{"one node, late greater than its wait", []int{7}, []int{5}, 1000, 0, 12, 0},
		{"the shortest wait", []int{0, 0, 0}, []int{30, 10, 20}, 10, 1, 10, 0},
		{"switched on first", []int{100, 0, 200}, []int{10, 30, 20}, 10, 1, 30, 0},
		{"switched on last", []int{0, 0, 20}, []int{100, 200, 10}, 10, 2, 30, 0},
		{"before another node is switched on", []int{0, 50}, []int{20, 1}, 10, 0, 20, 0},
		{"when another node is switched on", []int{0, 20}, []int{20, 10}, 5, 0, 20, 0},
		{"the others at one time", []int{0, 100, 90}, []int{20, 30, 40}, 10, 0, 20, 0},
		{"MaxNode nodes", same(nodes, 3), steps(nodes, 10), 10, 0, 13, 0},
	})
}

// V2: another node is scheduled at T, at T + late - 1, at T + late and at T + late + 1.
func TestSecondNode(t *testing.T) {
	demand(t, []playCase{
		{"the chapter's second test", []int{0, 10}, []int{20, 11}, 5, 1, 36, 1},
		{"at T", []int{0, 10}, []int{20, 10}, 10, 1, 40, 1},
		{"at T + 1", []int{0, 11}, []int{20, 10}, 10, 1, 40, 1},
		{"at T + late - 1", []int{0, 19}, []int{20, 10}, 10, 1, 40, 1},
		{"at T + late", []int{0, 20}, []int{20, 10}, 10, 0, 20, 0},
		{"at T + late + 1", []int{0, 21}, []int{20, 10}, 10, 0, 20, 0},
		{"at T, late 1", []int{0, 10}, []int{20, 10}, 1, 1, 31, 1},
		{"at T + late, late 1", []int{0, 11}, []int{20, 10}, 1, 0, 20, 0},
		{"at T, late 1000", []int{0, 1000}, []int{2000, 1000}, 1000, 1, 4000, 1},
		{"at T + late - 1, late 1000", []int{0, 1999}, []int{2000, 1000}, 1000, 1, 4000, 1},
		{"at T + late, late 1000", []int{0, 2000}, []int{2000, 1000}, 1000, 0, 2000, 0},
		{"at T, with a longer wait", []int{30, 0}, []int{20, 50}, 10, 0, 80, 1},
		{"at T + late - 1, with a longer wait", []int{30, 9}, []int{20, 50}, 10, 0, 80, 1},
		{"at T + late, with a longer wait", []int{30, 10}, []int{20, 50}, 10, 0, 50, 0},
		{"at T + late, a third one at T + late - 1", []int{0, 30, 19}, []int{40, 20, 30}, 10, 1, 70, 1},
		{"at T + late, a third one too", []int{0, 30, 20}, []int{40, 20, 30}, 10, 0, 40, 0},
	})
	for late := 1; late <= 12; late++ {
		for apart := range 25 {
			want := outcome{0, 40, 0, api.OK}
			if apart < late {
				want = outcome{1, 40 + late + 25, 1, api.OK}
			}
			check(t, "each distance", []int{0, 15 + apart}, []int{40, 25}, late, want)
		}
	}
}

// V2: a collision of two, of some and of all nodes, also of several at T itself.
func TestOneCollision(t *testing.T) {
	waits := steps(nodes, 10)
	atOnce, soon := make([]int, nodes), make([]int, nodes)
	for node := range nodes {
		atOnce[node] = 160 - waits[node]
		soon[node] = 160 - waits[node] + node%10
	}
	demand(t, []playCase{
		{"two of three", []int{0, 10, 100}, []int{30, 20, 1}, 10, 1, 60, 1},
		{"two of three, the third one switched on long before", []int{0, 10, 0}, []int{30, 20, 70}, 10, 1, 60, 1},
		{"three at T", []int{20, 30, 10}, []int{30, 20, 40}, 10, 1, 80, 1},
		{"three before T + late", []int{20, 33, 19}, []int{30, 20, 40}, 10, 1, 80, 1},
		{"two at T, one at T + late - 1", []int{20, 39, 10}, []int{30, 20, 40}, 10, 1, 80, 1},
		{"two at T, one at T + late", []int{20, 40, 10}, []int{30, 20, 40}, 10, 1, 80, 1},
		{"one at T, two at T + late - 1", []int{20, 39, 19}, []int{30, 20, 40}, 10, 1, 80, 1},
		{"one at T, two at T + late", []int{20, 40, 20}, []int{30, 20, 40}, 10, 0, 50, 0},
		{"two of MaxNode nodes", with(same(nodes, 0), 0, 10), waits, 10, 0, 40, 1},
		{"MaxNode nodes at T", atOnce, waits, 10, 0, 180, 1},
		{"MaxNode nodes at T, late 1", atOnce, waits, 1, 0, 171, 1},
		{"MaxNode nodes before T + late", soon, waits, 10, 0, 180, 1},
	})
}

// V2: nodes that are switched on before T, at T and after it; only the last ones keep their scheduled times.
func TestSwitchedOnAroundT(t *testing.T) {
	demand(t, []playCase{
		{"in the collision, on one unit before T", []int{0, 19}, []int{20, 1}, 10, 1, 31, 1},
		{"in the collision, on at T", []int{0, 20}, []int{20, 1}, 10, 1, 31, 1},
		{"in the collision, on one unit after T", []int{0, 21}, []int{20, 1}, 10, 1, 22, 1},
		{"in the collision, on two units after T", []int{0, 22}, []int{20, 1}, 10, 1, 23, 1},
		{"at T + late - 1, on after T", []int{0, 28}, []int{20, 1}, 10, 1, 29, 1},
		{"at T + late, on after T", []int{0, 29}, []int{20, 1}, 10, 0, 20, 0},
		{"scheduled later, on one unit before T", []int{0, 11, 19}, []int{20, 10, 15}, 5, 1, 35, 1},
		{"scheduled later, on at T", []int{0, 11, 20}, []int{20, 10, 15}, 5, 1, 35, 1},
		{"scheduled later, on one unit after T", []int{0, 11, 21}, []int{20, 10, 15}, 5, 1, 50, 2},
		{"scheduled at T + late, on at T", []int{0, 11, 20}, []int{20, 10, 5}, 5, 2, 30, 1},
		{"scheduled after T + late, on one unit after T", []int{0, 11, 21}, []int{20, 10, 5}, 5, 2, 26, 1},
		{"scheduled much later, for the time of a new start", []int{0, 11, 0}, []int{20, 10, 35}, 5, 1, 35, 1},
		{"scheduled much later, but before all new starts", []int{0, 10, 0}, []int{30, 20, 40}, 5, 1, 55, 1},
		{"on at T, scheduled before all new starts", []int{0, 10, 30}, []int{30, 20, 10}, 5, 2, 45, 1},
		{"on after T, scheduled before all new starts", []int{0, 10, 31}, []int{30, 20, 10}, 5, 2, 41, 1},
		{"on after T, scheduled after a new start", []int{0, 10, 50}, []int{30, 20, 15}, 5, 1, 55, 1},
	})
	for on := range 100 {
		check(t, "a third node switched on at each time", []int{0, 10, on}, []int{30, 20, 1}, 10, withThird(on))
	}
}

// withThird tells what two nodes scheduled at 30 and a third one with a wait of 1 do, with a late of 10. If the third one does not change it, there is a collision at 30, and then a start at 60 alone.
func withThird(on int) outcome {
	switch {
	case on <= 19: // it starts at least late before 30
		return outcome{2, on + 1, 0, api.OK}
	case on <= 28: // it is the first one of a collision before 30
		return outcome{2, on + 12, 1, api.OK}
	case on <= 30: // it hears the collision at 30
		return outcome{2, 41, 1, api.OK}
	case on <= 49: // it starts between that and the next start
		return outcome{2, on + 1, 1, api.OK}
	case on <= 58: // it is the first one of a second collision
		return outcome{2, on + 12, 2, api.OK}
	case on <= 60: // it hears a second collision, at 60
		return outcome{2, 71, 2, api.OK}
	case on <= 68: // it disturbs the start at 60, and does not know it
		return outcome{2, on + 1, 2, api.OK}
	}
	return outcome{1, 60, 1, api.OK}
}

// V2: several collisions one after another, with nodes that are switched on in between.
func TestSeveralCollisions(t *testing.T) {
	demand(t, []playCase{
		{"at the second T, on one unit before it", []int{0, 11, 34}, []int{20, 10, 1}, 5, 2, 41, 2},
		{"on at the second T", []int{0, 11, 35}, []int{20, 10, 1}, 5, 2, 41, 2},
		{"on one unit after the second T", []int{0, 11, 36}, []int{20, 10, 1}, 5, 2, 37, 2},
		{"at T + late - 1 of the second T", []int{0, 11, 38}, []int{20, 10, 1}, 5, 2, 39, 2},
		{"at T + late of the second T", []int{0, 11, 39}, []int{20, 10, 1}, 5, 1, 35, 1},
		{"the second one less than late after the first one", []int{0, 38, 31}, []int{30, 1, 11}, 10, 1, 50, 2},
		{"the second one of other nodes", []int{0, 10, 51, 41}, []int{40, 30, 10, 20}, 10, 2, 81, 2},
		{"three", []int{0, 10, 60, 100}, []int{40, 30, 20, 10}, 10, 3, 130, 3},
	})
}

// V2: MaxNode - 1 collisions: at each one another node starts at the time of the node before it.
func TestMostCollisions(t *testing.T) {
	waits := steps(nodes, 10)
	slices.Reverse(waits)
	on, at := []int{0}, 160
	for node := 1; node < nodes; node++ {
		on = append(on, at-waits[node])
		at += 10 + waits[node]
	}
	demand(t, []playCase{{"MaxNode - 1 collisions", on, waits, 10, nodes - 1, 1510, nodes - 1}})
	for n := 1; n <= nodes; n++ {
		if got := compare(t, on[:n], waits[:n], 10); got.node != n-1 || got.collisions != n-1 {
			t.Errorf("the first %d nodes have the outcome %v", n, got)
		}
	}
}

// V2: the greatest times of on and waits.
func TestGreatestTimes(t *testing.T) {
	on, waits := make([]int, nodes), make([]int, nodes)
	for node := range nodes {
		on[node], waits[node] = units-15000+1000*node, units-1000*node
	}
	demand(t, []playCase{
		{"one node", []int{units}, []int{units}, 1, 0, 2097152, 0},
		{"one node, late 1000", []int{units}, []int{units}, 1000, 0, 2097152, 0},
		{"two nodes", []int{units, units}, []int{units, units - 1000}, 1000, 1, 2096152, 0},
		{"two nodes, with a collision", []int{units - 1, units}, []int{units, units - 1000}, 1000, 1, 3144728, 1},
		{"the shortest and the longest wait", []int{units, 0}, []int{1, units}, 1000, 0, 1049577, 1},
		{"the shortest and the longest wait, late 1", []int{units, 0}, []int{1, units}, 1, 1, 1048576, 0},
		{"MaxNode nodes", same(nodes, units), waits, 1000, nodes - 1, 2082152, 0},
		{"MaxNode nodes, with a collision", on, waits, 1000, nodes - 1, 3116728, 1},
	})
}

// V1, V2: all short lists of small numbers, also such as are out of range.
func TestAllShortLists(t *testing.T) {
	count := map[api.Errno]int{}
	for n := range 4 {
		many := 1
		for range n {
			many *= 49
		}
		for choice := range many {
			on, waits := make([]int, n), make([]int, n)
			rest := choice
			for node := range n {
				on[node], waits[node] = rest%7-1, rest/7%7
				rest /= 49
			}
			for late := range 4 {
				count[compare(t, on, waits, late).err]++
			}
		}
	}
	if len(count) != 3 || count[api.OK] < 10000 || count[api.ErrHeld] < 10000 {
		t.Errorf("the outcomes: %v", count)
	}
}

// startup is what both functions are called with.
type startup struct {
	on, waits []int
	late      int
}

// add adds a node to a startup.
func (s *startup) add(on, wait int) { s.on, s.waits = append(s.on, on), append(s.waits, wait) }

// someWaits returns n waits of one order of magnitude that are valid for a late, in any order.
func someWaits(r *rand.Rand, n, late int) []int {
	waits, wait, room := make([]int, n), 0, 1<<r.Intn(16)
	for at, place := range r.Perm(n) {
		wait += late + r.Intn(room)
		if at == 0 {
			wait = 1 + r.Intn(room)
		}
		waits[place] = wait
	}
	return waits
}

// someStartup returns a startup without an error, in which many nodes disturb the start of those before them; the shorter their waits, the more of them can.
func someStartup(r *rand.Rand) startup {
	late, calm := 1+r.Intn(1+r.Intn(1000)), r.Intn(10)
	waits := someWaits(r, 1+r.Intn(nodes), late)
	if r.Intn(3) == 0 {
		slices.Sort(waits)
		slices.Reverse(waits)
	}
	s := startup{late: late}
	for _, wait := range waits {
		on := r.Intn(2 * wait)
		if len(s.on) > 0 && r.Intn(10) >= calm {
			before := expected(s.on, s.waits, late)
			on = before.time - wait + r.Intn(3*late) - late
		}
		s.add(min(max(on, 0), units), wait)
	}
	return s
}

// V2: many startups.
func TestManyStartups(t *testing.T) {
	r := rand.New(rand.NewSource(1))
	count := map[int]int{}
	for range 20000 {
		s := someStartup(r)
		count[compare(t, s.on, s.waits, s.late).collisions]++
	}
	for collisions, want := range []int{2000, 2000, 1000, 500, 200, 100, 50} {
		if count[collisions] < want {
			t.Errorf("there are %d startups with %d collisions", count[collisions], collisions)
		}
	}
}

// V1, V2: many startups with one number changed.
func TestManyStartupsOutOfRange(t *testing.T) {
	r := rand.New(rand.NewSource(2))
	count := map[api.Errno]int{}
	for range 20000 {
		s := someStartup(r)
		place, v := r.Intn(len(s.on)), numbers[r.Intn(len(numbers))]
		switch r.Intn(5) {
		case 0:
			s.late = v
		case 1:
			s.on[place] = v
		case 2:
			s.waits[place] = v
		case 3:
			s.waits[place] = max(1, s.waits[r.Intn(len(s.waits))]+r.Intn(2*s.late+1)-s.late)
		case 4:
			s.add(v, units)
		}
		count[compare(t, s.on, s.waits, s.late).err]++
	}
	if count[api.OK] < 2000 || count[api.ErrRange] < 2000 || count[api.ErrHeld] < 1000 {
		t.Errorf("the outcomes: %v", count)
	}
}

// The property of the whole: exactly one node starts. It starts when it has listened for as long as it must, after fewer collisions than there are nodes, and in any order of the nodes; later switching on of all nodes changes the time alone.
func TestExactlyOneNodeStarts(t *testing.T) {
	r := rand.New(rand.NewSource(3))
	for range 5000 {
		s := someStartup(r)
		got := play(t, s.on, s.waits, s.late)
		if got.err != api.OK || got.node < 0 || got.node >= len(s.on) || got.collisions < 0 || got.collisions >= len(s.on) {
			t.Fatalf("%v has the outcome %v", s, got)
		}
		listened := got.time - s.on[got.node]
		if listened < s.waits[got.node] || got.collisions == 0 && listened != s.waits[got.node] {
			t.Fatalf("%v has the outcome %v; the node listens for %d units", s, got, listened)
		}
		checkOrders(t, "any startup", s.on, s.waits, s.late, got)
		checkTogether(t, "any startup", s.on[0], s.waits, s.late)
		checkLater(t, s, got)
	}
}

// checkLater demands that nothing but the time changes if all nodes are switched on later.
func checkLater(t *testing.T, s startup, want outcome) {
	t.Helper()
	after := (units - slices.Max(s.on)) / 2
	on := slices.Clone(s.on)
	for node := range on {
		on[node] += after
	}
	want.time += after
	check(t, "all nodes switched on later", on, s.waits, s.late, want)
}

// AA1: calls in between, also with errors, change no result.
func TestNoStateIsKept(t *testing.T) {
	r := rand.New(rand.NewSource(4))
	for range 200 {
		s := someStartup(r)
		Play(s.on, s.waits, s.late)
		Wrong(s.on, s.waits, s.late)
		check(t, "after other calls", []int{0, 11, 36}, []int{20, 10, 1}, 5, outcome{2, 37, 2, api.OK})
		Play(s.on, s.waits, 0)
		Wrong(s.on, nil, s.late)
		check(t, "after errors", []int{0, 10}, []int{20, 11}, 5, outcome{1, 36, 1, api.OK})
	}
}

// AA2: what lies behind the lengths of the arguments is neither read nor changed.
func TestSpareCapacityIsLeftAlone(t *testing.T) {
	r := rand.New(rand.NewSource(5))
	for range 500 {
		s := someStartup(r)
		size := len(s.on)
		on, waits := append(slices.Clone(s.on), same(20, -1)...), append(slices.Clone(s.waits), same(20, 0)...)
		onBefore, waitsBefore := slices.Clone(on), slices.Clone(waits)
		compare(t, on[:size], waits[:size], s.late)
		checkError(t, "different lengths", on[:size], waits[:size+1], s.late, api.ErrForm)
		checkError(t, "no node", on[:0], waits[:0], s.late, api.ErrRange)
		if !slices.Equal(on, onBefore) || !slices.Equal(waits, waitsBefore) {
			t.Fatalf("the arguments %v, %v have become %v, %v", onBefore, waitsBefore, on, waits)
		}
	}
}

// AA2: one slice may be both arguments.
func TestOneSliceForBoth(t *testing.T) {
	for n := 1; n <= nodes; n++ {
		list := steps(n, 10)
		slices.Reverse(list)
		check(t, "one slice", list, list, 10, outcome{n - 1, 20, 0, api.OK})
	}
}
