package slots

import (
	"math"
	"math/big"
	"math/rand"
	"slices"
	"testing"

	"slotwright/api"
)

const (
	longest = 1 << 20
	huge    = math.MaxInt
	least   = math.MinInt
)

// answer is what a query returns.
type answer struct {
	val int
	err api.Errno
}

func got(val int, err api.Errno) answer { return answer{val, err} }

func good(val int) answer { return answer{val, api.OK} }

func bad(err api.Errno) answer { return answer{0, err} }

func slot(node, from, long int) api.Slot { return api.Slot{Node: node, From: from, Long: long} }

// row returns n slots of one unit each, one after the other, for all nodes in turn.
func row(n int) []api.Slot {
	l := make([]api.Slot, n)
	for k := range l {
		l[k] = slot(k%api.MaxNode, k, 1)
	}
	return l
}

// fits tells whether a schedule is valid, with numbers that do not overflow.
func fits(period int, l []api.Slot) bool {
	ok := period >= 1 && period <= longest && len(l) <= api.MaxOps
	whole, end := big.NewInt(int64(period)), big.NewInt(0)
	for _, s := range l {
		from := big.NewInt(int64(s.From))
		ok = ok && s.Node >= 0 && s.Node < api.MaxNode && s.Long >= 1 && from.Cmp(end) >= 0
		end = new(big.Int).Add(from, big.NewInt(int64(s.Long)))
		ok = ok && end.Cmp(whole) <= 0
	}
	return ok
}

// cycle is a cycle of a valid schedule, written out: the node at each time, or -1, and whether a slot of it starts there.
type cycle struct {
	node   []int
	starts []bool
}

func painted(period int, l []api.Slot) cycle {
	c := cycle{make([]int, period), make([]bool, period)}
	for k := range c.node {
		c.node[k] = -1
	}
	for _, s := range l {
		for k := range s.Long {
			c.node[s.From+k] = s.Node
		}
		c.starts[s.From] = true
	}
	return c
}

func (c cycle) who(t int) answer {
	if node := c.node[t%len(c.node)]; node >= 0 {
		return good(node)
	}
	return bad(api.ErrNone)
}

func (c cycle) next(node, t int) answer {
	for at := t; at < t+len(c.node); at++ {
		k := at % len(c.node)
		if c.starts[k] && c.node[k] == node {
			return good(at)
		}
	}
	return bad(api.ErrNone)
}

func (c cycle) waits(node int) answer {
	most := good(0)
	for t := range c.node {
		next := c.next(node, t)
		if next.err != api.OK {
			return next
		}
		most.val = max(most.val, next.val-t)
	}
	return most
}

func (c cycle) share(node int) answer {
	n := 0
	for _, k := range c.node {
		if k == node && node >= 0 {
			n++
		}
	}
	return good(n)
}

// checkInvalid demands ErrForm of all queries, whatever else is wrong.
func checkInvalid(t *testing.T, name string, period int, l []api.Slot) {
	t.Helper()
	if Right(period, l) {
		t.Errorf("%s: Right(%d, %v) = true", name, period, l)
	}
	form := bad(api.ErrForm)
	for _, node := range []int{-1, 0, 1, api.MaxNode, huge} {
		for _, at := range []int{-1, 0, 3, api.MaxTime, api.MaxTime + 1, huge, least} {
			if a := got(Who(period, l, at)); a != form {
				t.Errorf("%s: Who(%d, %v, %d) = %v; want %v", name, period, l, at, a, form)
			}
			if a := got(Next(period, l, node, at)); a != form {
				t.Errorf("%s: Next(%d, %v, %d, %d) = %v; want %v", name, period, l, node, at, a, form)
			}
		}
		if a := got(Waits(period, l, node)); a != form {
			t.Errorf("%s: Waits(%d, %v, %d) = %v; want %v", name, period, l, node, a, form)
		}
		if a := got(Share(period, l, node)); a != form {
			t.Errorf("%s: Share(%d, %v, %d) = %v; want %v", name, period, l, node, a, form)
		}
	}
}

// checkTimes compares Who and Next of a valid schedule with the cycle written out.
func checkTimes(t *testing.T, period int, l []api.Slot, nodes, times []int) {
	t.Helper()
	c := painted(period, l)
	for _, at := range times {
		if a, want := got(Who(period, l, at)), c.who(at); a != want {
			t.Fatalf("Who(%d, %v, %d) = %v; want %v", period, l, at, a, want)
		}
		for _, node := range nodes {
			if a, want := got(Next(period, l, node, at)), c.next(node, at); a != want {
				t.Fatalf("Next(%d, %v, %d, %d) = %v; want %v", period, l, node, at, a, want)
			}
		}
	}
}

// checkNodes compares Waits and Share of a valid schedule with the cycle written out.
func checkNodes(t *testing.T, period int, l []api.Slot, nodes []int) {
	t.Helper()
	c := painted(period, l)
	for _, node := range nodes {
		if a, want := got(Waits(period, l, node)), c.waits(node); a != want {
			t.Fatalf("Waits(%d, %v, %d) = %v; want %v", period, l, node, a, want)
		}
		if a, want := got(Share(period, l, node)), c.share(node); a != want {
			t.Fatalf("Share(%d, %v, %d) = %v; want %v", period, l, node, a, want)
		}
	}
}

// I1: schedules that are valid.
func TestValid(t *testing.T) {
	for _, c := range []struct {
		name   string
		period int
		l      []api.Slot
	}{
		{"no slot, shortest period", 1, nil},
		{"no slot, longest period", longest, nil},
		{"the shortest cycle, filled", 1, []api.Slot{slot(0, 0, 1)}},
		{"the longest cycle, filled", longest, []api.Slot{slot(0, 0, longest)}},
		{"the last time of the longest cycle", longest, []api.Slot{slot(0, longest-1, 1)}},
		{"a slot that starts later", 10, []api.Slot{slot(0, 4, 2)}},
		{"a slot that ends at the period", 10, []api.Slot{slot(0, 4, 6)}},
		{"the largest node", 10, []api.Slot{slot(api.MaxNode-1, 0, 1)}},
		{"a slot right after another", 10, []api.Slot{slot(0, 0, 3), slot(1, 3, 3)}},
		{"a slot right after another of the same node", 10, []api.Slot{slot(5, 0, 3), slot(5, 3, 7)}},
		{"a gap between slots", 10, []api.Slot{slot(0, 0, 3), slot(1, 4, 3)}},
		{"as many slots as allowed", api.MaxOps, row(api.MaxOps)},
		{"as many slots as allowed, and a gap", longest, row(api.MaxOps)},
	} {
		if !Right(c.period, c.l) {
			t.Errorf("%s: Right = false", c.name)
		}
		if a := got(Share(c.period, c.l, api.MaxNode)); a != good(0) {
			t.Errorf("%s: Share of no node = %v", c.name, a)
		}
	}
}

// I1: schedules that are not valid; no query answers anything else than that.
func TestInvalid(t *testing.T) {
	for _, c := range []struct {
		name   string
		period int
		l      []api.Slot
	}{
		{"a period of 0", 0, nil},
		{"a period of 0 with a slot", 0, []api.Slot{slot(0, 0, 1)}},
		{"a period below 0", -1, nil},
		{"the smallest period", least, nil},
		{"a period that is too long", longest + 1, nil},
		{"a period that is too long, with a slot", longest + 1, []api.Slot{slot(0, 0, 3)}},
		{"the largest period", huge, []api.Slot{slot(0, 0, 3)}},
		{"one slot too many", api.MaxOps + 1, row(api.MaxOps + 1)},
		{"one slot too many in a long period", longest, row(api.MaxOps + 1)},
		{"a node below 0", 10, []api.Slot{slot(-1, 0, 3)}},
		{"the smallest node", 10, []api.Slot{slot(least, 0, 3)}},
		{"a node that is too large", 10, []api.Slot{slot(api.MaxNode, 0, 3)}},
		{"the largest node", 10, []api.Slot{slot(huge, 0, 3)}},
		{"a later node below 0", 10, []api.Slot{slot(0, 0, 3), slot(-1, 3, 1)}},
		{"a later node that is too large", 10, []api.Slot{slot(0, 0, 3), slot(api.MaxNode, 3, 1)}},
		{"a Long of 0", 10, []api.Slot{slot(0, 0, 0)}},
		{"a Long of 0 at the end", 10, []api.Slot{slot(0, 10, 0)}},
		{"a later Long of 0", 10, []api.Slot{slot(0, 0, 3), slot(1, 3, 0)}},
		{"a Long below 0", 10, []api.Slot{slot(0, 3, -1)}},
		{"the smallest Long", 10, []api.Slot{slot(0, 3, least)}},
		{"a start below 0", 10, []api.Slot{slot(0, -1, 3)}},
		{"the smallest start", 10, []api.Slot{slot(0, least, 3)}},
		{"the smallest start and the largest Long", 10, []api.Slot{slot(0, least, huge)}},
		{"a start below 0 and a Long that balances it", 10, []api.Slot{slot(0, 1-huge, huge)}},
		{"a start one before the end of the previous slot", 10, []api.Slot{slot(0, 0, 3), slot(1, 2, 3)}},
		{"a start one before the end of a later slot", 10, []api.Slot{slot(0, 0, 1), slot(0, 3, 3), slot(1, 5, 3)}},
		{"the same slot twice", 10, []api.Slot{slot(0, 0, 3), slot(0, 0, 3)}},
		{"slots in the wrong order", 10, []api.Slot{slot(0, 3, 3), slot(1, 0, 3)}},
		{"an end one after the period", 10, []api.Slot{slot(0, 0, 11)}},
		{"a later end one after the period", 10, []api.Slot{slot(0, 0, 3), slot(1, 8, 3)}},
		{"a start at the period", 10, []api.Slot{slot(0, 10, 1)}},
		{"an end one after the longest period", longest, []api.Slot{slot(0, 1, longest)}},
		{"the largest Long", 10, []api.Slot{slot(0, 0, huge)}},
		{"a sum that overflows", 10, []api.Slot{slot(0, 1, huge)}},
		{"a later sum that overflows", 10, []api.Slot{slot(0, 0, 3), slot(1, 3, huge)}},
		{"the largest start", 10, []api.Slot{slot(0, huge, 1)}},
		{"the largest start and the largest Long", 10, []api.Slot{slot(0, huge, huge)}},
		{"a sum that overflows, then a slot", 10, []api.Slot{slot(0, 3, huge), slot(1, 4, 1)}},
	} {
		if fits(c.period, c.l) {
			t.Errorf("%s: the test itself takes it for valid", c.name)
		}
		checkInvalid(t, c.name, c.period, c.l)
	}
}

// I1: Right of all schedules of up to two slots with small numbers.
func TestAllSmallSchedules(t *testing.T) {
	var some []api.Slot
	for _, node := range []int{-1, 0, api.MaxNode} {
		for from := -1; from <= 5; from++ {
			for long := -1; long <= 6; long++ {
				some = append(some, slot(node, from, long))
			}
		}
	}
	checkRight := func(period int, l ...api.Slot) {
		if a, want := Right(period, l), fits(period, l); a != want {
			t.Fatalf("Right(%d, %v) = %v; want %v", period, l, a, want)
		}
	}
	for period := -1; period <= 6; period++ {
		checkRight(period)
		for _, a := range some {
			checkRight(period, a)
			for _, b := range some {
				checkRight(period, a, b)
			}
		}
	}
}

// I1: Right of schedules with numbers near all bounds.
func TestNumbersNearBounds(t *testing.T) {
	near := []int{least, least + 1, -longest, -1, 0, 1, 2, 15, 16, longest - 1, longest, longest + 1, api.MaxTime, huge / 2, huge/2 + 1, huge - longest, huge - 1, huge}
	for _, period := range []int{1, 2, longest - 1, longest, longest + 1, huge} {
		for _, node := range []int{0, api.MaxNode - 1, api.MaxNode} {
			for _, from := range near {
				for _, long := range near {
					alone := []api.Slot{slot(node, from, long)}
					after := []api.Slot{slot(0, 0, 1), slot(node, from, long)}
					if a, want := Right(period, alone), fits(period, alone); a != want {
						t.Fatalf("Right(%d, %v) = %v; want %v", period, alone, a, want)
					}
					if a, want := Right(period, after), fits(period, after); a != want {
						t.Fatalf("Right(%d, %v) = %v; want %v", period, after, a, want)
					}
				}
			}
		}
	}
}

// I1: a time out of its range, also where there is no slot.
func TestTimesOutOfRange(t *testing.T) {
	full := []api.Slot{slot(2, 0, 10)}
	for _, at := range []int{-1, -10, least, api.MaxTime + 1, api.MaxTime + 10, huge} {
		for _, l := range [][]api.Slot{nil, full} {
			if a := got(Who(10, l, at)); a != bad(api.ErrRange) {
				t.Errorf("Who(10, %v, %d) = %v", l, at, a)
			}
			for _, node := range []int{-1, 0, 2, api.MaxNode} {
				if a := got(Next(10, l, node, at)); a != bad(api.ErrRange) {
					t.Errorf("Next(10, %v, %d, %d) = %v", l, node, at, a)
				}
			}
		}
	}
}

// I2: Who by hand.
func TestWho(t *testing.T) {
	two := []api.Slot{slot(0, 0, 3), slot(1, 3, 3)}
	gap := []api.Slot{slot(7, 2, 3), slot(4, 6, 1), slot(api.MaxNode-1, 7, 2)}
	for _, c := range []struct {
		name   string
		period int
		l      []api.Slot
		at     int
		want   answer
	}{
		{"the example", 10, two, 14, good(1)},
		{"time 0", 10, two, 0, good(0)},
		{"the last time of a slot", 10, two, 2, good(0)},
		{"the first time of the next slot", 10, two, 3, good(1)},
		{"the last time of the last slot", 10, two, 5, good(1)},
		{"the first time after the last slot", 10, two, 6, bad(api.ErrNone)},
		{"the last time of a cycle", 10, two, 9, bad(api.ErrNone)},
		{"the first time of the next cycle", 10, two, 10, good(0)},
		{"before the first slot", 10, gap, 1, bad(api.ErrNone)},
		{"the first time of the first slot", 10, gap, 2, good(7)},
		{"the last time of the first slot", 10, gap, 4, good(7)},
		{"a gap", 10, gap, 5, bad(api.ErrNone)},
		{"a slot of one unit", 10, gap, 6, good(4)},
		{"the largest node", 10, gap, 8, good(api.MaxNode - 1)},
		{"after the last slot", 10, gap, 9, bad(api.ErrNone)},
		{"a gap of a later cycle", 10, gap, 1000005, bad(api.ErrNone)},
		{"no slot", 10, nil, 0, bad(api.ErrNone)},
		{"no slot, latest time", longest, nil, api.MaxTime, bad(api.ErrNone)},
		{"latest time", 10, two, api.MaxTime, bad(api.ErrNone)}, // 2^40 is 6 modulo 10
		{"latest time, with a slot there", 10, gap, api.MaxTime, good(4)},
		{"latest time, period 1", 1, []api.Slot{slot(3, 0, 1)}, api.MaxTime, good(3)},
		{"latest time, longest period", longest, []api.Slot{slot(3, 0, 1)}, api.MaxTime, good(3)},
		{"one before the latest time", longest, []api.Slot{slot(3, 0, 1), slot(6, longest-1, 1)}, api.MaxTime - 1, good(6)},
		{"a filled cycle", 10, []api.Slot{slot(9, 0, 10)}, 19, good(9)},
	} {
		if a := got(Who(c.period, c.l, c.at)); a != c.want {
			t.Errorf("%s: Who = %v; want %v", c.name, a, c.want)
		}
	}
}

// I2: Next by hand.
func TestNext(t *testing.T) {
	two := []api.Slot{slot(0, 0, 3), slot(1, 3, 3)}
	again := []api.Slot{slot(1, 1, 2), slot(0, 3, 1), slot(1, 5, 1), slot(1, 6, 2)}
	for _, c := range []struct {
		name     string
		period   int
		l        []api.Slot
		node, at int
		want     answer
	}{
		{"at the start", 10, two, 0, 0, good(0)},
		{"one after the start", 10, two, 0, 1, good(10)},
		{"before the start", 10, two, 1, 0, good(3)},
		{"at the start of another", 10, two, 1, 3, good(3)},
		{"within the slot", 10, two, 1, 4, good(13)},
		{"after the slot", 10, two, 1, 9, good(13)},
		{"in the next cycle", 10, two, 1, 13, good(13)},
		{"in a later cycle", 10, two, 1, 1004, good(1013)},
		{"several slots, the first", 10, again, 1, 0, good(1)},
		{"several slots, the second", 10, again, 1, 2, good(5)},
		{"several slots, the third", 10, again, 1, 6, good(6)},
		{"several slots, none left", 10, again, 1, 7, good(11)},
		{"several slots, none left in a later cycle", 10, again, 1, 57, good(61)},
		{"the only slot of another", 10, again, 0, 4, good(13)},
		{"a node with no slot", 10, two, 2, 0, bad(api.ErrNone)},
		{"a node below 0", 10, two, -1, 0, bad(api.ErrNone)},
		{"a node that is too large", 10, two, api.MaxNode, 0, bad(api.ErrNone)},
		{"the largest number", 10, two, huge, 0, bad(api.ErrNone)},
		{"the smallest number", 10, two, least, 0, bad(api.ErrNone)},
		{"no slot", 10, nil, 0, 0, bad(api.ErrNone)},
		{"a filled cycle", 10, []api.Slot{slot(0, 0, 10)}, 0, 1, good(10)},
		{"period 1", 1, []api.Slot{slot(0, 0, 1)}, 0, 77, good(77)},
		{"period 1, latest time", 1, []api.Slot{slot(0, 0, 1)}, 0, api.MaxTime, good(api.MaxTime)},
		{"latest time", 10, two, 1, api.MaxTime, good(api.MaxTime + 7)},
		{"latest time, at the start", longest, two, 0, api.MaxTime, good(api.MaxTime)},
		{"one before the latest time", longest, two, 0, api.MaxTime - 1, good(api.MaxTime)},
		{"latest time, at the end of the longest period", longest, []api.Slot{slot(0, longest-1, 1)}, 0, api.MaxTime, good(api.MaxTime + longest - 1)},
	} {
		if a := got(Next(c.period, c.l, c.node, c.at)); a != c.want {
			t.Errorf("%s: Next = %v; want %v", c.name, a, c.want)
		}
	}
}

// I2: Waits and Share by hand.
func TestWaitsAndShare(t *testing.T) {
	two := []api.Slot{slot(0, 0, 3), slot(1, 3, 3)}
	again := []api.Slot{slot(1, 1, 2), slot(0, 3, 1), slot(1, 5, 1), slot(1, 6, 2)}
	for _, c := range []struct {
		name         string
		period       int
		l            []api.Slot
		node         int
		waits, share answer
	}{
		{"one slot", 10, two, 1, good(9), good(3)},
		{"one slot at 0", 10, two, 0, good(9), good(3)},
		{"several slots, longest wait at the end", 10, again, 1, good(4), good(5)},
		{"the only slot of another", 10, again, 0, good(9), good(1)},
		{"several slots, longest wait at the start", 10, []api.Slot{slot(0, 6, 1), slot(0, 8, 2)}, 0, good(7), good(3)},
		{"several slots, longest wait in the middle", 10, []api.Slot{slot(0, 0, 1), slot(0, 7, 2)}, 0, good(6), good(3)},
		{"equal waits", 10, []api.Slot{slot(0, 2, 1), slot(0, 7, 1)}, 0, good(4), good(2)},
		{"a node with no slot", 10, two, 2, bad(api.ErrNone), good(0)},
		{"a node below 0", 10, two, -1, bad(api.ErrNone), good(0)},
		{"a node that is too large", 10, two, api.MaxNode, bad(api.ErrNone), good(0)},
		{"the largest number", 10, two, huge, bad(api.ErrNone), good(0)},
		{"the smallest number", 10, two, least, bad(api.ErrNone), good(0)},
		{"no slot", 10, nil, 0, bad(api.ErrNone), good(0)},
		{"a filled cycle", 10, []api.Slot{slot(0, 0, 10)}, 0, good(9), good(10)},
		{"a filled cycle of two slots", 10, []api.Slot{slot(0, 0, 4), slot(0, 4, 6)}, 0, good(5), good(10)},
		{"period 1", 1, []api.Slot{slot(0, 0, 1)}, 0, good(0), good(1)},
		{"a slot at each time", 2, []api.Slot{slot(0, 0, 1), slot(0, 1, 1)}, 0, good(0), good(2)},
		{"the longest period", longest, []api.Slot{slot(4, 5, 1)}, 4, good(longest - 1), good(1)},
		{"the longest period, filled", longest, []api.Slot{slot(4, 0, longest)}, 4, good(longest - 1), good(longest)},
		{"as many slots as allowed", api.MaxOps, row(api.MaxOps), 3, good(api.MaxNode - 1), good(api.MaxOps / api.MaxNode)},
		{"as many slots as allowed, and a gap", longest, row(api.MaxOps), 0, good(longest - api.MaxOps + api.MaxNode - 1), good(api.MaxOps / api.MaxNode)},
	} {
		if a := got(Waits(c.period, c.l, c.node)); a != c.waits {
			t.Errorf("%s: Waits = %v; want %v", c.name, a, c.waits)
		}
		if a := got(Share(c.period, c.l, c.node)); a != c.share {
			t.Errorf("%s: Share = %v; want %v", c.name, a, c.share)
		}
	}
}

// some returns a valid schedule: a few nodes, with and without gaps.
func some(r *rand.Rand, period int) []api.Slot {
	var l []api.Slot
	nodes, gap := 1+r.Intn(4), 1+r.Intn(6)
	for at := r.Intn(gap); at < period; {
		s := slot(r.Intn(nodes), at, min(1+r.Intn(5), period-at))
		l = append(l, s)
		at += s.Long + r.Intn(gap)
	}
	return l
}

// I2: all queries of many schedules, over three cycles and at the latest times.
func TestManySchedules(t *testing.T) {
	r := rand.New(rand.NewSource(13))
	nodes := []int{-1, 0, 1, 2, 3, api.MaxNode}
	for range 400 {
		period := 1 + r.Intn(40)
		l := some(r, period)
		if !Right(period, l) {
			t.Fatalf("Right(%d, %v) = false", period, l)
		}
		var times []int
		for at := range 3 * period {
			times = append(times, at)
		}
		for back := range period {
			times = append(times, api.MaxTime-back)
		}
		checkTimes(t, period, l, nodes, times)
		checkNodes(t, period, l, nodes)
	}
}

// I2: every time of a schedule with as many slots as allowed.
func TestManySlots(t *testing.T) {
	l := row(api.MaxOps)
	for k := range l {
		l[k].From = 2*k + k%2
	}
	period := 2*api.MaxOps + 5
	var times []int
	for at := range 2 * period {
		times = append(times, at)
	}
	checkTimes(t, period, l, []int{0, 7, api.MaxNode - 1}, times)
	checkNodes(t, period, l, []int{0, 7, api.MaxNode - 1, api.MaxNode})
}

// I2: no wait is longer than Waits says, and one is as long.
func TestWaitsIsTheLongestWait(t *testing.T) {
	r := rand.New(rand.NewSource(14))
	for range 300 {
		period := 1 + r.Intn(60)
		l := some(r, period)
		for node := range 4 {
			most, err := Waits(period, l, node)
			seen := 0
			for at := range 2 * period {
				next, nextErr := Next(period, l, node, at)
				if nextErr != err {
					t.Fatalf("Waits(%d, %v, %d) has the error %d, Next at %d has %d", period, l, node, err, at, nextErr)
				}
				if err == api.OK {
					seen = max(seen, next-at)
				}
			}
			if seen != most {
				t.Fatalf("Waits(%d, %v, %d) = %d; the longest wait is %d", period, l, node, most, seen)
			}
		}
	}
}

// AA2: arguments and their spare capacity stay as they are, and what lies behind the length is not read.
func TestArgumentsAreLeftAlone(t *testing.T) {
	all := []api.Slot{slot(0, 0, 3), slot(1, 3, 3), slot(0, 6, 2), slot(-1, -1, -1)}
	arg := slices.Clone(all)
	nodes, times := []int{0, 1, 2}, []int{0, 5, 9, 14, 26}
	for size := range len(all) {
		part := arg[:size]
		if !Right(10, part) {
			t.Fatalf("Right(10, %v) = false", part)
		}
		checkTimes(t, 10, part, nodes, times)
		checkNodes(t, 10, part, nodes)
		if !slices.Equal(arg, all) {
			t.Fatalf("with %d slots the argument has become %v", size, arg)
		}
	}
	checkInvalid(t, "with the last slot", 10, arg)
	if !slices.Equal(arg, all) {
		t.Fatalf("the argument has become %v", arg)
	}
}

// AA3: nil and an empty slice are the same argument.
func TestNilAndEmpty(t *testing.T) {
	for _, none := range [][]api.Slot{nil, {}} {
		if !Right(5, none) {
			t.Error("Right of no slot = false")
		}
		for name, c := range map[string]struct{ is, want answer }{
			"Who":   {got(Who(5, none, 3)), bad(api.ErrNone)},
			"Next":  {got(Next(5, none, 0, 3)), bad(api.ErrNone)},
			"Waits": {got(Waits(5, none, 0)), bad(api.ErrNone)},
			"Share": {got(Share(5, none, 0)), good(0)},
		} {
			if c.is != c.want {
				t.Errorf("%s of no slot = %v; want %v", name, c.is, c.want)
			}
		}
	}
}
