package rta

import (
	"math"
	"math/rand"
	"slices"
	"strings"
	"testing"

	"slotwright/api"
)

const (
	huge  = math.MaxInt
	least = math.MinInt
	most  = api.MaxOps
	nodes = api.MaxNode
)

// numbers are values of Period and Cost around the limits, and such as only a narrower type takes for valid.
var numbers = []int{least, least + 1, -1 << 62, -1 << 32, -1<<32 + 1, -10001, -10000, -256, -2, -1, 0, 1, 2, 3, 255, 256, 257, 9999, 10000, 10001, 20000, 1 << 15, 1<<16 + 1, 1 << 31, 1 << 32, 1<<32 + 1, 1<<32 + 10000, api.MaxTime, 1 << 62, huge - 1, huge}

// wrongLongs are numbers of units that Run does not simulate.
var wrongLongs = []int{least, least + 1, -1 << 32, -1<<32 + 1, -most - 1, -most, -2, -1, most + 1, most + 2, 2 * most, 1 << 16, 1 << 32, 1<<32 + 1, api.MaxTime, 1 << 62, huge - 1, huge}

// tasks returns a list of tasks; each one is given by its period and its cost.
func tasks(numbers ...int) []api.Task {
	l := []api.Task{}
	for at := 0; at < len(numbers); at += 2 {
		l = append(l, api.Task{Period: numbers[at], Cost: numbers[at+1]})
	}
	return l
}

// same returns n times the value v.
func same[T any](n int, v T) []T { return slices.Repeat([]T{v}, n) }

// order returns n tasks with these numbers, the first one with the highest priority.
func order(n, period, cost int) []api.Task { return same(n, api.Task{Period: period, Cost: cost}) }

// steps returns the numbers from 1 to n.
func steps(n int) []int {
	list := make([]int, n)
	for at := range list {
		list[at] = at + 1
	}
	return list
}

// units returns the tasks of a text with a digit (to base 16) for each unit, or a dot where nobody runs.
func units(text string) []int {
	ran := []int{}
	for _, c := range text {
		ran = append(ran, strings.IndexRune("0123456789abcdef", c))
	}
	return ran
}

// wrong tells what Wrong must return.
func wrong(l []api.Task) api.Errno {
	for _, t := range l {
		if !(1 <= t.Period && t.Period <= 10000 && 1 <= t.Cost && t.Cost <= t.Period) {
			return api.ErrRange
		}
	}
	if len(l) > 16 {
		return api.ErrRange
	}
	return api.OK
}

// needed tells how many units a task and those of higher priority need of their releases before a time, of which it is one.
func needed(t api.Task, higher []api.Task, time int) int {
	sum := t.Cost
	for _, h := range higher {
		sum += h.Cost * (1 + (time-1)/h.Period)
	}
	return sum
}

// expectedEnds tells what Ends must return, by trying all times.
func expectedEnds(l []api.Task) ([]int, api.Errno) {
	if err := wrong(l); err != api.OK {
		return nil, err
	}
	ends := []int{}
	for k, t := range l {
		r := t.Cost
		for r <= t.Period && r != needed(t, l[:k], r) {
			r++
		}
		if r > t.Period {
			return nil, api.ErrFull
		}
		ends = append(ends, r)
	}
	return ends, api.OK
}

// expectedRun tells what Run must return: task by task, each release takes the first units that those of higher priority have left.
func expectedRun(l []api.Task, long int) ([]int, []int, api.Errno) {
	if err := wrong(l); err != api.OK || long < 0 || long > 400 {
		return nil, nil, api.ErrRange
	}
	ran := same(long, -1)
	ends := []int{}
	for k, t := range l {
		all := paint(ran, k, t, 0)
		if len(all) < t.Cost {
			ends = append(ends, -1)
		} else {
			ends = append(ends, all[t.Cost-1])
		}
	}
	return ends, ran, api.OK
}

// paint lets task k, which is released for the first time at first, take units in which nobody runs, and returns after how many units it had done each of its own.
func paint(ran []int, k int, t api.Task, first int) []int {
	var all []int
	at := 0
	for release := first; release < len(ran); release += t.Period {
		at = max(at, release)
		for left := t.Cost; left > 0 && at < len(ran); at++ {
			if ran[at] < 0 {
				ran[at] = k
				left--
				all = append(all, at+1)
			}
		}
	}
	return all
}

// checkEnds demands these results of Ends, and that the argument stays as it was.
func checkEnds(t *testing.T, name string, l []api.Task, want []int, wantErr api.Errno) {
	t.Helper()
	before := slices.Clone(l)
	if got, err := Ends(l); err != wantErr || !slices.Equal(got, want) {
		t.Fatalf("%s: Ends(%v) = %v, %d; want %v, %d", name, before, got, err, want, wantErr)
	}
	if !slices.Equal(l, before) {
		t.Fatalf("%s: Ends changes %v to %v", name, before, l)
	}
}

// checkRun demands these results of Run, and that the argument stays as it was.
func checkRun(t *testing.T, name string, l []api.Task, long int, ends, ran []int, wantErr api.Errno) {
	t.Helper()
	before := slices.Clone(l)
	if gotEnds, gotRan, err := Run(l, long); err != wantErr || !slices.Equal(gotEnds, ends) || !slices.Equal(gotRan, ran) {
		t.Fatalf("%s: Run(%v, %d) = %v, %v, %d; want %v, %v, %d", name, before, long, gotEnds, gotRan, err, ends, ran, wantErr)
	}
	if !slices.Equal(l, before) {
		t.Fatalf("%s: Run changes %v to %v", name, before, l)
	}
}

// compare demands of all functions what the references find.
func compare(t *testing.T, l []api.Task, long int) {
	t.Helper()
	before := slices.Clone(l)
	if got, want := Wrong(l), wrong(l); got != want || !slices.Equal(l, before) {
		t.Fatalf("Wrong(%v) = %d; want %d; the argument is now %v", before, got, want, l)
	}
	ends, err := expectedEnds(before)
	checkEnds(t, "against the reference", l, ends, err)
	ends, ran, err := expectedRun(before, long)
	checkRun(t, "against the reference", l, long, ends, ran, err)
}

// demandWrong demands of all functions that they find the list out of range, and return nothing else.
func demandWrong(t *testing.T, name string, l []api.Task) {
	t.Helper()
	before := slices.Clone(l)
	if got := Wrong(l); got != api.ErrRange || !slices.Equal(l, before) {
		t.Fatalf("%s: Wrong(%v) = %d; want ErrRange; the argument is now %v", name, before, got, l)
	}
	checkEnds(t, name, l, nil, api.ErrRange)
	for _, long := range []int{0, 1, 5, most, -1, most + 1} {
		checkRun(t, name, l, long, nil, nil, api.ErrRange)
	}
}

// S1 and S2: the chapter's own example.
func TestExample(t *testing.T) {
	l := tasks(4, 1, 6, 2, 12, 3)
	if got := Wrong(l); got != api.OK {
		t.Errorf("Wrong(%v) = %d", l, got)
	}
	checkEnds(t, "the example", l, []int{1, 3, 10}, api.OK)
	ran := units("0112021102..")
	for long, ends := range [][]int{{-1, -1, -1}, {1, -1, -1}, {1, -1, -1}, {1, 3, -1}, {1, 3, -1}, {1, 3, -1}, {1, 3, -1}, {1, 3, -1}, {1, 3, -1}, {1, 3, -1}, {1, 3, 10}, {1, 3, 10}, {1, 3, 10}} {
		checkRun(t, "the example", l, long, ends, ran[:long], api.OK)
	}
	checkRun(t, "the example, longer than all periods", l, 30, []int{1, 3, 10}, units("0112021102..0112021102..011202"), api.OK)
}

// S1 and S2: no task.
func TestNoTask(t *testing.T) {
	for _, l := range [][]api.Task{nil, {}} {
		if got := Wrong(l); got != api.OK {
			t.Errorf("Wrong(%#v) = %d", l, got)
		}
		checkEnds(t, "no task", l, nil, api.OK)
		for _, long := range []int{0, 1, 2, most - 1, most} {
			checkRun(t, "no task", l, long, nil, same(long, -1), api.OK)
		}
		for _, long := range wrongLongs {
			checkRun(t, "no task", l, long, nil, nil, api.ErrRange)
		}
	}
}

// S1: up to MaxNode tasks, and more.
func TestNumberOfTasks(t *testing.T) {
	for size := range nodes + 1 {
		l := order(size, 100, 1)
		if got := Wrong(l); got != api.OK {
			t.Errorf("Wrong of %d tasks = %d", size, got)
		}
		checkEnds(t, "few tasks", l, steps(size), api.OK)
		checkRun(t, "few tasks", l, 20, steps(size), slices.Concat(units("0123456789abcdef")[:size], same(20-size, -1)), api.OK)
	}
	for _, size := range []int{nodes + 1, nodes + 2, 2 * nodes, 255, 256, 257, 272, most, most + 1, 1<<16 + 1} {
		demandWrong(t, "too many tasks", order(size, 10000, 1))
	}
	demandWrong(t, "too many tasks, which are also too much work", order(nodes+1, 1, 1))
	demandWrong(t, "too many tasks, one of them wrong", append(order(nodes, 100, 1), api.Task{}))
}

// S1 and S2: one task with every combination of numbers around the limits, alone and behind another one.
func TestNumbersAroundTheLimits(t *testing.T) {
	for _, period := range numbers {
		for _, cost := range append([]int{period - 1, period, period + 1, -period}, numbers...) {
			l := tasks(period, cost)
			compare(t, l, 3)
			compare(t, append(tasks(300, 1), l...), 3)
		}
	}
	for _, l := range [][]api.Task{tasks(1, 1), tasks(2, 1), tasks(2, 2), tasks(10000, 1), tasks(10000, 9999), tasks(10000, 10000)} {
		if got := Wrong(l); got != api.OK {
			t.Errorf("Wrong(%v) = %d", l, got)
		}
	}
	for _, l := range [][]api.Task{tasks(0, 0), tasks(0, 1), tasks(1, 0), tasks(1, 2), tasks(2, 3), tasks(-1, -1), tasks(-2, 1), tasks(5, -1), tasks(10001, 1), tasks(10001, 10001), tasks(10000, 10001), tasks(huge, 1), tasks(huge, huge), tasks(5, huge), tasks(least, least), tasks(least, 1), tasks(5, least)} {
		demandWrong(t, "one task", l)
	}
}

// S1: every period and every cost of a task alone.
func TestEveryPeriodAndCost(t *testing.T) {
	for n := range 10000 {
		checkEnds(t, "the least cost", tasks(n+1, 1), []int{1}, api.OK)
		checkEnds(t, "the greatest cost", tasks(n+1, n+1), []int{n + 1}, api.OK)
		checkEnds(t, "the greatest period", tasks(10000, n+1), []int{n + 1}, api.OK)
		demandWrong(t, "one unit too much", tasks(n+1, n+2))
	}
}

// S1: a wrong task at each place of the list, with and without a task before it for which there is no room.
func TestWrongTaskAnywhere(t *testing.T) {
	for size := range nodes + 1 {
		for place := range size {
			for _, bad := range tasks(0, 1, 10001, 1, -1, 1, huge, 1, least, 1, 7, 0, 7, 8, 7, -1, 7, huge, 7, least, 0, 0, -7, -7) {
				l := order(size, 100, 1)
				l[place] = bad
				demandWrong(t, "a wrong task", l)
				l = order(size, 1, 1)
				l[place] = bad
				demandWrong(t, "a wrong task among too much work", l)
			}
		}
	}
	demandWrong(t, "two wrong tasks", tasks(0, 1, 5, 6))
	demandWrong(t, "a wrong task behind one without room", tasks(2, 2, 4, 1, 4, 5))
}

// endsCase is a list of tasks with what Ends must return.
type endsCase struct {
	name string
	l    []api.Task
	want []int
}

// demandEnds demands the response times of each case, or ErrFull where there are none; the reference must find the same.
func demandEnds(t *testing.T, cases []endsCase) {
	t.Helper()
	for _, c := range cases {
		err := api.OK
		if c.want == nil {
			err = api.ErrFull
		}
		if got := Wrong(c.l); got != api.OK {
			t.Errorf("%s: Wrong(%v) = %d", c.name, c.l, got)
		}
		checkEnds(t, c.name, c.l, c.want, err)
		if got, gotErr := expectedEnds(c.l); gotErr != err || !slices.Equal(got, c.want) {
			t.Errorf("%s: the reference finds %v, %d; want %v, %d", c.name, got, gotErr, c.want, err)
		}
	}
}

// S1: lists that fit.
func TestEnds(t *testing.T) {
	demandEnds(t, []endsCase{
		{"one task alone", tasks(7, 3), []int{3}},
		{"one task with the least numbers", tasks(1, 1), []int{1}},
		{"one task with the greatest numbers", tasks(10000, 10000), []int{10000}},
		{"the second one waits once", tasks(10, 2, 10, 3), []int{2, 5}},
		{"the second one waits twice", tasks(4, 2, 10, 3), []int{2, 7}},
		{"done just when the first one is released again", tasks(4, 2, 10, 2), []int{2, 4}},
		{"the smallest of several such times", tasks(2, 1, 9, 1), []int{1, 2}},
		{"only tasks of higher priority count", tasks(10, 1, 10, 2, 10, 3), []int{1, 3, 6}},
		{"the priority is that of the list, not that of the cost", tasks(10, 3, 10, 2, 10, 1), []int{3, 5, 6}},
		{"equal tasks", order(3, 6, 2), []int{2, 4, 6}},
		{"MaxNode equal tasks", order(nodes, nodes, 1), steps(nodes)},
		{"great numbers", tasks(5000, 2500, 10000, 5000), []int{2500, 10000}},
		{"a long search", tasks(2, 1, 10000, 5000), []int{1, 10000}},
	})
}

// S1: tasks that fill the processor exactly.
func TestFullProcessor(t *testing.T) {
	demandEnds(t, []endsCase{
		{"one", tasks(3, 3), []int{3}},
		{"two", tasks(2, 1, 4, 2), []int{1, 4}},
		{"two with the same period", tasks(5, 2, 5, 3), []int{2, 5}},
		{"three", tasks(2, 1, 4, 1, 8, 2), []int{1, 2, 8}},
		{"three whose periods do not divide each other", tasks(2, 1, 3, 1, 6, 1), []int{1, 2, 6}},
		{"a full processor that does not fit", tasks(4, 2, 6, 3), nil},
		{"MaxNode tasks", order(nodes, 32, 2), []int{2, 4, 6, 8, 10, 12, 14, 16, 18, 20, 22, 24, 26, 28, 30, 32}},
		{"MaxNode tasks with the greatest period", order(nodes, 10000, 625), []int{625, 1250, 1875, 2500, 3125, 3750, 4375, 5000, 5625, 6250, 6875, 7500, 8125, 8750, 9375, 10000}},
	})
}

// S1: the response time is the period, or one unit more.
func TestJustInTime(t *testing.T) {
	demandEnds(t, []endsCase{
		{"at the period", tasks(4, 2, 6, 2, 11, 1), []int{2, 4, 11}},
		{"one unit behind it", tasks(4, 2, 6, 2, 10, 1), nil},
		{"at the period, two tasks", tasks(2, 1, 4, 2), []int{1, 4}},
		{"one unit behind it, two tasks", tasks(2, 1, 3, 2), nil},
		{"at the period, equal periods", tasks(7, 3, 7, 4), []int{3, 7}},
		{"one unit behind it, equal periods", tasks(7, 4, 7, 4), nil},
		{"at the greatest period", tasks(5000, 1, 10000, 9998), []int{1, 10000}},
		{"one unit behind the greatest period", tasks(5000, 1, 10000, 9999), nil},
		{"far behind it", tasks(10, 9, 12, 2), nil},
		{"MaxNode equal tasks, at the period", order(nodes, 16, 1), steps(nodes)},
		{"MaxNode equal tasks, one unit behind it", order(nodes, 15, 1), nil},
		{"the second of four", tasks(3, 2, 3, 2, 100, 1, 100, 1), nil},
		{"the third of four", tasks(4, 2, 6, 2, 10, 1, 100, 1), nil},
	})
	for last := range 60 { // needs 11 units
		want := []int{2, 4, 11}
		if last+1 < 11 {
			want = nil
		}
		demandEnds(t, []endsCase{{"around the period", tasks(4, 2, 6, 2, last+1, 1), want}})
	}
}

// S1: those of higher priority leave no unit.
func TestNothingLeft(t *testing.T) {
	demandEnds(t, []endsCase{
		{"one takes every unit", tasks(1, 1, 10000, 1), nil},
		{"one takes every unit of a longer period", tasks(3, 3, 10000, 1), nil},
		{"two take every unit", tasks(2, 1, 2, 1, 10000, 1), nil},
		{"two take every unit together", tasks(2, 1, 4, 2, 10000, 1), nil},
		{"the greatest numbers", order(2, 10000, 10000), nil},
		{"MaxNode times the greatest numbers", order(nodes, 10000, 10000), nil},
		{"MaxNode times the least numbers", order(nodes, 1, 1), nil},
		{"behind many others", append(order(nodes-1, nodes-1, 1), api.Task{Period: 10000, Cost: 1}), nil},
		{"too much for the second one, and nothing left for the third one", tasks(4, 3, 4, 3, 10000, 1), nil},
	})
}

// S1: lists whose periods do not rise.
func TestOtherOrders(t *testing.T) {
	demandEnds(t, []endsCase{
		{"falling", tasks(10, 1, 5, 1, 3, 1), []int{1, 2, 3}},
		{"falling, no room for the last one", tasks(12, 3, 6, 2, 4, 1), nil},
		{"the shortest period first", tasks(4, 2, 12, 1), []int{2, 3}},
		{"the shortest period last", tasks(12, 1, 4, 2), []int{1, 3}},
		{"no room for the shortest period last", tasks(12, 3, 4, 2), nil},
		{"up and down", tasks(6, 2, 12, 1, 4, 1), []int{2, 3, 4}},
		{"up and down, no room for the last one", tasks(6, 1, 3, 1, 8, 1, 4, 1), nil},
	})
}

// runCase is a list of tasks with what Run must return, for as many units as ran has.
type runCase struct {
	name string
	l    []api.Task
	ran  string
	ends []int
}

// demandRun demands the results of each case; the reference must find the same.
func demandRun(t *testing.T, cases []runCase) {
	t.Helper()
	for _, c := range cases {
		long, want := len(c.ran), units(c.ran)
		checkRun(t, c.name, c.l, long, c.ends, want, api.OK)
		if ends, ran, err := expectedRun(c.l, long); err != api.OK || !slices.Equal(ends, c.ends) || !slices.Equal(ran, want) {
			t.Errorf("%s: the reference finds %v, %v, %d; want %v, %v", c.name, ends, ran, err, c.ends, want)
		}
	}
}

// S2: tasks that have enough time.
func TestRun(t *testing.T) {
	demandRun(t, []runCase{
		{"one task", tasks(3, 1), "0..0..0", []int{1}},
		{"one task that needs more units", tasks(5, 3), "000..000..0", []int{3}},
		{"one task that always runs", tasks(3, 3), "0000000", []int{3}},
		{"one task with the least numbers", tasks(1, 1), "0000", []int{1}},
		{"two tasks", tasks(4, 1, 8, 2), "011.0...011", []int{1, 3}},
		{"interrupted once", tasks(4, 2, 10, 3), "0011001.0011001.", []int{2, 7}},
		{"interrupted in every unit", tasks(2, 1, 10, 5), "01010101010101", []int{1, 10}},
		{"interrupted by both others", tasks(4, 2, 6, 2, 11, 1), "00110011002200", []int{2, 4, 11}},
		{"equal tasks", order(3, 6, 2), "001122001122", []int{2, 4, 6}},
		{"the priority is that of the list, not that of the period", tasks(8, 3, 2, 1), "0001111.00011", []int{3, 4}},
		{"the priority is that of the list, not that of the cost", tasks(6, 3, 6, 1), "0001..0001", []int{3, 4}},
		{"the processor is full", tasks(2, 1, 3, 1, 6, 1), "010102010102", []int{1, 2, 6}},
		{"an idle unit between two releases", tasks(3, 1, 3, 1), "01.01.01.", []int{1, 2}},
	})
}

// S2: MaxNode tasks.
func TestRunOfManyTasks(t *testing.T) {
	demandRun(t, []runCase{
		{"one unit each", order(nodes, 20, 1), "0123456789abcdef....0123", steps(nodes)},
		{"no unit idle", order(nodes, 16, 1), "0123456789abcdef0123456789abcdef0", steps(nodes)},
		{"no time for the last one", order(nodes, 15, 1), "0123456789abcde0123456789abcde0123456789abcde", append(steps(nodes-1), -1)},
		{"only the first one runs", order(nodes, 1, 1), "0000000000", append([]int{1}, same(nodes-1, -1)...)},
		{"the last one runs first when the others come back later", append(order(nodes-1, 18, 1), api.Task{Period: 17, Cost: 1}), "0123456789abcdef.f0123", steps(nodes)},
	})
}

// S2: each number of units around the limits.
func TestLong(t *testing.T) {
	for _, l := range [][]api.Task{tasks(4, 1, 6, 2, 12, 3), tasks(1, 1), order(nodes, 10000, 10000), order(nodes, 1, 1)} {
		for _, long := range wrongLongs {
			checkRun(t, "no number of units", l, long, nil, nil, api.ErrRange)
		}
		checkRun(t, "no unit", l, 0, same(len(l), -1), nil, api.OK)
		for _, long := range []int{1, 2, most - 1, most} {
			compare(t, l, long)
		}
	}
	checkRun(t, "one unit", tasks(4, 1, 6, 2, 12, 3), 1, []int{1, -1, -1}, []int{0}, api.OK)
	checkRun(t, "MaxOps units", tasks(1, 1, 1, 1), most, []int{1, -1}, same(most, 0), api.OK)
	checkRun(t, "MaxOps units, few in use", tasks(most, 1), most, []int{1}, append([]int{0}, same(most-1, -1)...), api.OK)
	checkRun(t, "released again in the last of MaxOps units", tasks(most-1, 1), most, []int{1}, slices.Concat([]int{0}, same(most-2, -1), []int{0}), api.OK)
}

// S2: a task that is done in the last unit, and one that needs one more.
func TestDoneInTheLastUnit(t *testing.T) {
	demandRun(t, []runCase{
		{"alone, in the only unit", tasks(3, 1), "0", []int{1}},
		{"alone, in the last unit", tasks(5, 3), "000", []int{3}},
		{"alone, one more", tasks(5, 3), "00", []int{-1}},
		{"alone, two units for three", tasks(5, 4), "000", []int{-1}},
		{"behind another one, in the last unit", tasks(4, 2, 10, 3), "0011001", []int{2, 7}},
		{"behind another one, one more", tasks(4, 2, 10, 3), "001100", []int{2, -1}},
		{"just before it is released again", tasks(2, 1, 4, 2), "0101", []int{1, 4}},
		{"just before it is released again, one more", tasks(2, 1, 4, 2), "010", []int{1, -1}},
		{"the first one in the last unit, the second one never", tasks(5, 3, 9, 1), "000", []int{3, -1}},
	})
	checkRun(t, "MaxOps units", tasks(10000, most), most, []int{most}, same(most, 0), api.OK)
	checkRun(t, "one unit more than MaxOps", tasks(10000, most+1), most, []int{-1}, same(most, 0), api.OK)
	checkRun(t, "one unit more than there are", tasks(10000, most), most-1, []int{-1}, same(most-1, 0), api.OK)
}

// S2: what a task has not done when it is released again is not lost, and counts before its new work.
func TestReleasedBeforeDone(t *testing.T) {
	demandRun(t, []runCase{
		{"done later", tasks(3, 2, 4, 2), "001001001001", []int{2, 6}},
		{"done after a third release", tasks(4, 3, 3, 2), "000100010001", []int{3, 8}},
		{"the work of both releases is done later", tasks(10, 4, 3, 1), "0000111..1000011..1.", []int{4, 5}},
		{"all work is done before a task of lower priority", tasks(10, 4, 3, 1, 20, 1), "00001112.10000", []int{4, 5, 8}},
		{"the second release is done after the first one", tasks(8, 5, 4, 2), "0000011100000111", []int{5, 7}},
	})
}

// S2: lists that Ends calls full are played all the same.
func TestRunOfFullLists(t *testing.T) {
	cases := []runCase{
		{"the second one never runs", tasks(1, 1, 10, 1), "000000000000", []int{1, -1}},
		{"the second one never runs, longer periods", tasks(3, 3, 10, 1), "000000000000", []int{3, -1}},
		{"the third one never runs", tasks(2, 1, 2, 1, 2, 1), "0101010101", []int{1, 2, -1}},
		{"the third and the fourth one never run", tasks(2, 1, 4, 2, 3, 1, 5, 1), "0101010101", []int{1, 4, -1, -1}},
		{"the second one is late", tasks(2, 1, 3, 2), "0101010101", []int{1, 4}},
		{"the second one is later", tasks(10, 9, 12, 2), "0000000001000000000100", []int{9, 20}},
		{"one unit behind the period", tasks(4, 2, 6, 2, 10, 1), "0011001100220011", []int{2, 4, 11}},
		{"one full task before one that has time", tasks(4, 3, 4, 2, 100, 1), "000100010001", []int{3, 8, -1}},
	}
	demandRun(t, cases)
	for _, c := range cases {
		checkEnds(t, c.name, c.l, nil, api.ErrFull)
	}
}

// S2: many more units than all periods.
func TestRunLongerThanAllPeriods(t *testing.T) {
	for _, l := range [][]api.Task{tasks(1, 1), tasks(3, 1), tasks(4, 1, 6, 2, 12, 3), tasks(2, 1, 3, 1, 7, 1), tasks(3, 2, 2, 1), tasks(5, 1, 4, 1, 3, 1, 2, 1), order(nodes, 20, 1), order(nodes, 30, 2)} {
		compare(t, l, most)
	}
	_, ran, _ := Run(tasks(4, 1, 6, 2, 12, 3), most)
	if once := units("0112021102.."); !slices.Equal(ran, slices.Repeat(once, most/12+1)[:most]) {
		t.Errorf("the units do not repeat: %v", ran)
	}
}

// everyTask returns all valid tasks with periods up to a limit.
func everyTask(limit int) []api.Task {
	var all []api.Task
	for period := range limit {
		for cost := range period + 1 {
			all = append(all, api.Task{Period: period + 1, Cost: cost + 1})
		}
	}
	return all
}

// everyList calls visit with all lists of size tasks with periods up to a limit.
func everyList(size, limit int, visit func(l []api.Task)) {
	all := everyTask(limit)
	l := make([]api.Task, size)
	var choose func(place int)
	choose = func(place int) {
		if place == size {
			visit(l)
			return
		}
		for _, l[place] = range all {
			choose(place + 1)
		}
	}
	choose(0)
}

// S1 and S2: all short lists of short tasks.
func TestAllShortLists(t *testing.T) {
	for size, limit := range []int{1, 40, 14, 8, 4} {
		everyList(size, limit, func(l []api.Task) {
			for _, long := range []int{0, 1, 2, 3, 5, 8, 13, 30} {
				compare(t, l, long)
			}
		})
	}
}

// someTasks returns tasks with periods of one order of magnitude; how much of the processor they use differs.
func someTasks(r *rand.Rand) []api.Task {
	l := make([]api.Task, r.Intn(nodes+1))
	limit := 1 + r.Intn(1<<r.Intn(14))
	share := 1 + r.Intn(2*len(l)+2)
	for k := range l {
		l[k].Period = 1 + r.Intn(min(limit, 10000))
		l[k].Cost = 1 + r.Intn(max(l[k].Period/share, 1))
	}
	if r.Intn(2) == 0 { // most lists that fit have rising periods
		slices.SortFunc(l, func(a, b api.Task) int { return a.Period - b.Period })
	}
	if len(l) > 0 && r.Intn(10) == 0 {
		l[r.Intn(len(l))] = api.Task{Period: numbers[r.Intn(len(numbers))], Cost: numbers[r.Intn(len(numbers))]}
	}
	return l
}

// S1 and S2: many lists.
func TestManyLists(t *testing.T) {
	r := rand.New(rand.NewSource(1))
	count := map[api.Errno]int{}
	for range 10000 {
		l := someTasks(r)
		compare(t, l, r.Intn(most+1))
		_, err := Ends(l)
		count[err]++
	}
	for _, err := range []api.Errno{api.OK, api.ErrFull, api.ErrRange} {
		if count[err] < 500 {
			t.Errorf("only %d of the lists have error %d", count[err], err)
		}
	}
}

// S1 and S2: when all tasks are released at time 0, each one's first response time is that of Ends, and one that Ends calls full is not done within its period.
func TestEndsAreThoseOfRun(t *testing.T) {
	for size, limit := range []int{1, 60, 20, 8, 5} {
		everyList(size, limit, func(l []api.Task) {
			done, _, _ := Run(l, limit)
			late := false
			for k := range l {
				late = late || done[k] < 0 || done[k] > l[k].Period
			}
			if ends, err := Ends(l); late != (err == api.ErrFull) || !late && !slices.Equal(ends, done) {
				t.Fatalf("Ends(%v) = %v, %d; Run has them done after %v", l, ends, err, done)
			}
		})
	}
}

// everyFirst calls visit with all times of a first release of each task, within its period.
func everyFirst(l []api.Task, visit func(first []int)) {
	many := 1
	for _, t := range l {
		many *= t.Period
	}
	first := make([]int, len(l))
	for choice := range many {
		for k, t := range l {
			first[k] = choice % t.Period
			choice /= t.Period
		}
		visit(first)
	}
}

// isLate tells whether, with these first releases, any release of a task takes longer than its response time.
func isLate(l []api.Task, first, ends []int) bool {
	const long = 150 // twice the common period of all tasks, and more
	ran := same(long, -1)
	for k, t := range l {
		for unit, done := range paint(ran, k, t, first[k]) {
			release := first[k] + unit/t.Cost*t.Period
			if unit%t.Cost == t.Cost-1 && done-release > ends[k] {
				return true
			}
		}
	}
	return false
}

// The property of the whole: the synchronous release is the worst case.
func TestSynchronousReleaseIsTheWorstCase(t *testing.T) {
	for size, limit := range []int{1, 10, 7, 5} {
		everyList(size, limit, func(l []api.Task) {
			ends, err := Ends(l)
			if err != api.OK {
				return
			}
			everyFirst(l, func(first []int) {
				if isLate(l, first, ends) {
					t.Fatalf("Ends(%v) = %v; released at %v for the first time, a task takes longer", l, ends, first)
				}
			})
		})
	}
}

// AA1: the greatest lists need no more time than others.
func TestGreatestLists(t *testing.T) {
	for _, cost := range []int{1, 2, 624, 625, 626, 9999, 10000} {
		compare(t, order(nodes, 10000, cost), most)
	}
	// Each task that takes every second unit of what is left makes the search longer.
	l := tasks(2, 1, 4, 1, 8, 1, 16, 1, 32, 1, 64, 1, 128, 1, 256, 1, 512, 1, 1024, 1, 2048, 1, 4096, 1, 8192, 1)
	compare(t, append(l, tasks(10000, 1)...), most)
	compare(t, append(l, tasks(10000, 2)...), most)
	compare(t, append(l, tasks(8192, 1)...), most)
	compare(t, append(l, tasks(8191, 1)...), most)
}

// AA1: calls in between, also with errors, change no result.
func TestNoStateIsKept(t *testing.T) {
	l := tasks(4, 2, 10, 3)
	for _, other := range [][]api.Task{nil, l, tasks(1, 1), tasks(4, 2, 3, 2), tasks(0, 0), order(nodes, 16, 1), order(nodes+1, 20, 1)} {
		for _, long := range []int{-1, 0, 3, most, most + 1} {
			Wrong(other)
			Ends(other)
			Run(other, long)
			checkEnds(t, "after other calls", l, []int{2, 7}, api.OK)
			checkRun(t, "after other calls", l, 8, []int{2, 7}, units("0011001."), api.OK)
		}
	}
}

// AA2: what lies behind the length of the argument is neither read nor changed.
func TestSpareCapacityIsLeftAlone(t *testing.T) {
	all := append(tasks(4, 1, 6, 2, 12, 3, 12, 3, 4, 4, 0, 0), order(nodes, 10000, 10000)...)
	l := slices.Clone(all)
	for size := range len(all) {
		compare(t, l[:size], 20)
		if !slices.Equal(l, all) {
			t.Fatalf("with %d tasks the argument has become %v", size, l)
		}
	}
}

// AA2: the results of one call are not those of another, and do not change with the argument.
func TestResultsAreNewMemory(t *testing.T) {
	l := tasks(4, 2, 10, 3)
	responses, _ := Ends(l)
	ends, ran, _ := Run(l, 8)
	clear(l)
	if !slices.Equal(responses, []int{2, 7}) || !slices.Equal(ends, []int{2, 7}) || !slices.Equal(ran, units("0011001.")) {
		t.Errorf("after the argument was changed the results are %v, %v and %v", responses, ends, ran)
	}
	clear(responses)
	clear(ends)
	if !slices.Equal(ran, units("0011001.")) {
		t.Errorf("after other results were changed the units are %v", ran)
	}
	clear(ran)
	checkEnds(t, "after the last results were changed", tasks(4, 2, 10, 3), []int{2, 7}, api.OK)
	checkRun(t, "after the last results were changed", tasks(4, 2, 10, 3), 8, []int{2, 7}, units("0011001."), api.OK)
}

// Appending to one result of Run changes no other one.
func TestResultsDoNotOverlap(t *testing.T) {
	ends, ran, _ := Run(tasks(4, 2, 10, 3), 8)
	_ = append(ends, 9, 9, 9, 9, 9, 9, 9, 9)
	_ = append(ran, 9, 9, 9, 9, 9, 9, 9, 9)
	if !slices.Equal(ends, []int{2, 7}) || !slices.Equal(ran, units("0011001.")) {
		t.Errorf("the results have become %v and %v", ends, ran)
	}
}
