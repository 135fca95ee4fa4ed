package rms

import (
	"math"
	"math/big"
	"math/rand"
	"slices"
	"testing"

	"slotwright/api"
	"slotwright/rta"
)

const (
	huge  = math.MaxInt
	least = math.MinInt
	nodes = api.MaxNode
)

// numbers are values of Period and Cost around the limits, and such as only a narrower type takes for valid.
var numbers = []int{least, least + 1, -1 << 62, -1 << 32, -1<<32 + 1, -10001, -10000, -256, -2, -1, 0, 1, 2, 3, 255, 256, 257, 9999, 10000, 10001, 20000, 1 << 15, 1<<16 + 1, 1 << 31, 1 << 32, 1<<32 + 1, 1<<32 + 10000, api.MaxTime, 1 << 62, huge - 1, huge}

// tasks returns a list of tasks; each one is given by its period and its cost.
func tasks(numbers ...int) []api.Task {
	l := []api.Task{}
	for at := 0; at < len(numbers); at += 2 {
		l = append(l, api.Task{Period: numbers[at], Cost: numbers[at+1]})
	}
	return l
}

// order returns n tasks with these numbers.
func order(n, period, cost int) []api.Task {
	return slices.Repeat(tasks(period, cost), n)
}

// once returns a task with cost 1 for each period.
func once(periods ...int) []api.Task {
	l := []api.Task{}
	for _, p := range periods {
		l = append(l, api.Task{Period: p, Cost: 1})
	}
	return l
}

// series returns n tasks whose factors of the hyperbolic bound are (n+1)/n to 2n/(2n-1), with all numbers multiplied by scale: their product is 2.
func series(n, scale int) []api.Task {
	l := []api.Task{}
	for k := range n {
		l = append(l, api.Task{Period: scale * (n + k), Cost: scale})
	}
	return l
}

// split returns tasks with the same product of the hyperbolic bound, but as many as there may be.
func split(l []api.Task) []api.Task {
	l = slices.Clone(l)
	for k := 0; len(l) < nodes; k = (k + 1) % len(l) {
		part := min(l[k].Cost/2, 10000-l[k].Period)
		if part > 0 {
			l = append(l, api.Task{Period: l[k].Period + part, Cost: l[k].Cost - part})
			l[k].Cost = part
		}
	}
	return l
}

// without returns the greatest periods of which no two have a common factor, as many as there may be tasks.
func without() []int {
	periods := []int{}
	for p := 10000; len(periods) < nodes; p-- {
		if !slices.ContainsFunc(periods, func(q int) bool { return divisor(p, q) > 1 }) {
			periods = append(periods, p)
		}
	}
	return periods
}

// divisor returns the greatest common divisor of two numbers.
func divisor(a, b int) int {
	d := min(a, b)
	for a%d > 0 || b%d > 0 {
		d--
	}
	return d
}

// reversed returns the tasks in the other order.
func reversed(l []api.Task) []api.Task {
	l = slices.Clone(l)
	slices.Reverse(l)
	return l
}

// wrong tells what rta.Wrong must return.
func wrong(l []api.Task) api.Errno {
	for _, t := range l {
		if !(1 <= t.Period && t.Period <= 10000 && 1 <= t.Cost && t.Cost <= t.Period) {
			return api.ErrRange
		}
	}
	if len(l) > 16 {
		return api.ErrRange
	}
	return api.OK
}

// utilization returns the sum of Cost / Period.
func utilization(l []api.Task) *big.Rat {
	sum := new(big.Rat)
	for _, t := range l {
		sum.Add(sum, big.NewRat(int64(t.Cost), int64(t.Period)))
	}
	return sum
}

// expectedUse tells what Use must return.
func expectedUse(l []api.Task) (api.Frac, api.Errno) {
	if err := wrong(l); err != api.OK {
		return api.Frac{}, err
	}
	sum := utilization(l)
	if !sum.Num().IsInt64() || !sum.Denom().IsInt64() {
		return api.Frac{}, api.ErrFull
	}
	return api.Frac{Num: int(sum.Num().Int64()), Den: int(sum.Denom().Int64())}, api.OK
}

// bound returns by how much the product of 1 + Cost / Period exceeds 2.
func bound(l []api.Task) *big.Rat {
	all := big.NewRat(1, 1)
	for _, t := range l {
		all.Mul(all, big.NewRat(int64(t.Period)+int64(t.Cost), int64(t.Period)))
	}
	return all.Sub(all, big.NewRat(2, 1))
}

// expectedSure tells what Sure must return.
func expectedSure(l []api.Task) (bool, api.Errno) {
	if err := wrong(l); err != api.OK {
		return false, err
	}
	return bound(l).Sign() <= 0, api.OK
}

// expectedSort tells what Sort must return, by taking the first of the least periods again and again.
func expectedSort(l []api.Task) ([]api.Task, api.Errno) {
	if err := wrong(l); err != api.OK {
		return nil, err
	}
	rest := slices.Clone(l)
	var sorted []api.Task
	for len(rest) > 0 {
		first := 0
		for k, t := range rest {
			if t.Period < rest[first].Period {
				first = k
			}
		}
		sorted = append(sorted, rest[first])
		rest = slices.Delete(rest, first, first+1)
	}
	return sorted, api.OK
}

// isInTime tells whether, at some time within its period, a task and those of higher priority have had all the units of their releases before it.
func isInTime(t api.Task, higher []api.Task) bool {
	for time := 1; time <= t.Period; time++ {
		need := t.Cost
		for _, h := range higher {
			need += h.Cost * (1 + (time-1)/h.Period)
		}
		if need <= time {
			return true
		}
	}
	return false
}

// expectedFit tells what Fit must return.
func expectedFit(l []api.Task) (bool, api.Errno) {
	sorted, err := expectedSort(l)
	if err != api.OK {
		return false, err
	}
	for k, t := range sorted {
		if !isInTime(t, sorted[:k]) {
			return false, api.OK
		}
	}
	return true, api.OK
}

// unchanged demands that a call has left its argument as it was.
func unchanged(t *testing.T, name string, l, before []api.Task) {
	t.Helper()
	if !slices.Equal(l, before) {
		t.Fatalf("%s changes %v to %v", name, before, l)
	}
}

// checkUse demands this result of Use, and that the argument stays as it was.
func checkUse(t *testing.T, name string, l []api.Task, want api.Frac, wantErr api.Errno) {
	t.Helper()
	before := slices.Clone(l)
	if got, err := Use(l); got != want || err != wantErr {
		t.Fatalf("%s: Use(%v) = %v, %d; want %v, %d", name, before, got, err, want, wantErr)
	}
	unchanged(t, "Use", l, before)
}

// checkSure demands this result of Sure, and that the argument stays as it was.
func checkSure(t *testing.T, name string, l []api.Task, want bool, wantErr api.Errno) {
	t.Helper()
	before := slices.Clone(l)
	if got, err := Sure(l); got != want || err != wantErr {
		t.Fatalf("%s: Sure(%v) = %v, %d; want %v, %d", name, before, got, err, want, wantErr)
	}
	unchanged(t, "Sure", l, before)
}

// checkSort demands this result of Sort, and that the argument stays as it was.
func checkSort(t *testing.T, name string, l, want []api.Task, wantErr api.Errno) {
	t.Helper()
	before := slices.Clone(l)
	if got, err := Sort(l); !slices.Equal(got, want) || err != wantErr {
		t.Fatalf("%s: Sort(%v) = %v, %d; want %v, %d", name, before, got, err, want, wantErr)
	}
	unchanged(t, "Sort", l, before)
}

// checkFit demands this result of Fit, and that the argument stays as it was.
func checkFit(t *testing.T, name string, l []api.Task, want bool, wantErr api.Errno) {
	t.Helper()
	before := slices.Clone(l)
	if got, err := Fit(l); got != want || err != wantErr {
		t.Fatalf("%s: Fit(%v) = %v, %d; want %v, %d", name, before, got, err, want, wantErr)
	}
	unchanged(t, "Fit", l, before)
}

// compare demands of all functions what the references find.
func compare(t *testing.T, l []api.Task) {
	t.Helper()
	before := slices.Clone(l)
	use, err := expectedUse(before)
	checkUse(t, "against the reference", l, use, err)
	sure, err := expectedSure(before)
	checkSure(t, "against the reference", l, sure, err)
	sorted, err := expectedSort(before)
	checkSort(t, "against the reference", l, sorted, err)
	fit, err := expectedFit(before)
	checkFit(t, "against the reference", l, fit, err)
}

// demandWrong demands of all functions that they find the list out of range, and return nothing else.
func demandWrong(t *testing.T, name string, l []api.Task) {
	t.Helper()
	if rta.Wrong(l) != api.ErrRange || wrong(l) != api.ErrRange {
		t.Fatalf("%s: %v is not out of range", name, l)
	}
	checkUse(t, name, l, api.Frac{}, api.ErrRange)
	checkSure(t, name, l, false, api.ErrRange)
	checkSort(t, name, l, nil, api.ErrRange)
	checkFit(t, name, l, false, api.ErrRange)
}

// T1: the chapter's own example.
func TestExample(t *testing.T) {
	l := tasks(4, 1, 3, 1)
	checkUse(t, "the example", l, api.Frac{Num: 7, Den: 12}, api.OK)
	checkSure(t, "the example", l, true, api.OK)
	checkSort(t, "the example", l, tasks(3, 1, 4, 1), api.OK)
	checkFit(t, "the example", l, true, api.OK)
}

// T1: no task.
func TestNoTask(t *testing.T) {
	for _, l := range [][]api.Task{nil, {}} {
		checkUse(t, "no task", l, api.Frac{Num: 0, Den: 1}, api.OK)
		checkSure(t, "no task", l, true, api.OK)
		checkSort(t, "no task", l, nil, api.OK)
		checkFit(t, "no task", l, true, api.OK)
	}
}

// T1: up to MaxNode tasks, and more.
func TestNumberOfTasks(t *testing.T) {
	for size := range nodes + 1 {
		compare(t, order(size, 10000, 1))
		compare(t, order(size, 10000, 10000))
		compare(t, order(size, 1, 1))
		compare(t, once(without()[:size]...))
	}
	checkUse(t, "MaxNode tasks", order(nodes, 100, 1), api.Frac{Num: 4, Den: 25}, api.OK)
	checkSure(t, "MaxNode tasks", order(nodes, 100, 1), true, api.OK)
	checkSort(t, "MaxNode tasks", order(nodes, 100, 1), order(nodes, 100, 1), api.OK)
	checkFit(t, "MaxNode tasks", order(nodes, 100, 1), true, api.OK)
	for _, size := range []int{nodes + 1, nodes + 2, 2 * nodes, 255, 256, 257, 272, 1<<16 + 1} {
		demandWrong(t, "too many tasks", order(size, 10000, 1))
		demandWrong(t, "too many tasks, which are also too much work", order(size, 1, 1))
	}
	demandWrong(t, "too many tasks, one of them wrong", append(order(nodes, 100, 1), api.Task{}))
	demandWrong(t, "too many tasks, whose utilization is also too great", append(once(without()...), api.Task{Period: 7, Cost: 1}))
}

// T1: one task with every combination of numbers around the limits, alone and beside another one.
func TestNumbersAroundTheLimits(t *testing.T) {
	for _, period := range numbers {
		for _, cost := range append([]int{period - 1, period, period + 1, -period}, numbers...) {
			compare(t, tasks(period, cost))
			compare(t, tasks(300, 1, period, cost))
			compare(t, tasks(period, cost, 2, 1))
		}
	}
	for _, l := range [][]api.Task{tasks(0, 0), tasks(0, 1), tasks(1, 0), tasks(1, 2), tasks(2, 3), tasks(-1, -1), tasks(-2, 1), tasks(5, -1), tasks(10001, 1), tasks(10001, 10001), tasks(10000, 10001), tasks(huge, 1), tasks(huge, huge), tasks(5, huge), tasks(least, least), tasks(least, 1), tasks(5, least)} {
		demandWrong(t, "one task", l)
	}
}

// T1: a wrong task at each place of the list, also where the others are too much work, or their utilization is too great.
func TestWrongTaskAnywhere(t *testing.T) {
	great := once(without()...)
	for size := range nodes + 1 {
		for place := range size {
			for _, bad := range tasks(0, 1, 10001, 1, -1, 1, huge, 1, least, 1, 7, 0, 7, 8, 7, -1, 7, huge, 7, least, 0, 0, -7, -7) {
				for _, l := range [][]api.Task{order(size, 100, 1), order(size, 1, 1), slices.Clone(great[:size])} {
					l[place] = bad
					demandWrong(t, "a wrong task", l)
				}
			}
		}
	}
	demandWrong(t, "two wrong tasks", tasks(0, 1, 5, 6))
}

// useCase is a list of tasks with its utilization.
type useCase struct {
	name string
	l    []api.Task
	want api.Frac
}

// demandUse demands the utilization of each case, in any order of the tasks; the reference must find the same.
func demandUse(t *testing.T, cases []useCase) {
	t.Helper()
	for _, c := range cases {
		if got, err := expectedUse(c.l); got != c.want || err != api.OK {
			t.Errorf("%s: the reference finds %v, %d; want %v", c.name, got, err, c.want)
		}
		checkOrders(t, c.name, c.l, c.want, api.OK)
	}
}

// fullCase is a list of tasks with its utilization, of which a number is too great.
type fullCase struct {
	name string
	l    []api.Task
	use  string
}

// demandFull demands ErrFull for each case, in any order of the tasks; the reference must find the utilization.
func demandFull(t *testing.T, cases []fullCase) {
	t.Helper()
	for _, c := range cases {
		if got := utilization(c.l).String(); got != c.use {
			t.Errorf("%s: the reference finds %s; want %s", c.name, got, c.use)
		}
		checkOrders(t, c.name, c.l, api.Frac{}, api.ErrFull)
	}
}

// checkOrders demands this result of Use, in many orders of the tasks.
func checkOrders(t *testing.T, name string, l []api.Task, want api.Frac, wantErr api.Errno) {
	t.Helper()
	checkUse(t, name, l, want, wantErr)
	checkUse(t, name+", reversed", reversed(l), want, wantErr)
	r := rand.New(rand.NewSource(1))
	l = slices.Clone(l)
	for range 20 {
		r.Shuffle(len(l), func(a, b int) { l[a], l[b] = l[b], l[a] })
		checkUse(t, name+", shuffled", l, want, wantErr)
	}
}

// T1: Use, with small numbers.
func TestUse(t *testing.T) {
	demandUse(t, []useCase{
		{"one task", tasks(7, 3), api.Frac{Num: 3, Den: 7}},
		{"the least numbers", tasks(1, 1), api.Frac{Num: 1, Den: 1}},
		{"the greatest numbers", tasks(10000, 10000), api.Frac{Num: 1, Den: 1}},
		{"the least utilization of a task", tasks(10000, 1), api.Frac{Num: 1, Den: 10000}},
		{"the greatest one below 1", tasks(10000, 9999), api.Frac{Num: 9999, Den: 10000}},
		{"one task in lowest terms", tasks(6, 4), api.Frac{Num: 2, Den: 3}},
		{"one task in lowest terms, great numbers", tasks(10000, 5000), api.Frac{Num: 1, Den: 2}},
		{"two tasks", tasks(3, 1, 5, 2), api.Frac{Num: 11, Den: 15}},
		{"two equal tasks", tasks(5, 1, 5, 1), api.Frac{Num: 2, Den: 5}},
		{"periods with a common factor", tasks(4, 1, 6, 1), api.Frac{Num: 5, Den: 12}},
		{"above 1", tasks(3, 2, 3, 2), api.Frac{Num: 4, Den: 3}},
		{"far above 1", tasks(5, 5, 5, 5, 5, 5, 5, 1), api.Frac{Num: 16, Den: 5}},
		{"just above 1", tasks(1, 1, 10000, 1), api.Frac{Num: 10001, Den: 10000}},
		{"just below 1", tasks(2, 1, 4, 1, 8, 1, 16, 1), api.Frac{Num: 15, Den: 16}},
	})
}

// T1: sums that come down by a common factor.
func TestUseInLowestTerms(t *testing.T) {
	demandUse(t, []useCase{
		{"by 3", tasks(6, 1, 3, 1), api.Frac{Num: 1, Den: 2}},
		{"by 4, twice the factor 2", tasks(4, 1, 12, 1), api.Frac{Num: 1, Den: 3}},
		{"by 10", tasks(6, 1, 10, 1, 15, 1), api.Frac{Num: 1, Den: 3}},
		{"by a factor of one of the periods only", tasks(7, 1, 9, 3), api.Frac{Num: 10, Den: 21}},
		{"by all of equal periods but one", order(4, 9, 1), api.Frac{Num: 4, Den: 9}},
		{"by a power of 3", order(3, 9, 1), api.Frac{Num: 1, Den: 3}},
		{"by a power of 2", order(nodes, 8, 1), api.Frac{Num: 2, Den: 1}},
		{"great numbers", order(nodes, 10000, 1), api.Frac{Num: 1, Den: 625}},
		{"great numbers, and 1 more", append(order(nodes-1, 10000, 1), tasks(9999, 9999)...), api.Frac{Num: 2003, Den: 2000}},
		{"a prime number", tasks(9973, 9, 9973, 9963), api.Frac{Num: 9972, Den: 9973}},
	})
}

// T1: utilizations that are whole numbers.
func TestUseOfWholeNumbers(t *testing.T) {
	demandUse(t, []useCase{
		{"1, two tasks", tasks(2, 1, 2, 1), api.Frac{Num: 1, Den: 1}},
		{"1, three periods", tasks(2, 1, 3, 1, 6, 1), api.Frac{Num: 1, Den: 1}},
		{"1, a prime number", tasks(9973, 1, 9973, 9972), api.Frac{Num: 1, Den: 1}},
		{"2", tasks(2, 2, 3, 3), api.Frac{Num: 2, Den: 1}},
		{"2, of fractions", tasks(3, 2, 6, 4, 9, 6), api.Frac{Num: 2, Den: 1}},
		{"MaxNode", order(nodes, 1, 1), api.Frac{Num: nodes, Den: 1}},
		{"MaxNode, great numbers", order(nodes, 10000, 10000), api.Frac{Num: nodes, Den: 1}},
	})
}

// T1: numerators and denominators of 2^63 - 1 at most.
func TestUseUpToTheLimit(t *testing.T) {
	demandUse(t, []useCase{
		{"the denominator 2^63 - 8", once(8, 9, 25, 7, 11, 13, 31, 41, 61, 151, 331, 1321), api.Frac{Num: 6181899065641778807, Den: huge - 7}},
		{"the numerator 2^63 - 2", tasks(3299, 2157, 3559, 2697, 5471, 344, 6317, 2844, 6481, 3775, 1, 1), api.Frac{Num: huge - 1, Den: 2629843572374550047}},
		{"the numerator 2^63 - 1, only fractions", tasks(3881, 2130, 4637, 2306, 5011, 2308, 5821, 2255, 6397, 5454), api.Frac{Num: huge, Den: 3357987625436159479}},
		{"the numerator 2^63 - 1, and whole tasks", append(tasks(3121, 2632, 3407, 1368, 4657, 3569, 4871, 706, 5087, 1835), order(5, 3121, 3121)...), api.Frac{Num: huge, Den: 1227021033318365783}},
		{"both just up to it", tasks(4467, 362, 5110, 489, 6067, 1931, 7979, 1217, 8347, 2942), api.Frac{Num: huge - 174, Den: huge - 14991394537}},
	})
}

// T1: numerators and denominators above 2^63 - 1.
func TestUseAboveTheLimit(t *testing.T) {
	demandFull(t, []fullCase{
		{"the denominator 2^63 + 209", once(7, 31, 673, 853, 1669, 5821, 7621), "1647991475111794003/9223372036854776017"},
		{"only the denominator, both just around it", tasks(5003, 240, 5692, 1565, 5809, 144, 5907, 587, 9439, 5219), "9223372036854775771/9223372055726769732"},
		{"only the numerator, both just around it", tasks(4467, 1405, 5110, 751, 6067, 244, 7979, 438, 8347, 3701), "9223372036854775847/9223372021863381270"},
		{"both just above it", tasks(5003, 2089, 5692, 203, 5809, 122, 5907, 1801, 9439, 2085), "9223372036854775841/9223372055726769732"},
		{"the numerator 2^63", tasks(3947, 2347, 4127, 2270, 4933, 1010, 6133, 548, 6481, 2910, 1, 1), "9223372036854775808/3193946938573768621"},
		{"the numerator 2^63, and many whole tasks", append(tasks(3089, 900, 3137, 1987, 3457, 1618, 4339, 344, 5557, 5262), order(9, 1, 1)...), "9223372036854775808/807721891188007423"},
		{"the numerator 2^63 + 1", append(tasks(3037, 685, 3119, 2512, 4639, 1180, 5351, 535, 5813, 2108), order(5, 10000, 10000)...), "9223372036854775809/1366846714285623671"},
		{"the numerator 2^64", append(tasks(3299, 2987, 3559, 1923, 5471, 529, 6317, 3417, 6481, 6034), order(4, 1, 1)...), "18446744073709551616/2629843572374550047"},
		{"the numerator 2^64 + 1", append(tasks(3517, 2678, 4073, 3075, 4943, 3970, 5113, 1898, 6301, 2493), order(5, 1, 1)...), "18446744073709551617/2281196314173102919"},
		{"the numerator 2^64 + 5", append(tasks(3881, 3514, 4637, 86, 5011, 1304, 5821, 5405, 6397, 2435), order(3, 1, 1)...), "18446744073709551621/3357987625436159479"},
		{"the denominator 2^64 + 418", once(2, 7, 31, 673, 853, 1669, 5821, 7621), "12519354987078364023/18446744073709552034"},
	})
}

// T1: sums that pass 2^63 - 1 on the way and come down again.
func TestUseThatPassesTheLimit(t *testing.T) {
	pairs := []api.Task{}
	for _, p := range without()[:nodes/2] {
		pairs = append(pairs, tasks(p, 1, p, p-1)...)
	}
	whole := []api.Task{}
	for _, p := range without() {
		whole = append(whole, api.Task{Period: p, Cost: p})
	}
	demandUse(t, []useCase{
		{"pairs that make 1", pairs, api.Frac{Num: nodes / 2, Den: 1}},
		{"pairs that make 1, the last of them less", append(slices.Clone(pairs[:nodes-1]), tasks(3, 1)...), api.Frac{Num: 219409, Den: 29919}},
		{"pairs, and 1/3 more", append(slices.Clone(pairs[:nodes-2]), tasks(3, 1)...), api.Frac{Num: 22, Den: 3}},
		{"each of them 1", whole, api.Frac{Num: nodes, Den: 1}},
		{"the greatest period again and again", order(nodes, 9973, 1), api.Frac{Num: nodes, Den: 9973}},
		{"the product of the periods is great, not their common multiple", tasks(9999, 1, 9999, 2, 9999, 5, 3333, 1, 1111, 1, 909, 1, 303, 1, 101, 1), api.Frac{Num: 163, Den: 9999}},
	})
	for size := range nodes + 1 {
		compare(t, pairs[:size])
		compare(t, whole[:size])
	}
}

// T1: sixteen tasks of great periods without a common factor.
func TestGreatPeriodsWithoutCommonFactor(t *testing.T) {
	periods := without()
	last, greatest, half := once(periods...), once(periods...), once(periods...)
	for k, p := range periods {
		greatest[k].Cost = p - 1
		half[k].Cost = p / 2
	}
	for _, l := range [][]api.Task{last, greatest, half, reversed(last), reversed(greatest), reversed(half)} {
		checkUse(t, "no common factor", l, api.Frac{}, api.ErrFull)
		compare(t, l)
		for size := range nodes + 1 {
			compare(t, l[:size])
		}
	}
	checkSure(t, "no common factor, little work", last, true, api.OK)
	checkFit(t, "no common factor, little work", last, true, api.OK)
	checkSure(t, "no common factor, much work", greatest, false, api.OK)
	checkFit(t, "no common factor, much work", greatest, false, api.OK)
}

// sureCase is a list of tasks with whether its product is below (-1), at (0) or above 2 (1).
type sureCase struct {
	name string
	l    []api.Task
	side int
}

// demandSure demands that Sure finds the product of each case at most 2 or not, in both orders; the reference must find the same.
func demandSure(t *testing.T, cases []sureCase) {
	t.Helper()
	for _, c := range cases {
		if got := bound(c.l).Sign(); got != c.side {
			t.Errorf("%s: the reference finds the product of %v on side %d; want %d", c.name, c.l, got, c.side)
		}
		checkSure(t, c.name, c.l, c.side <= 0, api.OK)
		checkSure(t, c.name+", reversed", reversed(c.l), c.side <= 0, api.OK)
	}
}

// T1: Sure, with small numbers.
func TestSure(t *testing.T) {
	demandSure(t, []sureCase{
		{"one task", tasks(7, 3), -1},
		{"one task that takes every unit", tasks(7, 7), 0},
		{"the least numbers", tasks(1, 1), 0},
		{"the greatest numbers", tasks(10000, 10000), 0},
		{"just below, one task", tasks(10000, 9999), -1},
		{"just above, two tasks", tasks(10000, 10000, 10000, 1), 1},
		{"at 2, two tasks", tasks(2, 1, 3, 1), 0},
		{"at 2, and one more", tasks(2, 1, 3, 1, 10000, 1), 1},
		{"at 2, different costs", tasks(4, 2, 9, 3), 0},
		{"the utilization is 1, but the product is above 2", tasks(2, 1, 2, 1), 1},
		{"the utilization is below 1, but the product is above 2", tasks(4, 2, 10, 4), 1},
		{"just below, two equal tasks", order(2, 5741, 2378), -1},
		{"just above, two equal tasks", order(2, 2378, 985), 1},
		{"far above", order(nodes, 10000, 10000), 1},
		{"far above, the least numbers", order(nodes, 1, 1), 1},
		{"far below", order(nodes, 10000, 1), -1},
		{"MaxNode equal tasks, below", order(nodes, 10000, 442), -1},
		{"MaxNode equal tasks, above", order(nodes, 10000, 443), 1},
	})
}

// T1: a product that is 2 exactly, with up to MaxNode tasks and great numbers, and one task of it changed a little.
func TestSureAtTwo(t *testing.T) {
	for n := range nodes {
		for _, scale := range []int{1, 2, 7, 100, 10000 / (2*n + 1)} {
			l := series(n+1, scale)
			demandSure(t, []sureCase{{"at 2", l, 0}})
			for k := range l {
				more, less, longer, shorter := slices.Clone(l), slices.Clone(l), slices.Clone(l), slices.Clone(l)
				more[k].Cost++
				less[k].Cost--
				longer[k].Period++
				shorter[k].Period--
				if wrong(more) == api.OK {
					demandSure(t, []sureCase{{"one unit more", more, 1}})
				}
				if wrong(less) == api.OK {
					demandSure(t, []sureCase{{"one unit less", less, -1}})
				}
				if wrong(longer) == api.OK {
					demandSure(t, []sureCase{{"one period longer", longer, -1}})
				}
				if wrong(shorter) == api.OK {
					demandSure(t, []sureCase{{"one period shorter", shorter, 1}})
				}
			}
		}
	}
}

// T1: products of which the numerator is by 1 too great or too small, also where the numbers pass 64 bits.
func TestSureJustBesideTwo(t *testing.T) {
	cases := []sureCase{
		{"below, 41 bits", tasks(9886, 2757, 9889, 2620, 9995, 2362), -1},
		{"above, 41 bits", tasks(7557, 1064, 8266, 441, 9704, 6447), 1},
		{"below, 67 bits", tasks(7171, 812, 8129, 672, 8356, 2551, 8747, 34, 8894, 2369), -1},
		{"above, 67 bits", tasks(7315, 2174, 8486, 917, 8531, 1838, 8839, 1180, 9241, 92), 1},
		{"below, 80 bits", tasks(8075, 1148, 8120, 1063, 8468, 561, 8507, 190, 9014, 1643, 9298, 1873), -1},
		{"above, 79 bits", tasks(7015, 992, 7109, 114, 7928, 535, 8410, 2177, 8630, 299, 8795, 2114), 1},
	}
	demandSure(t, cases)
	for _, c := range cases {
		demandSure(t, []sureCase{{c.name + ", split into more tasks", split(c.l), c.side}})
	}
}

// T1: Sort.
func TestSort(t *testing.T) {
	for _, c := range []struct {
		name    string
		l, want []api.Task
	}{
		{"one task", tasks(5, 2), tasks(5, 2)},
		{"in order already", tasks(1, 1, 2, 1, 3, 2, 10000, 1), tasks(1, 1, 2, 1, 3, 2, 10000, 1)},
		{"in reverse order", tasks(10000, 1, 3, 2, 2, 1, 1, 1), tasks(1, 1, 2, 1, 3, 2, 10000, 1)},
		{"mixed", tasks(3, 1, 1, 1, 4, 2, 2, 2), tasks(1, 1, 2, 2, 3, 1, 4, 2)},
		{"equal periods, rising costs", tasks(9, 1, 9, 2, 9, 3), tasks(9, 1, 9, 2, 9, 3)},
		{"equal periods, falling costs", tasks(9, 3, 9, 2, 9, 1), tasks(9, 3, 9, 2, 9, 1)},
		{"equal periods between others", tasks(9, 3, 2, 2, 9, 5, 2, 1, 9, 4, 1, 1), tasks(1, 1, 2, 2, 2, 1, 9, 3, 9, 5, 9, 4)},
		{"equal tasks", order(nodes, 3, 2), order(nodes, 3, 2)},
		{"the period counts, not the cost", tasks(8, 1, 7, 6), tasks(7, 6, 8, 1)},
		{"the period counts, not the utilization", tasks(8, 7, 7, 1), tasks(7, 1, 8, 7)},
		{"numbers, not texts", tasks(10, 1, 9, 1, 100, 1), tasks(9, 1, 10, 1, 100, 1)},
		{"MaxNode tasks", series(nodes, 1), series(nodes, 1)},
		{"MaxNode tasks in reverse order", reversed(series(nodes, 1)), series(nodes, 1)},
		{"too much work", tasks(5, 5, 4, 4), tasks(4, 4, 5, 5)},
	} {
		checkSort(t, c.name, c.l, c.want, api.OK)
	}
}

// T1: MaxNode tasks of few different periods keep their order.
func TestSortKeepsTheOrderOfEqualPeriods(t *testing.T) {
	for kinds := 1; kinds <= 5; kinds++ {
		l, want := []api.Task{}, []api.Task{}
		for k := range nodes {
			l = append(l, api.Task{Period: 100 + (nodes-k)%kinds, Cost: 1 + k*7%nodes})
		}
		for kind := range kinds {
			for _, t := range l {
				if t.Period == 100+kind {
					want = append(want, t)
				}
			}
		}
		checkSort(t, "few periods", l, want, api.OK)
	}
}

// fitCase is a list of tasks with whether it fits.
type fitCase struct {
	name string
	l    []api.Task
	want bool
}

// demandFit demands that each case fits or not, in both orders; the reference must find the same.
func demandFit(t *testing.T, cases []fitCase) {
	t.Helper()
	for _, c := range cases {
		if got, err := expectedFit(c.l); got != c.want || err != api.OK {
			t.Errorf("%s: the reference finds %v, %d; want %v", c.name, got, err, c.want)
		}
		checkFit(t, c.name, c.l, c.want, api.OK)
		checkFit(t, c.name+", reversed", reversed(c.l), c.want, api.OK)
	}
}

// T1: Fit.
func TestFit(t *testing.T) {
	demandFit(t, []fitCase{
		{"one task", tasks(7, 3), true},
		{"one task that takes every unit", tasks(7, 7), true},
		{"the greatest numbers", tasks(10000, 10000), true},
		{"above the hyperbolic bound", tasks(2, 1, 4, 2), true},
		{"the last one ends with its period", tasks(4, 2, 6, 2, 11, 1), true},
		{"the last one ends one unit later", tasks(4, 2, 6, 2, 10, 1), false},
		{"not full, and yet too much", tasks(5, 2, 7, 4), false},
		{"equal periods", tasks(7, 3, 7, 4), true},
		{"equal periods, one unit too much", tasks(7, 4, 7, 4), false},
		{"MaxNode tasks", order(nodes, nodes, 1), true},
		{"MaxNode tasks, one unit too much", order(nodes, nodes-1, 1), false},
		{"MaxNode periods", series(nodes, 1), true},
		{"the second of three has no room", tasks(3, 2, 4, 2, 100, 1), false},
	})
}

// T1: tasks that fit, but not in the given order.
func TestFitWhenSorted(t *testing.T) {
	for _, l := range [][]api.Task{tasks(12, 3, 4, 2), tasks(12, 3, 6, 2, 4, 1), tasks(10000, 9000, 20, 1), tasks(6, 1, 3, 1, 8, 1, 4, 1), reversed(tasks(2, 1, 4, 1, 8, 1, 16, 1))} {
		if _, err := rta.Ends(l); err != api.ErrFull {
			t.Errorf("rta.Ends(%v) has error %d", l, err)
		}
		demandFit(t, []fitCase{{"when sorted", l, true}})
	}
}

// T1: tasks that use the processor wholly.
func TestFitOnAFullProcessor(t *testing.T) {
	cases := []fitCase{
		{"one task", tasks(3, 3), true},
		{"two tasks", tasks(2, 1, 4, 2), true},
		{"equal periods", order(nodes, 10000, 625), true},
		{"each period divides the next one", tasks(2, 1, 4, 1, 8, 1, 16, 2), true},
		{"periods that do not divide each other", tasks(2, 1, 3, 1, 6, 1), true},
		{"great numbers", tasks(5000, 2500, 10000, 5000), true},
		{"periods with a common factor", tasks(4, 2, 6, 3), false},
		{"the last period is a multiple of all others", tasks(2, 1, 3, 1, 7, 1, 42, 1), true},
		{"three tasks, not fitting", tasks(4, 1, 6, 3, 8, 2), false},
		{"great numbers, not fitting", tasks(4000, 2000, 6000, 3000), false},
	}
	demandFit(t, cases)
	for _, c := range cases {
		checkUse(t, c.name, c.l, api.Frac{Num: 1, Den: 1}, api.OK)
	}
}

// T1: a utilization above 1.
func TestAboveOne(t *testing.T) {
	for _, l := range [][]api.Task{tasks(2, 2, 4, 1), tasks(1, 1, 10000, 1), tasks(1, 1, 1, 1), tasks(3, 2, 3, 2), tasks(2, 1, 3, 1, 5, 1), order(nodes, 10000, 10000), order(nodes, 1, 1), order(nodes, 10000, 626)} {
		if utilization(l).Cmp(big.NewRat(1, 1)) <= 0 {
			t.Errorf("the utilization of %v is not above 1", l)
		}
		demandFit(t, []fitCase{{"above 1", l, false}})
		demandSure(t, []sureCase{{"above 1", l, 1}})
		compare(t, l)
	}
}

// everyTask returns all valid tasks with periods up to a limit.
func everyTask(limit int) []api.Task {
	var all []api.Task
	for period := range limit {
		for cost := range period + 1 {
			all = append(all, api.Task{Period: period + 1, Cost: cost + 1})
		}
	}
	return all
}

// everyList calls visit with all lists of size tasks with periods up to a limit.
func everyList(size, limit int, visit func(l []api.Task)) {
	all := everyTask(limit)
	l := make([]api.Task, size)
	var choose func(place int)
	choose = func(place int) {
		if place == size {
			visit(l)
			return
		}
		for _, l[place] = range all {
			choose(place + 1)
		}
	}
	choose(0)
}

// T1: all short lists of short tasks.
func TestAllShortLists(t *testing.T) {
	for size, limit := range []int{1, 100, 16, 7, 4} {
		everyList(size, limit, func(l []api.Task) { compare(t, l) })
	}
}

// someTasks returns tasks with periods of one order of magnitude; how much of the processor they use differs.
func someTasks(r *rand.Rand) []api.Task {
	l := make([]api.Task, r.Intn(nodes+1))
	limit := 1 + r.Intn(1<<r.Intn(14))
	share := 1 + r.Intn(2*len(l)+2)
	for k := range l {
		l[k].Period = 1 + r.Intn(min(limit, 10000))
		l[k].Cost = 1 + r.Intn(max(l[k].Period/share, 1))
	}
	if len(l) > 0 && r.Intn(10) == 0 {
		l[r.Intn(len(l))] = api.Task{Period: numbers[r.Intn(len(numbers))], Cost: numbers[r.Intn(len(numbers))]}
	}
	return l
}

// T1: many lists.
func TestManyLists(t *testing.T) {
	r := rand.New(rand.NewSource(1))
	errs, fits, sures := map[api.Errno]int{}, map[bool]int{}, map[bool]int{}
	for range 10000 {
		l := someTasks(r)
		compare(t, l)
		_, err := Use(l)
		errs[err]++
		if err != api.ErrRange {
			sure, _ := Sure(l)
			fit, _ := Fit(l)
			sures[sure]++
			fits[fit]++
		}
	}
	for _, err := range []api.Errno{api.OK, api.ErrFull, api.ErrRange} {
		if errs[err] < 500 {
			t.Errorf("only %d of the lists have error %d", errs[err], err)
		}
	}
	for _, is := range []bool{false, true} {
		if fits[is] < 500 || sures[is] < 500 {
			t.Errorf("only %d of the lists fit and only %d are sure, where that is %v", fits[is], sures[is], is)
		}
	}
}

// demandBounds demands that what is sure fits, and that what fits does not use more than the whole processor.
func demandBounds(t *testing.T, l []api.Task) {
	t.Helper()
	sure, _ := Sure(l)
	fit, _ := Fit(l)
	whole := utilization(l).Cmp(big.NewRat(1, 1)) <= 0
	if sure && !fit || fit && !whole {
		t.Fatalf("%v: sure is %v, fit is %v, and a utilization of at most 1 is %v", l, sure, fit, whole)
	}
}

// The property of the whole: the hyperbolic bound is sufficient.
func TestHyperbolicBoundIsSufficient(t *testing.T) {
	for size, limit := range []int{1, 60, 18, 8, 5} {
		everyList(size, limit, func(l []api.Task) { demandBounds(t, l) })
	}
	r := rand.New(rand.NewSource(2))
	for range 20000 {
		l := someTasks(r)
		if wrong(l) == api.OK {
			demandBounds(t, l)
		}
	}
	for n := range nodes {
		demandBounds(t, series(n+1, 1))
		demandBounds(t, series(n+1, 10000/(2*n+1)))
	}
}

// everyOrder calls visit with all orders of the tasks.
func everyOrder(l []api.Task, visit func(l []api.Task)) {
	var choose func(place int)
	choose = func(place int) {
		if place == len(l) {
			visit(l)
			return
		}
		for k := place; k < len(l); k++ {
			l[place], l[k] = l[k], l[place]
			choose(place + 1)
			l[place], l[k] = l[k], l[place]
		}
	}
	choose(0)
}

// T1: the order of the tasks changes no result but that of Sort, and tasks fit if rta.Ends has room for them in any order.
func TestAnyOrder(t *testing.T) {
	for size, limit := range []int{1, 10, 10, 6, 4} {
		everyList(size, limit, func(l []api.Task) {
			use, useErr := Use(l)
			sure, _ := Sure(l)
			fit, _ := Fit(l)
			everyOrder(slices.Clone(l), func(other []api.Task) {
				checkUse(t, "another order", other, use, useErr)
				checkSure(t, "another order", other, sure, api.OK)
				checkFit(t, "another order", other, fit, api.OK)
				if _, err := rta.Ends(other); err == api.OK && !fit {
					t.Fatalf("%v does not fit, but rta.Ends has room for %v", l, other)
				}
			})
		})
	}
}

// T1: tasks of which each period divides the next one fit unless they use more than the whole processor.
func TestHarmonicPeriods(t *testing.T) {
	r := rand.New(rand.NewSource(3))
	count := map[bool]int{}
	for range 3000 {
		l := []api.Task{}
		share := 1 + r.Intn(20)
		for period := share + r.Intn(5); period <= 10000 && len(l) < nodes; period *= 1 + r.Intn(3) {
			l = append(l, api.Task{Period: period, Cost: 1 + r.Intn(period/share)})
		}
		r.Shuffle(len(l), func(a, b int) { l[a], l[b] = l[b], l[a] })
		want := utilization(l).Cmp(big.NewRat(1, 1)) <= 0
		checkFit(t, "each period divides the next one", l, want, api.OK)
		count[want]++
	}
	if count[false] < 500 || count[true] < 500 {
		t.Errorf("the lists that fit, and those that do not: %v", count)
	}
}

// AA1: calls in between, also with errors, change no result.
func TestNoStateIsKept(t *testing.T) {
	l := tasks(12, 3, 4, 2)
	for _, other := range [][]api.Task{nil, l, tasks(1, 1), tasks(4, 2, 3, 2), tasks(0, 0), once(without()...), order(nodes, 16, 1), order(nodes+1, 20, 1)} {
		Use(other)
		Sure(other)
		Sort(other)
		Fit(other)
		checkUse(t, "after other calls", l, api.Frac{Num: 3, Den: 4}, api.OK)
		checkSure(t, "after other calls", l, true, api.OK)
		checkSort(t, "after other calls", l, tasks(4, 2, 12, 3), api.OK)
		checkFit(t, "after other calls", l, true, api.OK)
	}
}

// AA2: what lies behind the length of the argument is neither read nor changed.
func TestSpareCapacityIsLeftAlone(t *testing.T) {
	all := append(tasks(12, 3, 6, 2, 4, 1, 4, 4, 0, 0), order(nodes, 10000, 10000)...)
	l := slices.Clone(all)
	for size := range len(all) {
		compare(t, l[:size])
		if !slices.Equal(l, all) {
			t.Fatalf("with %d tasks the argument has become %v", size, l)
		}
	}
}

// AA2: the result of Sort is new memory, also where the tasks are in order already.
func TestResultIsNewMemory(t *testing.T) {
	for _, l := range [][]api.Task{tasks(4, 2, 12, 3), tasks(12, 3, 4, 2), tasks(4, 2, 4, 2, 4, 2), tasks(5, 1)} {
		before := slices.Clone(l)
		want, _ := expectedSort(l)
		sorted, _ := Sort(l)
		again, _ := Sort(l)
		clear(l)
		if !slices.Equal(sorted, want) {
			t.Errorf("after the argument was changed the result is %v", sorted)
		}
		copy(l, before)
		clear(sorted)
		_ = append(sorted, tasks(1, 1, 1, 1)...)
		if !slices.Equal(l, before) || !slices.Equal(again, want) {
			t.Errorf("after one result was changed the argument is %v, and another result %v", l, again)
		}
	}
}
