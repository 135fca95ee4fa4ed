package fta

import (
	"math"
	"math/big"
	"math/rand"
	"slices"
	"testing"

	"slotwright/api"
)

const (
	huge  = math.MaxInt
	least = math.MinInt
	last  = api.MaxTime
	most  = api.MaxOps
)

// values and counts are the numbers around the limits of elements and of k, and such as only a wrong comparison, an overflow of 2k or a narrower type takes for valid.
var (
	values = []int{least, least + 1, -1 << 62, -last - 1, -last, -last + 1, -1 << 32, -3, -2, -1, 0, 1, 2, 3, 1 << 32, last - 1, last, last + 1, 1 << 62, huge - 1, huge}
	counts = []int{least, least + 1, -1 << 62, -1 << 32, -400, -1, 0, 1, 2, 3, 198, 199, 200, 201, 399, 400, 401, 1 << 32, 1 << 62, 1<<62 + 1, huge - 1, huge}
)

// same returns n times the number v.
func same(n, v int) []int { return slices.Repeat([]int{v}, n) }

// steps returns n numbers from first on, each one greater than the one before it.
func steps(n, first int) []int {
	list := make([]int, n)
	for at := range list {
		list[at] = first + at
	}
	return list
}

// wrong tells what Wrong must return: everything out of range comes before a list that is too short.
func wrong(l []int, k int) api.Errno {
	outside := func(v int) bool { return v < -1<<40 || v > 1<<40 }
	switch {
	case len(l) > 400, k < 0, k > 400, slices.ContainsFunc(l, outside):
		return api.ErrRange
	case len(l) < 2*k+1:
		return api.ErrShort
	}
	return api.OK
}

// trim removes, k times, a smallest and a largest element of a copy of l.
func trim(l []int, k int) []int {
	rest := slices.Clone(l)
	for range k {
		low := slices.Index(rest, slices.Min(rest))
		rest = slices.Delete(rest, low, low+1)
		high := slices.Index(rest, slices.Max(rest))
		rest = slices.Delete(rest, high, high+1)
	}
	return rest
}

// mean tells the sum of numbers divided by their count and rounded down, with numbers that can't overflow.
func mean(numbers ...int) int {
	sum := new(big.Int)
	for _, v := range numbers {
		sum.Add(sum, big.NewInt(int64(v)))
	}
	return int(sum.Div(sum, big.NewInt(int64(len(numbers)))).Int64())
}

// answers are the results of all functions for one list.
type answers struct {
	wrong             api.Errno
	mid, mean, spread int
	errs              [3]api.Errno
}

// ask calls all functions.
func ask(l []int, k int) answers {
	a := answers{wrong: Wrong(l, k)}
	a.mid, a.errs[0] = Mid(l, k)
	a.mean, a.errs[1] = Mean(l, k)
	a.spread, a.errs[2] = Spread(l, k)
	return a
}

// failure is what all functions together return for an error.
func failure(err api.Errno) answers {
	return answers{wrong: err, errs: [3]api.Errno{err, err, err}}
}

// expected tells what all functions must return.
func expected(l []int, k int) answers {
	if err := wrong(l, k); err != api.OK {
		return failure(err)
	}
	rest := trim(l, k)
	low, high := slices.Min(rest), slices.Max(rest)
	return answers{mid: mean(low, high), mean: mean(rest...), spread: high - low}
}

// check demands of all functions what the reference finds, and that the list stays as it was.
func check(t *testing.T, l []int, k int) {
	t.Helper()
	before := slices.Clone(l)
	got, want := ask(l, k), expected(l, k)
	if got != want {
		t.Fatalf("the results for %v and %d are %v; want %v", before, k, got, want)
	}
	if !slices.Equal(l, before) {
		t.Fatalf("with k = %d the list %v has become %v", k, before, l)
	}
}

// validValue returns an element of any order of magnitude, on either side of 0.
func validValue(r *rand.Rand) int {
	v := r.Intn(1<<r.Intn(41) + 1)
	switch r.Intn(6) {
	case 0:
		v = last - r.Intn(3)
	case 1:
		v = r.Intn(4)
	}
	if r.Intn(2) == 0 {
		return -v
	}
	return v
}

// L1: the averages by hand.
func TestAverages(t *testing.T) {
	for _, c := range []struct {
		name              string
		l                 []int
		k                 int
		mid, mean, spread int
	}{
		{"the example", []int{9, 1, 100, 4}, 1, 6, 6, 5},
		{"the example, sorted", []int{1, 4, 9, 100}, 1, 6, 6, 5},
		{"the example, the other way round", []int{100, 9, 4, 1}, 1, 6, 6, 5},
		{"the example, nothing removed", []int{9, 1, 100, 4}, 0, 50, 28, 99},
		{"one element", []int{7}, 0, 7, 7, 0},
		{"one element of 0", []int{0}, 0, 0, 0, 0},
		{"one element of -1", []int{-1}, 0, -1, -1, 0},
		{"one element of 1", []int{1}, 0, 1, 1, 0},
		{"one element of -MaxTime", []int{-last}, 0, -1099511627776, -1099511627776, 0},
		{"one element of MaxTime", []int{last}, 0, 1099511627776, 1099511627776, 0},
		{"2k + 1 elements: the median", []int{30, 10, 20}, 1, 20, 20, 0},
		{"2k + 1 elements of 5", []int{5, -9, 8, 70, -60}, 2, 5, 5, 0},
		{"2k + 2 elements", []int{5, -9, 8, 70, -60, 7}, 2, 6, 6, 2},
		{"equal elements", []int{4, 4, 4, 4, 4}, 1, 4, 4, 0},
		{"equal elements below 0", []int{-4, -4, -4}, 0, -4, -4, 0},
		{"only one of two equal smallest is removed", []int{1, 9, 1, 20}, 1, 5, 5, 8},
		{"only one of two equal largest is removed", []int{20, 9, 1, 20}, 1, 14, 14, 11},
		{"equal smallest and equal largest", []int{0, 0, 0, 6, 6}, 1, 3, 2, 6},
		{"mid and mean differ", []int{0, 0, 0, 0, 100}, 0, 50, 20, 100},
		{"an odd sum above 0", []int{1, 2}, 0, 1, 1, 1},
		{"an odd sum below 0", []int{-1, -2}, 0, -2, -2, 1},
		{"a sum of -1", []int{-1, 0}, 0, -1, -1, 1},
		{"a sum of 1", []int{0, 1}, 0, 0, 0, 1},
		{"an odd sum of both signs, below 0", []int{4, -7}, 0, -2, -2, 11},
		{"an odd sum of both signs, above 0", []int{-4, 7}, 0, 1, 1, 11},
		{"an even sum below 0", []int{-1, -3}, 0, -2, -2, 2},
		{"a sum of 0", []int{-3, 3}, 0, 0, 0, 6},
		{"a mean of a third below 0", []int{0, -1, 0}, 0, -1, -1, 1},
		{"a mean of two thirds below 0", []int{-1, -1, 0}, 0, -1, -1, 1},
		{"a whole mean below 0", []int{-1, -1, -4}, 0, -3, -2, 3},
		{"a mean of a third above 0", []int{0, 1, 0}, 0, 0, 0, 1},
		{"a mean of two thirds above 0", []int{1, 1, 0}, 0, 0, 0, 1},
		{"a mean of four thirds below 0", []int{-4, 0, 0}, 0, -2, -2, 4},
		{"below 0 after trimming", []int{50, -1, -2, -90}, 1, -2, -2, 1},
		{"both limits", []int{last, -last}, 0, 0, 0, 2199023255552},
		{"both limits and one more", []int{last, -last, -1}, 0, 0, -1, 2199023255552},
		{"the limits are removed", []int{last, 3, -last}, 1, 3, 3, 0},
		{"almost the limits, below 0", []int{-last, -last + 1}, 0, -1099511627776, -1099511627776, 1},
		{"almost the limits, above 0", []int{last, last - 1}, 0, 1099511627775, 1099511627775, 1},
		{"MaxOps elements, k = 0", steps(most, 1), 0, 200, 200, 399},
		{"MaxOps elements below 0, k = 0", steps(most, -400), 0, -201, -201, 399},
		{"MaxOps elements, k = 1", steps(most, 1), 1, 200, 200, 397},
		{"MaxOps elements, k = 199", steps(most, 1), 199, 200, 200, 1},
		{"MaxOps elements below 0, k = 199", steps(most, -400), 199, -201, -201, 1},
		{"MaxOps - 1 elements, k = 199", steps(most-1, 1), 199, 200, 200, 0},
		{"MaxOps times MaxTime", same(most, last), 0, 1099511627776, 1099511627776, 0},
		{"MaxOps times -MaxTime", same(most, -last), 0, -1099511627776, -1099511627776, 0},
		{"one unlike the MaxOps - 1 others", append(same(most-1, 0), -1), 0, -1, -1, 1},
	} {
		want := answers{mid: c.mid, mean: c.mean, spread: c.spread}
		if got := ask(c.l, c.k); got != want {
			t.Errorf("%s: the results are %v; want %v", c.name, got, want)
		}
	}
}

// L1: the errors by hand: a number out of range, wherever it is, comes before a list that is too short.
func TestErrors(t *testing.T) {
	for _, c := range []struct {
		name string
		l    []int
		k    int
		want api.Errno
	}{
		{"no element, k = 0", nil, 0, api.ErrShort},
		{"no element, k = 1", nil, 1, api.ErrShort},
		{"no element, k = MaxOps", nil, most, api.ErrShort},
		{"no element, k = MaxOps + 1", nil, most + 1, api.ErrRange},
		{"no element, k = -1", nil, -1, api.ErrRange},
		{"one element, k = -1", []int{5}, -1, api.ErrRange},
		{"one element, k = 1", []int{5}, 1, api.ErrShort},
		{"2k elements", []int{1, 2}, 1, api.ErrShort},
		{"2k elements, k = 2", []int{1, 2, 3, 4}, 2, api.ErrShort},
		{"2k - 1 elements", []int{1, 2, 3}, 2, api.ErrShort},
		{"MaxOps elements, k = 200", same(most, 0), 200, api.ErrShort},
		{"MaxOps - 1 elements, k = 200", same(most-1, 0), 200, api.ErrShort},
		{"MaxOps elements, k = MaxOps", same(most, 0), most, api.ErrShort},
		{"MaxOps elements, k = MaxOps + 1", same(most, 0), most + 1, api.ErrRange},
		{"MaxOps elements, k = -1", same(most, 0), -1, api.ErrRange},
		{"MaxOps + 1 elements, k = 0", same(most+1, 0), 0, api.ErrRange},
		{"MaxOps + 1 elements, k = 1", same(most+1, 0), 1, api.ErrRange},
		{"MaxOps + 1 elements, k = 200", same(most+1, 0), 200, api.ErrRange},
		{"MaxOps + 1 elements, also too few", same(most+1, 0), most, api.ErrRange},
		{"very many elements", same(100000, 0), 0, api.ErrRange},
		{"an element after MaxTime", []int{last + 1}, 0, api.ErrRange},
		{"an element before -MaxTime", []int{-last - 1}, 0, api.ErrRange},
		{"the greatest number", []int{huge}, 0, api.ErrRange},
		{"the smallest number", []int{least}, 0, api.ErrRange},
		{"a wrong element at the end", []int{1, 2, last + 1}, 0, api.ErrRange},
		{"a wrong element in the middle", []int{1, -last - 1, 2}, 0, api.ErrRange},
		{"a wrong largest element that would be removed", []int{1, 2, last + 1}, 1, api.ErrRange},
		{"a wrong smallest element that would be removed", []int{-last - 1, 1, 2}, 1, api.ErrRange},
		{"a wrong element in a list that is too short", []int{last + 1, 0}, 1, api.ErrRange},
		{"a wrong last element in a list that is too short", []int{0, -last - 1}, 1, api.ErrRange},
		{"a wrong element in a list far too short", []int{huge}, most, api.ErrRange},
		{"a k of which the double overflows to 0", []int{5}, least, api.ErrRange},
		{"a k of which the double overflows below 0", []int{5}, huge, api.ErrRange},
		{"a k of 2^62", []int{5}, 1 << 62, api.ErrRange},
		{"everything wrong", same(most+1, least), -1, api.ErrRange},
	} {
		if got := ask(c.l, c.k); got != failure(c.want) {
			t.Errorf("%s: the results are %v; want %v", c.name, got, failure(c.want))
		}
	}
}

// L1: Wrong accepts every number up to the limits.
func TestNoError(t *testing.T) {
	for _, c := range []struct {
		name string
		l    []int
		k    int
	}{
		{"one element", []int{0}, 0},
		{"2k + 1 elements", []int{1, 2, 3}, 1},
		{"-MaxTime and MaxTime", []int{-last, last}, 0},
		{"MaxOps elements, k = 0", same(most, last), 0},
		{"MaxOps elements, k = 199", same(most, -last), 199},
		{"MaxOps - 1 elements, k = 199", same(most-1, 1), 199},
	} {
		if got := Wrong(c.l, c.k); got != api.OK {
			t.Errorf("%s: Wrong = %d; want OK", c.name, got)
		}
	}
}

// L1: every list of up to three numbers around the limits, with every k around its limits.
func TestAllLimits(t *testing.T) {
	for _, k := range counts {
		check(t, nil, k)
		for _, a := range values {
			check(t, []int{a}, k)
			for _, b := range values {
				check(t, []int{a, b}, k)
				for _, c := range values {
					check(t, []int{a, b, c}, k)
				}
			}
		}
	}
}

// L1: every list of four or five small numbers on both sides of 0, in every order.
func TestAllSmallLists(t *testing.T) {
	for _, size := range []int{4, 5} {
		list := same(size, -3)
		for {
			for k := range 4 {
				check(t, list, k)
			}
			at := 0
			for at < size && list[at] == 3 {
				list[at] = -3
				at++
			}
			if at == size {
				break
			}
			list[at]++
		}
	}
}

// L1: every k around the half of the length, for lengths up to one more than MaxOps.
func TestAllLengths(t *testing.T) {
	r := rand.New(rand.NewSource(1))
	for size := range most + 2 {
		list := make([]int, size)
		for at := range list {
			list[at] = validValue(r)
		}
		for _, k := range []int{-1, 0, 1, (size - 2) / 2, (size - 1) / 2, size / 2, (size + 1) / 2, size, size + 1, most, most + 1} {
			check(t, list, k)
		}
	}
}

// L1: a list with one number around the limits, at any place.
func TestOneOddElement(t *testing.T) {
	for _, size := range []int{1, 2, 3, 7, most - 1, most} {
		for _, place := range []int{0, size / 2, size - 1} {
			for _, v := range values {
				list := same(size, 5)
				list[place] = v
				for _, k := range []int{0, 1, (size - 1) / 2, size/2 + 1} {
					check(t, list, k)
				}
			}
		}
	}
}

// L1: many lists of all lengths and orders of magnitude.
func TestManyLists(t *testing.T) {
	r := rand.New(rand.NewSource(2))
	for range 20000 {
		size := r.Intn(1<<r.Intn(8)) + 1
		list := make([]int, size)
		for at := range list {
			list[at] = validValue(r)
		}
		check(t, list, r.Intn((size+3)/2))
	}
}

// L1: the order of the elements does not matter.
func TestOrderDoesNotMatter(t *testing.T) {
	r := rand.New(rand.NewSource(3))
	for range 2000 {
		list := make([]int, r.Intn(20)+1)
		for at := range list {
			list[at] = validValue(r)
		}
		k := r.Intn((len(list) + 1) / 2)
		want := ask(list, k)
		r.Shuffle(len(list), func(a, b int) { list[a], list[b] = list[b], list[a] })
		if got := ask(list, k); got != want {
			t.Fatalf("the results for %v and %d are %v; in another order %v", list, k, got, want)
		}
	}
}

// The property of the whole: k arbitrary values never move an average out of the range of the correct ones.
func TestLiarsDoNotMoveAverages(t *testing.T) {
	r := rand.New(rand.NewSource(4))
	for range 20000 {
		k := r.Intn(6)
		correct := make([]int, k+1+r.Intn(10))
		for at := range correct {
			correct[at] = validValue(r)
		}
		list := slices.Clone(correct)
		for range k {
			list = append(list, validValue(r))
		}
		r.Shuffle(len(list), func(a, b int) { list[a], list[b] = list[b], list[a] })
		got, low, high := ask(list, k), slices.Min(correct), slices.Max(correct)
		if got.wrong != api.OK || got.mid < low || got.mid > high || got.mean < low || got.mean > high || got.spread > high-low {
			t.Fatalf("the results for %v and %d are %v; the correct values are %v", list, k, got, correct)
		}
	}
}

// AA1: calls in between, also wrong ones, change no result.
func TestNoStateIsKept(t *testing.T) {
	for _, v := range values {
		ask([]int{v, v, v, v}, 1)
		ask([]int{5}, v)
		check(t, []int{9, 1, 100, 4}, 1)
	}
}

// AA2: the list and its spare capacity stay as they are, and what lies behind the length is not read.
func TestArgumentsAreLeftAlone(t *testing.T) {
	all := []int{9, 1, 100, 4, -7, 50, 2, last + 1}
	list := slices.Clone(all)
	for size := range len(all) {
		for k := range 5 {
			check(t, list[:size], k)
			if !slices.Equal(list, all) {
				t.Fatalf("with %d elements and k = %d the argument has become %v", size, k, list)
			}
		}
	}
	if got := Wrong(list, 1); got != api.ErrRange {
		t.Errorf("Wrong of all of it = %d; want ErrRange", got)
	}
}

// AA3: nil and an empty slice are the same argument.
func TestNilAndEmpty(t *testing.T) {
	for _, k := range counts {
		if none, empty := ask(nil, k), ask([]int{}, k); none != empty {
			t.Errorf("with k = %d the results are %v for nil and %v for an empty list", k, none, empty)
		}
	}
}
