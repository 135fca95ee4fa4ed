package vote

import (
	"math"
	"math/rand"
	"slices"
	"testing"

	"slotwright/api"
)

const (
	huge  = math.MaxInt
	least = math.MinInt
	last  = api.MaxTime
	most  = api.MaxOps
)

// values are the numbers around the limits of elements and of far, and such as only a wrong comparison, an overflow or a narrower type takes for valid or for equal.
var values = []int{least, least + 1, -1 << 62, -last - 1, -last, -last + 1, -1 << 32, -2, -1, 0, 1, 2, 3, 1 << 32, last - 1, last, last + 1, 1 << 62, huge - 1, huge}

// answer is what a function returns.
type answer struct {
	val int
	err api.Errno
}

// as joins the two results of a function.
func as(val int, err api.Errno) answer { return answer{val, err} }

// right is the answer of a value, no is that of an error.
func right(val int) answer { return answer{val, api.OK} }

func no(err api.Errno) answer { return answer{0, err} }

func good(val int) api.Copy { return api.Copy{Good: true, Val: val} }

func bad(val int) api.Copy { return api.Copy{Val: val} }

// same returns n times the number v.
func same(n, v int) []int { return slices.Repeat([]int{v}, n) }

// steps returns n numbers from first on, each one greater than the one before it.
func steps(n, first int) []int {
	list := make([]int, n)
	for at := range list {
		list[at] = first + at
	}
	return list
}

// joined returns the lists one after the other.
func joined(lists ...[]int) []int { return slices.Concat(lists...) }

// turned returns the list the other way round.
func turned(l []int) []int {
	list := slices.Clone(l)
	slices.Reverse(list)
	return list
}

// apart returns the distance of two numbers between -MaxTime and MaxTime.
func apart(a, b int) int { return max(a-b, b-a) }

// expectedMiddle tells what Middle must return: the element that has as many before as after it, whatever the order of equal ones.
func expectedMiddle(l []int) answer {
	if len(l) > 400 {
		return no(api.ErrRange)
	}
	if len(l)%2 == 0 {
		return no(api.ErrForm)
	}
	for _, v := range l {
		below, above := 0, 0
		for _, other := range l {
			if other < v {
				below++
			}
			if other > v {
				above++
			}
		}
		if 2*below < len(l) && 2*above < len(l) {
			return right(v)
		}
	}
	panic("a list without a median")
}

// expectedMost tells what Most must return, by the number of times that each element occurs.
func expectedMost(l []int) answer {
	if len(l) > 400 {
		return no(api.ErrRange)
	}
	times := map[int]int{}
	for _, v := range l {
		times[v]++
	}
	for v, n := range times {
		if 2*n > len(l) {
			return right(v)
		}
	}
	return no(api.ErrNone)
}

// expectedNear tells what Near must return, by the distances of all pairs.
func expectedNear(l []int, far int) answer {
	outside := func(v int) bool { return v < -1<<40 || v > 1<<40 }
	if len(l) > 400 || far < 0 || far > 1<<40 || slices.ContainsFunc(l, outside) {
		return no(api.ErrRange)
	}
	found := []int{}
	for _, v := range l {
		n := 0
		for _, other := range l {
			if apart(v, other) <= far {
				n++
			}
		}
		if 2*n > len(l) {
			found = append(found, v)
		}
	}
	if len(found) == 0 {
		return no(api.ErrNone)
	}
	return right(slices.Min(found))
}

// check demands of all functions of lists what the reference finds, and that the list stays as it was.
func check(t *testing.T, l []int, far int) {
	t.Helper()
	before := slices.Clone(l)
	if got, want := as(Middle(l)), expectedMiddle(l); got != want {
		t.Fatalf("Middle(%v) = %v; want %v", before, got, want)
	}
	if got, want := as(Most(l)), expectedMost(l); got != want {
		t.Fatalf("Most(%v) = %v; want %v", before, got, want)
	}
	if got, want := as(Near(l, far)), expectedNear(l, far); got != want {
		t.Fatalf("Near(%v, %d) = %v; want %v", before, far, got, want)
	}
	if !slices.Equal(l, before) {
		t.Fatalf("with a far of %d the list %v has become %v", far, before, l)
	}
}

// validValue returns an element of any order of magnitude, on either side of 0.
func validValue(r *rand.Rand) int {
	v := r.Intn(1<<r.Intn(41) + 1)
	switch r.Intn(6) {
	case 0:
		v = last - r.Intn(3)
	case 1:
		v = r.Intn(4)
	}
	if r.Intn(2) == 0 {
		return -v
	}
	return v
}

// validList returns elements of which many are equal or near each other.
func validList(r *rand.Rand, size int) []int {
	around, width, wild := validValue(r)/2, r.Intn(5)+1, r.Intn(4)
	list := make([]int, size)
	for at := range list {
		list[at] = around + r.Intn(width)
		if r.Intn(4) < wild {
			list[at] = validValue(r)
		}
	}
	return list
}

// O1: pairs by hand.
func TestPairs(t *testing.T) {
	for _, c := range []struct {
		name      string
		a, b      api.Copy
		two, same answer
	}{
		{"both good and equal", good(7), good(7), right(7), right(7)},
		{"both good and different", good(7), good(8), right(7), no(api.ErrSum)},
		{"both good and different, the greater one first", good(8), good(7), right(8), no(api.ErrSum)},
		{"both good, one of them 0", good(0), good(5), right(0), no(api.ErrSum)},
		{"both good, the other one 0", good(5), good(0), right(5), no(api.ErrSum)},
		{"both good, of different sign", good(5), good(-5), right(5), no(api.ErrSum)},
		{"both good and 0", good(0), good(0), right(0), right(0)},
		{"both good and -1", good(-1), good(-1), right(-1), right(-1)},
		{"only the first good, equal values", good(7), bad(7), right(7), right(7)},
		{"only the first good, different values", good(7), bad(8), right(7), right(7)},
		{"only the first good, of 0", good(0), bad(8), right(0), right(0)},
		{"only the second good, equal values", bad(7), good(7), right(7), right(7)},
		{"only the second good, different values", bad(7), good(8), right(8), right(8)},
		{"only the second good, of 0", bad(7), good(0), right(0), right(0)},
		{"neither good", bad(0), bad(0), no(api.ErrNone), no(api.ErrNone)},
		{"neither good, equal values", bad(7), bad(7), no(api.ErrNone), no(api.ErrNone)},
		{"neither good, different values", bad(7), bad(8), no(api.ErrNone), no(api.ErrNone)},
		{"the greatest number twice", good(huge), good(huge), right(huge), right(huge)},
		{"the smallest number twice", good(least), good(least), right(least), right(least)},
		{"the smallest and the greatest number", good(least), good(huge), right(least), no(api.ErrSum)},
		{"the greatest and the smallest number", good(huge), good(least), right(huge), no(api.ErrSum)},
		{"equal in 32 bits", good(1), good(1<<32 + 1), right(1), no(api.ErrSum)},
		{"only the first good, of the smallest number", good(least), bad(huge), right(least), right(least)},
		{"only the second good, of the greatest number", bad(least), good(huge), right(huge), right(huge)},
	} {
		if got := as(Two(c.a, c.b)); got != c.two {
			t.Errorf("%s: Two = %v; want %v", c.name, got, c.two)
		}
		if got := as(Same(c.a, c.b)); got != c.same {
			t.Errorf("%s: Same = %v; want %v", c.name, got, c.same)
		}
	}
}

// O1: all pairs of numbers around the limits: no number is out of range.
func TestAllPairs(t *testing.T) {
	for _, a := range values {
		for _, b := range values {
			want := right(a)
			if a != b {
				want = no(api.ErrSum)
			}
			for _, c := range []struct {
				a, b      api.Copy
				two, same answer
			}{
				{good(a), good(b), right(a), want},
				{good(a), bad(b), right(a), right(a)},
				{bad(a), good(b), right(b), right(b)},
				{bad(a), bad(b), no(api.ErrNone), no(api.ErrNone)},
			} {
				if got := as(Two(c.a, c.b)); got != c.two {
					t.Errorf("Two(%v, %v) = %v; want %v", c.a, c.b, got, c.two)
				}
				if got := as(Same(c.a, c.b)); got != c.same {
					t.Errorf("Same(%v, %v) = %v; want %v", c.a, c.b, got, c.same)
				}
			}
		}
	}
}

// O1: medians by hand.
func TestMiddle(t *testing.T) {
	for _, c := range []struct {
		name string
		l    []int
		want answer
	}{
		{"the example", []int{9, 1, 4}, right(4)},
		{"the example, sorted", []int{1, 4, 9}, right(4)},
		{"the example, the other way round", []int{9, 4, 1}, right(4)},
		{"the median first", []int{4, 9, 1}, right(4)},
		{"no element", nil, no(api.ErrForm)},
		{"one element", []int{7}, right(7)},
		{"one element of 0", []int{0}, right(0)},
		{"one element of -1", []int{-1}, right(-1)},
		{"two elements", []int{1, 2}, no(api.ErrForm)},
		{"two equal elements", []int{5, 5}, no(api.ErrForm)},
		{"four elements", []int{1, 2, 2, 3}, no(api.ErrForm)},
		{"five elements", []int{50, -3, 8, 0, 7}, right(7)},
		{"equal elements", []int{4, 4, 4}, right(4)},
		{"equal small ones", []int{1, 9, 1}, right(1)},
		{"equal large ones", []int{9, 1, 9}, right(9)},
		{"equal ones count each", []int{1, 1, 1, 2, 3}, right(1)},
		{"below 0", []int{-1, -9, -4}, right(-4)},
		{"not the mean", []int{0, 1, 100}, right(1)},
		{"the limits of int", []int{huge, least, 3}, right(3)},
		{"the greatest number twice", []int{huge, least, huge}, right(huge)},
		{"the smallest number twice", []int{least, huge, least}, right(least)},
		{"numbers that an int can't subtract", []int{huge, huge - 1, least}, right(huge - 1)},
		{"numbers in another order in 32 bits", []int{1 << 32, 5, 7}, right(7)},
		{"numbers after MaxTime", []int{last + 1, last + 3, last + 2}, right(last + 2)},
		{"one of the greatest number", []int{huge}, right(huge)},
		{"one of the smallest number", []int{least}, right(least)},
		{"MaxOps - 1 elements", steps(most-1, 1), right(200)},
		{"MaxOps - 1 elements, the other way round", turned(steps(most-1, 1)), right(200)},
		{"MaxOps - 1 elements, one less than half of them small", joined(same(199, 1), same(200, 2)), right(2)},
		{"MaxOps - 1 elements, one more than half of them small", joined(same(199, 2), same(200, 1)), right(1)},
		{"MaxOps elements", steps(most, 1), no(api.ErrForm)},
		{"MaxOps equal elements", same(most, 3), no(api.ErrForm)},
		{"MaxOps + 1 elements", steps(most+1, 1), no(api.ErrRange)},
		{"MaxOps + 2 elements, an even number", same(most+2, 1), no(api.ErrRange)},
		{"very many elements", same(100000, 0), no(api.ErrRange)},
	} {
		if got := as(Middle(c.l)); got != c.want {
			t.Errorf("%s: Middle = %v; want %v", c.name, got, c.want)
		}
	}
}

// O2: majorities by hand.
func TestMost(t *testing.T) {
	for _, c := range []struct {
		name string
		l    []int
		want answer
	}{
		{"no element", nil, no(api.ErrNone)},
		{"one element", []int{7}, right(7)},
		{"one element of 0", []int{0}, right(0)},
		{"one element of -1", []int{-1}, right(-1)},
		{"two equal elements", []int{5, 5}, right(5)},
		{"two different elements", []int{5, 6}, no(api.ErrNone)},
		{"two of three, the first ones", []int{3, 3, 1}, right(3)},
		{"two of three, the last ones", []int{1, 3, 3}, right(3)},
		{"two of three that lie apart", []int{3, 1, 3}, right(3)},
		{"two small ones of three that lie apart", []int{1, 3, 1}, right(1)},
		{"three different ones", []int{1, 2, 3}, no(api.ErrNone)},
		{"all equal", same(9, -4), right(-4)},
		{"all 0", same(4, 0), right(0)},
		{"exactly half", []int{1, 1, 2, 3}, no(api.ErrNone)},
		{"exactly half, in the middle", []int{1, 2, 2, 3}, no(api.ErrNone)},
		{"exactly half, the largest", []int{1, 2, 3, 3}, no(api.ErrNone)},
		{"exactly half that lie apart", []int{1, 2, 1, 3}, no(api.ErrNone)},
		{"two halves", []int{1, 1, 2, 2}, no(api.ErrNone)},
		{"two halves in turn", []int{1, 2, 1, 2}, no(api.ErrNone)},
		{"one more than half", []int{1, 1, 2, 1}, right(1)},
		{"one more than half of six", []int{8, 1, 8, 2, 8, 8}, right(8)},
		{"just over half of five", []int{8, 1, 8, 2, 8}, right(8)},
		{"just under half of five", []int{8, 1, 8, 2, 3}, no(api.ErrNone)},
		{"just under half of five, in the middle", []int{1, 2, 8, 8, 9}, no(api.ErrNone)},
		{"more than any other, but not half", []int{1, 1, 1, 2, 2, 3, 3}, no(api.ErrNone)},
		{"near, but not equal", []int{1, 2, 1, 2, 3}, no(api.ErrNone)},
		{"of different sign", []int{5, -5, 5, -5}, no(api.ErrNone)},
		{"the greatest number", []int{huge, least, huge}, right(huge)},
		{"the smallest number", []int{least, huge, least}, right(least)},
		{"very large numbers without a majority", []int{huge, huge - 1, least}, no(api.ErrNone)},
		{"one of the greatest number", []int{huge}, right(huge)},
		{"one of the smallest number", []int{least}, right(least)},
		{"equal in 32 bits", []int{1, 1<<32 + 1, 1<<33 + 1}, no(api.ErrNone)},
		{"numbers after MaxTime", []int{last + 1, last + 1, 0}, right(last + 1)},
		{"MaxOps equal elements", same(most, 6), right(6)},
		{"MaxOps elements, half of them equal", joined(same(200, 6), steps(200, 10)), no(api.ErrNone)},
		{"MaxOps elements, two halves", joined(same(200, 6), same(200, 5)), no(api.ErrNone)},
		{"MaxOps elements, one more than half equal", joined(same(100, 6), steps(199, 10), same(101, 6)), right(6)},
		{"MaxOps - 1 elements, just over half equal", joined(steps(199, 10), same(200, 6)), right(6)},
		{"MaxOps - 1 elements, just under half equal", joined(steps(200, 10), same(199, 6)), no(api.ErrNone)},
		{"MaxOps different elements", steps(most, 1), no(api.ErrNone)},
		{"MaxOps + 1 equal elements", same(most+1, 6), no(api.ErrRange)},
		{"MaxOps + 1 different elements", steps(most+1, 6), no(api.ErrRange)},
		{"very many elements", same(100000, 0), no(api.ErrRange)},
	} {
		if got := as(Most(c.l)); got != c.want {
			t.Errorf("%s: Most = %v; want %v", c.name, got, c.want)
		}
	}
}

// O2: near elements by hand.
func TestNear(t *testing.T) {
	for _, c := range []struct {
		name string
		l    []int
		far  int
		want answer
	}{
		{"no element", nil, 0, no(api.ErrNone)},
		{"no element, far of MaxTime", nil, last, no(api.ErrNone)},
		{"one element", []int{7}, 0, right(7)},
		{"one element of 0", []int{0}, 0, right(0)},
		{"one element of -MaxTime", []int{-last}, 0, right(-last)},
		{"one element of MaxTime", []int{last}, last, right(last)},
		{"an outlier", []int{1, 2, 10}, 1, right(1)},
		{"an outlier below", []int{-10, 2, 1}, 1, right(1)},
		{"distance of exactly far", []int{3, 8}, 5, right(3)},
		{"distance of one more than far", []int{3, 9}, 5, no(api.ErrNone)},
		{"distance of exactly far, the greater one first", []int{8, 3}, 5, right(3)},
		{"distance of one more than far, the greater one first", []int{9, 3}, 5, no(api.ErrNone)},
		{"distance of exactly far around 0", []int{-2, 3}, 5, right(-2)},
		{"distance of one more than far around 0", []int{-3, 3}, 5, no(api.ErrNone)},
		{"exactly far below it and above it", []int{0, 5, 10}, 5, right(0)},
		{"only the one in between", []int{0, 5, 10, -9, 19}, 5, right(5)},
		{"only the one in between, the outer ones one further", []int{0, 6, 12, -9, 19}, 5, no(api.ErrNone)},
		{"far below it only", []int{10, 5, 6, 30, 40}, 5, right(5)},
		{"the smallest element is not near enough to most", []int{0, 4, 5, 6, 8}, 3, right(4)},
		{"several; the smallest of them at the end", []int{9, 8, 10, 50, 7}, 3, right(7)},
		{"several; the smallest of them first", []int{7, 8, 10, 50, 9}, 3, right(7)},
		{"several; the smallest of them in the middle", []int{8, 10, 7, 50, 9}, 3, right(7)},
		{"the smallest of them at the end, a smaller one at the start", []int{-90, 9, 8, 10, 7}, 3, right(7)},
		{"exactly half near", []int{1, 2, 10, 20}, 1, no(api.ErrNone)},
		{"two near halves", []int{1, 2, 10, 11}, 1, no(api.ErrNone)},
		{"two near halves, far across them", []int{1, 2, 10, 11}, 8, right(2)},
		{"one more than half near", []int{1, 2, 20, 3}, 1, right(2)},
		{"one more than half near from the smallest on", []int{1, 2, 20, 3}, 2, right(1)},
		{"far of 0: a majority", []int{3, 1, 3}, 0, right(3)},
		{"far of 0: no majority", []int{3, 1, 2}, 0, no(api.ErrNone)},
		{"far of 0: exactly half equal", []int{3, 1, 3, 2}, 0, no(api.ErrNone)},
		{"far of 0: one more than half equal, apart", []int{3, 1, 3, 3}, 0, right(3)},
		{"far of 0: neighbours do not count", []int{3, 4, 5}, 0, no(api.ErrNone)},
		{"all equal", same(5, -8), 0, right(-8)},
		{"equal elements count each", []int{1, 5, 5, 5, 9}, 4, right(1)},
		{"an element that is a majority with its equals", []int{100, 5, 5, 5, 0}, 4, right(5)},
		{"below 0", []int{-1, -2, -10}, 1, right(-2)},
		{"far of MaxTime", []int{0, last}, last, right(0)},
		{"far of MaxTime below 0", []int{0, -last}, last, right(-last)},
		{"far of MaxTime, a distance of one more", []int{1, -last}, last, no(api.ErrNone)},
		{"far of MaxTime, both limits", []int{-last, last}, last, no(api.ErrNone)},
		{"far of MaxTime, both limits and 0", []int{last, 0, -last}, last, right(-last)},
		{"far of MaxTime, more of the other limit", []int{last, last, 0, -last, -last + 1, last}, last, right(0)},
		{"far of MaxTime - 1, both limits and 0", []int{last, 0, -last}, last - 1, no(api.ErrNone)},
		{"both limits, far of 0", []int{-last, last, last}, 0, right(last)},
		{"far of MaxTime + 1", []int{7}, last + 1, no(api.ErrRange)},
		{"far of -1", []int{7}, -1, no(api.ErrRange)},
		{"far of -1, equal elements", []int{7, 7, 7}, -1, no(api.ErrRange)},
		{"the greatest far", []int{7}, huge, no(api.ErrRange)},
		{"the smallest far", []int{7}, least, no(api.ErrRange)},
		{"a far that is right in 32 bits", []int{7}, 1<<41 + 1, no(api.ErrRange)},
		{"no element and far of -1", nil, -1, no(api.ErrRange)},
		{"no element and far of MaxTime + 1", nil, last + 1, no(api.ErrRange)},
		{"an element of MaxTime + 1", []int{last + 1}, 0, no(api.ErrRange)},
		{"an element of -MaxTime - 1", []int{-last - 1}, 0, no(api.ErrRange)},
		{"the greatest element", []int{huge}, last, no(api.ErrRange)},
		{"the smallest element", []int{least}, last, no(api.ErrRange)},
		{"a wrong element after a majority", []int{3, 3, last + 1}, 0, no(api.ErrRange)},
		{"a wrong element before a majority", []int{-last - 1, 3, 3}, 0, no(api.ErrRange)},
		{"a wrong element in the middle", []int{3, last + 1, 3}, 0, no(api.ErrRange)},
		{"a wrong element without a majority", []int{3, 90, last + 1}, 0, no(api.ErrRange)},
		{"an element of the limit beside a majority", []int{3, 3, last}, 0, right(3)},
		{"MaxOps equal elements", same(most, 6), 0, right(6)},
		{"MaxOps elements, just near enough", steps(most, 1), 200, right(1)},
		{"MaxOps elements, not near enough at the edge", steps(most, 1), 199, right(2)},
		{"MaxOps elements, near enough in the middle", steps(most, 1), 100, right(101)},
		{"MaxOps elements, nowhere near enough", steps(most, 1), 99, no(api.ErrNone)},
		{"MaxOps elements, the other way round", turned(steps(most, 1)), 100, right(101)},
		{"MaxOps elements, half of them near", joined(same(200, 6), steps(200, 10)), 3, no(api.ErrNone)},
		{"MaxOps elements, one more than half near", joined(same(200, 6), steps(200, 10)), 4, right(6)},
		{"MaxOps - 1 elements, just over half near", steps(most-1, 1), 199, right(1)},
		{"MaxOps - 1 elements, near enough in the middle", steps(most-1, 1), 100, right(100)},
		{"MaxOps + 1 elements", same(most+1, 6), 0, no(api.ErrRange)},
		{"MaxOps + 1 elements, none near", steps(most+1, 6), 0, no(api.ErrRange)},
		{"very many elements", same(100000, 0), 0, no(api.ErrRange)},
		{"everything wrong", same(most+1, least), -1, no(api.ErrRange)},
	} {
		if got := as(Near(c.l, c.far)); got != c.want {
			t.Errorf("%s: Near = %v; want %v", c.name, got, c.want)
		}
	}
}

// O1 and O2: every list of up to three numbers around the limits, with every far around its limits.
func TestAllLimits(t *testing.T) {
	for _, far := range values {
		check(t, nil, far)
		for _, a := range values {
			check(t, []int{a}, far)
			for _, b := range values {
				check(t, []int{a, b}, far)
				for _, c := range values {
					check(t, []int{a, b, c}, far)
				}
			}
		}
	}
}

// O1 and O2: every list of up to six small numbers on both sides of 0, in every order.
func TestAllSmallLists(t *testing.T) {
	for size := 1; size <= 6; size++ {
		list := same(size, -2)
		for {
			for far := range 5 {
				check(t, list, far)
			}
			at := 0
			for at < size && list[at] == 2 {
				list[at] = -2
				at++
			}
			if at == size {
				break
			}
			list[at]++
		}
	}
}

// O1 and O2: every length up to one more than MaxOps, with equal elements around the half of it.
func TestAllLengths(t *testing.T) {
	r := rand.New(rand.NewSource(1))
	for size := range most + 2 {
		for equal := max(0, size/2-1); equal <= min(size, size/2+2); equal++ {
			list := joined(same(equal, 7), steps(size-equal, r.Intn(12)))
			r.Shuffle(size, func(a, b int) { list[a], list[b] = list[b], list[a] })
			check(t, list, r.Intn(4))
		}
	}
}

// O1 and O2: a list with one number around the limits, at any place.
func TestOneOddElement(t *testing.T) {
	for _, size := range []int{1, 2, 3, 4, 7, most - 1, most, most + 1} {
		for _, place := range []int{0, size / 2, size - 1} {
			for _, v := range values {
				list := same(size, 5)
				list[place] = v
				for _, far := range []int{-1, 0, 1, 1 << 33, last, last + 1} {
					check(t, list, far)
				}
			}
		}
	}
}

// O1 and O2: many lists of all lengths and orders of magnitude; far is often the distance of two elements, or one less.
func TestManyLists(t *testing.T) {
	r := rand.New(rand.NewSource(2))
	for range 20000 {
		size := r.Intn(1<<r.Intn(8)) + 1
		list := validList(r, size)
		far := r.Intn(5)
		if r.Intn(2) == 0 {
			far = apart(list[r.Intn(size)], list[r.Intn(size)]) - r.Intn(2)
		}
		check(t, list, far)
	}
}

// O1 and O2: the order of the elements does not matter.
func TestOrderDoesNotMatter(t *testing.T) {
	r := rand.New(rand.NewSource(3))
	for range 2000 {
		list := validList(r, r.Intn(20)+1)
		far := r.Intn(5)
		middle, majority, near := as(Middle(list)), as(Most(list)), as(Near(list, far))
		r.Shuffle(len(list), func(a, b int) { list[a], list[b] = list[b], list[a] })
		if got := as(Middle(list)); got != middle {
			t.Fatalf("Middle(%v) = %v; in another order %v", list, got, middle)
		}
		if got := as(Most(list)); got != majority {
			t.Fatalf("Most(%v) = %v; in another order %v", list, got, majority)
		}
		if got := as(Near(list, far)); got != near {
			t.Fatalf("Near(%v, %d) = %v; in another order %v", list, far, got, near)
		}
	}
}

// The property of the whole: one of three faulty replicas is masked.
func TestOneFaultyReplicaIsMasked(t *testing.T) {
	for _, v := range values {
		for _, fault := range values {
			for place := range 3 {
				list := same(3, v)
				list[place] = fault
				if got := as(Middle(list)); got != right(v) {
					t.Errorf("Middle(%v) = %v; want %d", list, got, v)
				}
				if got := as(Most(list)); got != right(v) {
					t.Errorf("Most(%v) = %v; want %d", list, got, v)
				}
				if expectedNear(list, 0) == no(api.ErrRange) {
					continue
				}
				if got := as(Near(list, 0)); got != right(v) {
					t.Errorf("Near(%v, 0) = %v; want %d", list, got, v)
				}
			}
		}
	}
}

// AA1: calls in between, also wrong ones, change no result.
func TestNoStateIsKept(t *testing.T) {
	for _, v := range values {
		Two(good(v), bad(v))
		Same(good(v), good(1))
		Middle([]int{v, v, v, v, v})
		Most([]int{v, v, v})
		Near([]int{v}, v)
		check(t, []int{9, 1, 4}, 3)
		check(t, []int{3, 9, 3}, 0)
	}
}

// AA2: the list and its spare capacity stay as they are, and what lies behind the length is not read.
func TestArgumentsAreLeftAlone(t *testing.T) {
	all := []int{9, 1, 9, 4, 9, -7, 9, 9, last + 1}
	list := slices.Clone(all)
	for size := range len(all) {
		for far := range 9 {
			check(t, list[:size], far)
			if !slices.Equal(list, all) {
				t.Fatalf("with %d elements and a far of %d the argument has become %v", size, far, list)
			}
		}
	}
	if got := as(Near(list, 0)); got != no(api.ErrRange) {
		t.Errorf("Near of all of it = %v; want ErrRange", got)
	}
}

// AA3: nil and an empty slice are the same argument.
func TestNilAndEmpty(t *testing.T) {
	for _, far := range values {
		check(t, nil, far)
		check(t, []int{}, far)
	}
}
