package drift

import (
	"math"
	"math/big"
	"math/rand"
	"testing"

	"slotwright/api"
)

const (
	huge  = math.MaxInt
	least = math.MinInt
	last  = api.MaxTime
)

// rates and times are the numbers around the limits of their ranges, and such as only a wrong comparison or a narrower type takes for valid.
var (
	rates = []int{least, least + 1, -1 << 32, -1000000, -1001, -1000, -999, -1, 0, 1, 999, 1000, 1001, 1000000, 1 << 32, huge - 1, huge}
	times = []int{least, least + 1, -last, -1 << 32, -1, 0, 1, 2, 999, 1000, 1001, 999999, 1000000, 1000001, 1<<32 - 1, 1 << 32, last - 1, last, last + 1, 2 * last, huge - 1, huge}
)

// right tells what Right must return.
func right(c api.Clock) bool {
	return !(c.Rate < -1000) && !(c.Rate > 1000) && !(c.Off < 0) && !(c.Off > 1<<40)
}

// wrong tells the error of a clock and a number that is a time or a value shown.
func wrong(c api.Clock, v int) api.Errno {
	switch {
	case !right(c):
		return api.ErrForm
	case v < 0, v > 1<<40:
		return api.ErrRange
	}
	return api.OK
}

// reads tells what a valid clock shows at any time from 0 on, with numbers that can't overflow.
func reads(c api.Clock, t int) int {
	n := new(big.Int).Mul(big.NewInt(int64(t)), big.NewInt(int64(1000000+c.Rate)))
	n.Div(n, big.NewInt(1000000))
	return int(n.Int64()) + c.Off
}

// first finds the first time at which a valid clock shows at least shown, by halving an interval.
func first(c api.Clock, shown int) int {
	early, late := 0, 2*last
	for early < late {
		middle := (early + late) / 2
		if reads(c, middle) >= shown {
			late = middle
		} else {
			early = middle + 1
		}
	}
	return early
}

// checkShows demands of Shows what the reference finds.
func checkShows(t *testing.T, c api.Clock, at int) {
	t.Helper()
	want, problem := 0, wrong(c, at)
	if problem == api.OK {
		want = reads(c, at)
	}
	if got, err := Shows(c, at); got != want || err != problem {
		t.Fatalf("Shows(%v, %d) = %d, %d; want %d, %d", c, at, got, err, want, problem)
	}
}

// checkWhen demands of When what the reference finds.
func checkWhen(t *testing.T, c api.Clock, shown int) {
	t.Helper()
	want, problem := 0, wrong(c, shown)
	if problem == api.OK {
		want = first(c, shown)
	}
	if got, err := When(c, shown); got != want || err != problem {
		t.Fatalf("When(%v, %d) = %d, %d; want %d, %d", c, shown, got, err, want, problem)
	}
}

// checkApart demands of Apart what the reference finds.
func checkApart(t *testing.T, a, b api.Clock, at int) {
	t.Helper()
	want, problem := 0, wrong(a, at)
	if problem == api.OK {
		problem = wrong(b, at)
	}
	if problem == api.OK {
		want = reads(a, at) - reads(b, at)
		if want < 0 {
			want = -want
		}
	}
	if got, err := Apart(a, b, at); got != want || err != problem {
		t.Fatalf("Apart(%v, %v, %d) = %d, %d; want %d, %d", a, b, at, got, err, want, problem)
	}
}

// validClock returns a clock with a rate and an offset that are often at the ends of their ranges.
func validClock(r *rand.Rand) api.Clock {
	return api.Clock{Rate: []int{-1000, 1000, 0, r.Intn(2001) - 1000, r.Intn(11) - 5}[r.Intn(5)], Off: validTime(r)}
}

// validTime returns a time of any order of magnitude.
func validTime(r *rand.Rand) int {
	switch r.Intn(4) {
	case 0:
		return r.Intn(10)
	case 1:
		return last - r.Intn(10)
	}
	return r.Intn(1<<r.Intn(41) + 1)
}

// K1: Right by hand, at both ends of both ranges.
func TestRight(t *testing.T) {
	for _, c := range []struct {
		rate, off int
		want      bool
	}{
		{0, 0, true},
		{-1001, 0, false},
		{-1000, 0, true},
		{-1, 0, true},
		{1, 0, true},
		{1000, 0, true},
		{1001, 0, false},
		{0, -1, false},
		{0, 1, true},
		{0, last, true},
		{0, last + 1, false},
		{-1000, last, true},
		{1000, last, true},
		{1001, last + 1, false},
		{-1001, -1, false},
		{huge, 0, false},
		{least, 0, false},
		{0, huge, false},
		{0, least, false},
		{1 << 32, 0, false},
		{0, -1 << 32, false},
		{huge, huge, false},
		{least, least, false},
	} {
		if got := Right(api.Clock{Rate: c.rate, Off: c.off}); got != c.want {
			t.Errorf("Right of rate %d and offset %d = %v; want %v", c.rate, c.off, got, c.want)
		}
	}
}

// K1: Right of every rate around its range, and of all combinations of numbers near the limits.
func TestRightOfAllRates(t *testing.T) {
	for rate := -3000; rate <= 3000; rate++ {
		if c := (api.Clock{Rate: rate}); Right(c) != right(c) {
			t.Errorf("Right(%v) = %v", c, Right(c))
		}
	}
	for _, rate := range rates {
		for _, off := range times {
			if c := (api.Clock{Rate: rate, Off: off}); Right(c) != right(c) {
				t.Errorf("Right(%v) = %v", c, Right(c))
			}
		}
	}
}

// K1: Shows by hand.
func TestShows(t *testing.T) {
	for _, c := range []struct {
		name          string
		rate, off, at int
		want          int
	}{
		{"the example", 100, 0, 20000, 20002},
		{"time 0", 0, 0, 0, 0},
		{"time 0 with an offset", 1000, 7, 0, 7},
		{"time 0 with the largest offset", -1000, last, 0, last},
		{"an exact clock", 0, 5, 12345, 12350},
		{"just before a fast clock skips a value", 1000, 0, 999, 999},
		{"a fast clock skips 1000", 1000, 0, 1000, 1001},
		{"a fast clock after the offset", 1000, 3, 1000, 1004},
		{"the slowest of the fast clocks, before", 1, 0, 999999, 999999},
		{"the slowest of the fast clocks, after", 1, 0, 1000000, 1000001},
		{"a slow clock at time 1", -1, 0, 1, 0},
		{"a slow clock at time 2", -1, 0, 2, 1},
		{"a slow clock at a full second", -1, 0, 1000000, 999999},
		{"a slow clock shows 999999 again", -1, 0, 1000001, 999999},
		{"a slow clock at time 1000", -1000, 0, 1000, 999},
		{"a slow clock shows 999 again", -1000, 0, 1001, 999},
		{"a slow clock goes on", -1000, 0, 1002, 1000},
		{"the last time, exact", 0, 0, last, 1099511627776},
		{"the last time, fastest", 1000, 0, last, 1100611139403},
		{"the last time, slowest", -1000, 0, last, 1098412116148},
		{"everything at its largest", 1000, last, last, 2200122767179},
		{"the slowest, with the largest offset", -1000, last, last, 2197923743924},
	} {
		if got, err := Shows(api.Clock{Rate: c.rate, Off: c.off}, c.at); got != c.want || err != api.OK {
			t.Errorf("%s: Shows = %d, %d; want %d, OK", c.name, got, err, c.want)
		}
	}
}

// K1: When by hand.
func TestWhen(t *testing.T) {
	for _, c := range []struct {
		name             string
		rate, off, shown int
		want             int
	}{
		{"shown 0", 0, 0, 0, 0},
		{"shown 0 before the offset", 0, 5, 0, 0},
		{"the offset minus 1", 0, 5, 4, 0},
		{"the offset", 0, 5, 5, 0},
		{"the offset plus 1", 0, 5, 6, 1},
		{"the offset minus 1 of a fast clock", 1000, 5, 4, 0},
		{"the offset of a fast clock", 1000, 5, 5, 0},
		{"the offset plus 1 of a fast clock", 1000, 5, 6, 1},
		{"the offset minus 1 of a slow clock", -1000, 5, 4, 0},
		{"the offset of a slow clock", -1000, 5, 5, 0},
		{"the offset plus 1 of a slow clock", -1000, 5, 6, 2},
		{"the offset plus 1 of the slowest fast clock", 1, 5, 6, 1},
		{"the offset plus 1 of the fastest slow clock", -1, 5, 6, 2},
		{"the example, the other way round", 100, 0, 20002, 20000},
		{"the value before the skipped one", 1000, 0, 999, 999},
		{"a value that a fast clock skips", 1000, 0, 1000, 1000},
		{"the value after the skipped one", 1000, 0, 1001, 1000},
		{"the one after that", 1000, 0, 1002, 1001},
		{"a skipped value behind an offset", 1000, 30, 1030, 1000},
		{"a value that the slowest fast clock skips", 1, 0, 1000000, 1000000},
		{"the value before one shown twice", -1000, 0, 998, 999},
		{"a value that a slow clock shows twice", -1000, 0, 999, 1000},
		{"the value after one shown twice", -1000, 0, 1000, 1002},
		{"a value that the fastest slow clock shows twice", -1, 0, 999999, 1000000},
		{"the value after that", -1, 0, 1000000, 1000002},
		{"MaxTime, exact", 0, 0, last, 1099511627776},
		{"MaxTime, fastest", 1000, 0, last, 1098413214562},
		{"MaxTime, slowest: the time is after MaxTime", -1000, 0, last, 1100612240017},
		{"MaxTime, a little slow: the time is after MaxTime", -1, 0, last, 1099512727289},
		{"MaxTime, a little fast", 1, 0, last, 1099510528266},
		{"MaxTime with MaxTime as the offset", -1000, last, last, 0},
		{"MaxTime with one less as the offset", -1000, last - 1, last, 2},
		{"0 with MaxTime as the offset", 1000, last, 0, 0},
	} {
		if got, err := When(api.Clock{Rate: c.rate, Off: c.off}, c.shown); got != c.want || err != api.OK {
			t.Errorf("%s: When = %d, %d; want %d, OK", c.name, got, err, c.want)
		}
	}
}

// K1: Apart by hand, with the clocks in either order.
func TestApart(t *testing.T) {
	for _, c := range []struct {
		name string
		a, b api.Clock
		at   int
		want int
	}{
		{"two equal exact clocks", api.Clock{}, api.Clock{}, 12345, 0},
		{"two equal fast clocks", api.Clock{Rate: 1000, Off: 7}, api.Clock{Rate: 1000, Off: 7}, last, 0},
		{"a fast and an exact clock", api.Clock{Rate: 100}, api.Clock{}, 20000, 2},
		{"a slow and an exact clock", api.Clock{Rate: -100}, api.Clock{}, 20000, 2},
		{"opposite rates", api.Clock{Rate: 100}, api.Clock{Rate: -100}, 20000, 4},
		{"opposite rates, both rounded down", api.Clock{Rate: 1000}, api.Clock{Rate: -1000}, 1, 1},
		{"opposite rates at time 0", api.Clock{Rate: 1000}, api.Clock{Rate: -1000}, 0, 0},
		{"opposite rates at the last time", api.Clock{Rate: 1000}, api.Clock{Rate: -1000}, last, 2199023255},
		{"offsets at time 0", api.Clock{Off: 9}, api.Clock{Off: 2}, 0, 7},
		{"offsets with the same rate", api.Clock{Rate: 5, Off: 9}, api.Clock{Rate: 5, Off: 2}, 999999, 7},
		{"a fast clock reaches an earlier one", api.Clock{Rate: 1000}, api.Clock{Off: 1}, 1000, 0},
		{"and passes it", api.Clock{Rate: 1000}, api.Clock{Off: 1}, 2000, 1},
		{"the largest offset and none", api.Clock{Off: last}, api.Clock{}, 0, last},
		{"the farthest", api.Clock{Rate: 1000, Off: last}, api.Clock{Rate: -1000}, last, 1101710651031},
	} {
		if got, err := Apart(c.a, c.b, c.at); got != c.want || err != api.OK {
			t.Errorf("%s: Apart = %d, %d; want %d, OK", c.name, got, err, c.want)
		}
		if got, err := Apart(c.b, c.a, c.at); got != c.want || err != api.OK {
			t.Errorf("%s, the other order: Apart = %d, %d; want %d, OK", c.name, got, err, c.want)
		}
	}
}

// K1: the errors of Shows and When by hand: the clock comes before the number.
func TestErrors(t *testing.T) {
	for _, c := range []struct {
		name      string
		rate, off int
		number    int
		want      api.Errno
	}{
		{"a rate that is too small", -1001, 0, 0, api.ErrForm},
		{"a rate that is too large", 1001, 0, 0, api.ErrForm},
		{"an offset of -1", 0, -1, 0, api.ErrForm},
		{"an offset after MaxTime", 0, last + 1, 0, api.ErrForm},
		{"a number of -1", 0, 0, -1, api.ErrRange},
		{"a number after MaxTime", 0, 0, last + 1, api.ErrRange},
		{"the largest number", 1000, last, huge, api.ErrRange},
		{"the smallest number", -1000, last, least, api.ErrRange},
		{"-1 is below the offset, but wrong", 0, 5, -1, api.ErrRange},
		{"both wrong: rate and -1", 1001, 0, -1, api.ErrForm},
		{"both wrong: offset and after MaxTime", 0, -1, last + 1, api.ErrForm},
		{"both wrong: a speed of 0", -1000000, 0, -1, api.ErrForm},
		{"a speed of 0", -1000000, 0, 1, api.ErrForm},
		{"everything wrong", least, huge, least, api.ErrForm},
	} {
		clock := api.Clock{Rate: c.rate, Off: c.off}
		if got, err := Shows(clock, c.number); got != 0 || err != c.want {
			t.Errorf("%s: Shows = %d, %d; want 0, %d", c.name, got, err, c.want)
		}
		if got, err := When(clock, c.number); got != 0 || err != c.want {
			t.Errorf("%s: When = %d, %d; want 0, %d", c.name, got, err, c.want)
		}
	}
}

// K1: the errors of Apart by hand: all of the first clock, the time among them, come before those of the second.
func TestErrorsOfApart(t *testing.T) {
	good := api.Clock{Rate: 3, Off: 4}
	fast, early := api.Clock{Rate: 1001}, api.Clock{Off: -1}
	for _, c := range []struct {
		name string
		a, b api.Clock
		at   int
		want api.Errno
	}{
		{"the first clock wrong", fast, good, 0, api.ErrForm},
		{"the second clock wrong", good, fast, 0, api.ErrForm},
		{"the second clock wrong by its offset", good, early, last, api.ErrForm},
		{"both clocks wrong", fast, early, 0, api.ErrForm},
		{"the time wrong", good, good, -1, api.ErrRange},
		{"the time after MaxTime", good, good, last + 1, api.ErrRange},
		{"the first clock and the time wrong", fast, good, -1, api.ErrForm},
		{"the time and the second clock wrong", good, fast, -1, api.ErrRange},
		{"the time after MaxTime and the second clock wrong", good, early, last + 1, api.ErrRange},
		{"everything wrong", early, fast, huge, api.ErrForm},
		{"the same wrong clock twice", fast, fast, 5, api.ErrForm},
	} {
		if got, err := Apart(c.a, c.b, c.at); got != 0 || err != c.want {
			t.Errorf("%s: Apart = %d, %d; want 0, %d", c.name, got, err, c.want)
		}
	}
}

// K1: all combinations of numbers at, near and far from their limits.
func TestAllLimits(t *testing.T) {
	var clocks []api.Clock
	for _, rate := range rates {
		for _, off := range times {
			clocks = append(clocks, api.Clock{Rate: rate, Off: off})
		}
	}
	for _, c := range clocks {
		for _, v := range times {
			checkShows(t, c, v)
			checkWhen(t, c, v)
			for _, other := range clocks {
				checkApart(t, c, other, v)
			}
		}
		for _, near := range []int{c.Off - 1, c.Off, c.Off + 1} {
			checkWhen(t, c, near)
		}
	}
}

// K1: every rate with every time and value around those at which it first skips or repeats a value.
func TestAllRates(t *testing.T) {
	for rate := -1000; rate <= 1000; rate++ {
		c := api.Clock{Rate: rate, Off: 3}
		turn := 0
		if rate != 0 {
			turn = 1000000 / max(rate, -rate)
		}
		for _, about := range []int{0, turn, 2 * turn, last - 3} {
			for v := max(about-3, 0); v <= about+6; v++ {
				checkShows(t, c, v)
				checkWhen(t, c, v)
			}
		}
	}
}

// K1: When by counting the time up from 0.
func TestWhenByCounting(t *testing.T) {
	for _, rate := range []int{-1000, -999, -997, -1, 0, 1, 997, 999, 1000} {
		c, at := api.Clock{Rate: rate, Off: 50}, 0
		for shown := range 5000 {
			for reads(c, at) < shown {
				at++
			}
			if got, err := When(c, shown); got != at || err != api.OK {
				t.Fatalf("When(%v, %d) = %d, %d; want %d, OK", c, shown, got, err, at)
			}
		}
	}
}

// K1: many clocks, times and values of all orders of magnitude.
func TestManyClocks(t *testing.T) {
	r := rand.New(rand.NewSource(31))
	for range 50000 {
		a, b := validClock(r), validClock(r)
		checkShows(t, a, validTime(r))
		checkWhen(t, a, validTime(r))
		checkApart(t, a, b, validTime(r))
	}
}

// K1: a clock never goes back, and When is the first time from which on a value is reached.
func TestClocksAreMonotone(t *testing.T) {
	r := rand.New(rand.NewSource(32))
	for range 50000 {
		c, at := validClock(r), r.Intn(last)
		now, _ := Shows(c, at)
		if next, _ := Shows(c, at+1); next < now || next > now+2 {
			t.Fatalf("%v shows %d at %d, and then %d", c, now, at, next)
		}
		shown := validTime(r)
		first, _ := When(c, shown)
		if first > last {
			continue
		}
		if got, err := Shows(c, first); got < shown || err != api.OK {
			t.Fatalf("%v shows %d, %d at %d; want at least %d, OK", c, got, err, first, shown)
		}
		if first == 0 {
			continue
		}
		if got, err := Shows(c, first-1); got >= shown || err != api.OK {
			t.Fatalf("%v shows %d, %d already at %d; want less than %d, OK", c, got, err, first-1, shown)
		}
	}
}

// AA1: calls in between, also wrong ones, change no result.
func TestNoStateIsKept(t *testing.T) {
	c := api.Clock{Rate: 100, Off: 1}
	for _, v := range times {
		Shows(api.Clock{Rate: -1000, Off: v}, v)
		When(api.Clock{Rate: 1000, Off: v}, v)
		Apart(c, api.Clock{Rate: v}, v)
		checkShows(t, c, 20000)
		checkWhen(t, c, 20003)
		checkApart(t, c, api.Clock{}, 20000)
	}
}
