package nbw

import (
	"math"
	"math/rand"
	"slices"
	"strings"
	"testing"

	"slotwright/api"
)

const most = api.MaxOps

// wrong are elements of no kind, also such as are of a kind in a narrower type, or as a bit or a sign.
var wrong = []int{math.MinInt, -1 << 32, -257, -256, -3, -2, -1, 0, 3, 4, 5, 6, 257, 258, 1<<16 + 1, 1<<32 + 1, 1<<32 + 2, math.MaxInt}

// answer is what Play returns.
type answer struct {
	reads  []api.Got
	writes int
	err    api.Errno
}

// as joins the results of Play.
func as(reads []api.Got, writes int, err api.Errno) answer { return answer{reads, writes, err} }

// no is the answer of an error.
func no(err api.Errno) answer { return answer{err: err} }

// right is the answer with a number of complete writes and with these reads.
func right(writes int, reads ...api.Got) answer { return answer{reads, writes, api.OK} }

// got is a read of the same value from both words, in the given number of attempts.
func got(value, tries int) api.Got { return api.Got{First: value, Second: value, Tries: tries} }

// isSame tells whether two answers are equal; no reads may be nil or empty.
func isSame(a, b answer) bool {
	return slices.Equal(a.reads, b.reads) && a.writes == b.writes && a.err == b.err
}

// steps returns the steps of a text with a w for each one of the writer and an r for each one of the reader; blanks separate writes and attempts.
func steps(text string) []int {
	list := []int{}
	for _, letter := range text {
		switch letter {
		case 'w':
			list = append(list, 1)
		case 'r':
			list = append(list, 2)
		}
	}
	return list
}

// times returns the steps of n times the text.
func times(n int, text string) []int { return steps(strings.Repeat(text, n)) }

// with returns the steps with another element at a place.
func with(list []int, place, element int) []int {
	list = slices.Clone(list)
	list[place] = element
	return list
}

// expected tells what Play must return, without a counter or words, from the number of steps that the writer has done before each step of the reader. The counter is odd unless that number is divisible by 4; and since the next step of the writer then increases the counter, an attempt succeeds only if that number is the same at its last step as at its first.
func expected(list []int) answer {
	if len(list) > 400 {
		return no(api.ErrRange)
	}
	written, writtenAt := 0, []int{}
	for _, kind := range list {
		switch kind {
		case 1:
			written++
		case 2:
			writtenAt = append(writtenAt, written)
		default:
			return no(api.ErrKind)
		}
	}
	a := right(written / 4)
	tries := 1
	for at := 0; at < len(writtenAt); tries++ {
		if writtenAt[at]%4 > 0 {
			at++
			continue
		}
		if at+3 < len(writtenAt) && writtenAt[at] == writtenAt[at+3] {
			a.reads = append(a.reads, got(writtenAt[at]/4, tries))
			tries = 0
		}
		at += 4
	}
	return a
}

// check demands of Play what the reference finds, and that the argument stays as it was.
func check(t *testing.T, list []int) {
	t.Helper()
	before := slices.Clone(list)
	if got, want := as(Play(list)), expected(list); !isSame(got, want) {
		t.Fatalf("Play(%v) = %v; want %v", before, got, want)
	}
	if !slices.Equal(list, before) {
		t.Fatalf("Play(%v) changes the argument to %v", before, list)
	}
}

// playCase is a call of Play, and what it must return.
type playCase struct {
	name string
	list []int
	want answer
}

// demand fails the test for each call that does not return what it must; the reference must find the same.
func demand(t *testing.T, cases []playCase) {
	t.Helper()
	for _, c := range cases {
		if got := as(Play(c.list)); !isSame(got, c.want) {
			t.Errorf("%s: Play = %v; want %v", c.name, got, c.want)
		}
		if got := expected(c.list); !isSame(got, c.want) {
			t.Errorf("%s: the reference finds %v; want %v", c.name, got, c.want)
		}
	}
}

// Q1: the writer alone; nothing is read, and half of the counter is the number of complete writes.
func TestWriterAlone(t *testing.T) {
	demand(t, []playCase{
		{"nil", nil, right(0)},
		{"no step", []int{}, right(0)},
		{"one step", steps("w"), right(0)},
		{"two steps", steps("ww"), right(0)},
		{"three steps", steps("www"), right(0)},
		{"a write", steps("wwww"), right(1)},
		{"five steps", steps("wwww w"), right(1)},
		{"six steps", steps("wwww ww"), right(1)},
		{"seven steps", steps("wwww www"), right(1)},
		{"two writes", steps("wwww wwww"), right(2)},
		{"nine steps", steps("wwww wwww w"), right(2)},
		{"ten writes and three steps", times(43, "w"), right(10)},
		{"63 writes", times(252, "w"), right(63)},
		{"63 writes and a step", times(253, "w"), right(63)},
		{"64 writes", times(256, "w"), right(64)},
		{"MaxOps - 1 steps", times(most-1, "w"), right(99)},
		{"MaxOps steps", times(most, "w"), right(100)},
	})
}

// Q1: the reader alone reads the initial values, in four steps each time.
func TestReaderAlone(t *testing.T) {
	demand(t, []playCase{
		{"one step", steps("r"), right(0)},
		{"two steps", steps("rr"), right(0)},
		{"three steps", steps("rrr"), right(0)},
		{"a read", steps("rrrr"), right(0, got(0, 1))},
		{"five steps", steps("rrrr r"), right(0, got(0, 1))},
		{"seven steps", steps("rrrr rrr"), right(0, got(0, 1))},
		{"two reads", steps("rrrr rrrr"), right(0, got(0, 1), got(0, 1))},
		{"three reads and a step", steps("rrrr rrrr rrrr r"), right(0, got(0, 1), got(0, 1), got(0, 1))},
		{"MaxOps - 1 steps", times(most-1, "r"), right(0, slices.Repeat([]api.Got{got(0, 1)}, 99)...)},
		{"MaxOps steps", times(most, "r"), right(0, slices.Repeat([]api.Got{got(0, 1)}, 100)...)},
	})
}

// Q1: reads of whole values.
func TestReads(t *testing.T) {
	demand(t, []playCase{
		{"after a write", steps("wwww rrrr"), right(1, got(1, 1))},
		{"after two writes", steps("wwww wwww rrrr"), right(2, got(2, 1))},
		{"before and after a write", steps("rrrr wwww rrrr"), right(1, got(0, 1), got(1, 1))},
		{"the same value twice", steps("wwww rrrr rrrr"), right(1, got(1, 1), got(1, 1))},
		{"every value", steps("wwww rrrr wwww rrrr wwww rrrr"), right(3, got(1, 1), got(2, 1), got(3, 1))},
		{"some values", steps("wwww wwww rrrr wwww wwww wwww rrrr"), right(5, got(2, 1), got(5, 1))},
		{"a write begins after the read", steps("wwww rrrr w"), right(1, got(1, 1))},
		{"a write is done up to its last step after the read", steps("wwww rrrr www"), right(1, got(1, 1))},
		{"the last value of MaxOps steps", append(times(most-4, "w"), steps("rrrr")...), right(99, got(99, 1))},
		{"the counter is 128", append(times(256, "w"), steps("rrrr")...), right(64, got(64, 1))},
	})
}

// Q1: an attempt that begins while the counter is odd has failed with its first step.
func TestOddCounter(t *testing.T) {
	demand(t, []playCase{
		{"after the first step of the write", steps("w r"), right(0)},
		{"after the first step, four attempts", steps("w r r r r"), right(0)},
		{"the next step is a new attempt", steps("w r www rrrr"), right(1, got(1, 2))},
		{"the next step is a new attempt, one step missing", steps("w r www rrr"), right(1)},
		{"after the second step", steps("ww r ww rrrr"), right(1, got(1, 2))},
		{"after the third step", steps("www r w rrrr"), right(1, got(1, 2))},
		{"an attempt after each step", steps("w r w r w r w rrrr"), right(1, got(1, 4))},
		{"two attempts after each step", steps("w rr w rr w rr w rrrr"), right(1, got(1, 7))},
		{"four attempts after a step, then one more", steps("ww rrrr ww rrrr"), right(1, got(1, 5))},
		{"a read in between", steps("w r www rrrr w rr www rrrr"), right(2, got(1, 2), got(2, 3))},
		{"the second write", steps("wwww www r w rrrr"), right(2, got(2, 2))},
		{"the second write, never over", steps("wwww www rrrrrrrr"), right(1)},
		{"300 attempts", append(append(steps("ww"), times(300, "r")...), steps("ww rrrr")...), right(1, got(1, 301))},
		{"as many attempts as there is room for", append(append(steps("w"), times(most-8, "r")...), steps("www rrrr")...), right(1, got(1, most-7))},
	})
}

// Q1: a write that begins, ends, or both between the first and the last step of an attempt. An attempt never ends before its fourth step.
func TestWriteDuringAttempt(t *testing.T) {
	demand(t, []playCase{
		{"begins after the first step", steps("r w rrr"), right(0)},
		{"begins after the second step", steps("rr w rr"), right(0)},
		{"begins after the third step", steps("rrr w r"), right(0)},
		{"begins after the last step", steps("rrrr w"), right(0, got(0, 1))},
		{"ends before the first step", steps("wwww rrrr"), right(1, got(1, 1))},
		{"ends after the first step", steps("www r w rrr"), right(1)},
		{"ends after the first step of a new attempt", steps("www r w rrr r"), right(1, got(1, 2))},
		{"begins and ends after the first step", steps("r wwww rrr"), right(1)},
		{"begins and ends after the second step", steps("rr wwww rr"), right(1)},
		{"begins and ends after the third step", steps("rrr wwww r"), right(1)},
		{"a step in each gap", steps("r w r w r w r w"), right(1)},
		{"a whole write in two gaps", steps("r ww r ww rr"), right(1)},
		{"two writes in one gap", steps("rr wwww wwww rr"), right(2)},
		{"two writes, one in each of two gaps", steps("r wwww r wwww rr"), right(2)},
		{"the same after a write", steps("wwww r wwww rrr"), right(2)},
		{"begins; the next step is a new attempt, which fails", steps("r w rrr r www rrrr"), right(1, got(1, 3))},
		{"begins and ends; the next step is a new attempt", steps("r wwww rrr rrrr"), right(1, got(1, 2))},
		{"begins and ends; a new attempt without its last step", steps("r wwww rrr rrr"), right(1)},
		{"a write during each of two attempts", steps("r wwww rrr rrr wwww r rrrr"), right(2, got(2, 3))},
	})
}

// Q1: nothing of two values is ever returned, and a failed attempt leaves no word behind.
func TestTornWords(t *testing.T) {
	demand(t, []playCase{
		{"the old first and the new second word", steps("rr wwww rr"), right(1)},
		{"the new first and the old second word", steps("r ww rr r"), right(0)},
		{"the new first and the old second word, the write over", steps("r ww rr ww r"), right(1)},
		{"of values 1 and 2", steps("wwww rr wwww rr"), right(2)},
		{"of values 1 and 3", steps("wwww rr wwww wwww rr"), right(3)},
		{"then a whole read", steps("wwww rr wwww rr rrrr"), right(2, got(2, 2))},
		{"then a whole read after another write", steps("wwww rr wwww rr wwww rrrr"), right(3, got(3, 2))},
		{"both words are new", steps("r www rr w r"), right(1)},
		{"both words are old", steps("rrr wwww r"), right(1)},
	})
}

// Q1: the order of the writer's steps, which no result of Play shows.
func TestStepsOfWrites(t *testing.T) {
	var m memory
	var w writer
	for place, want := range []memory{{1, 0, 0}, {1, 1, 0}, {1, 1, 1}, {2, 1, 1}, {3, 1, 1}, {3, 2, 1}, {3, 2, 2}, {4, 2, 2}, {5, 2, 2}} {
		w.step(&m)
		if m != want {
			t.Fatalf("after %d steps the memory is %v; want %v", place+1, m, want)
		}
	}
}

// Q1: which word each step of an attempt reads; in a successful read of Play both are the same.
func TestStepsOfAttempt(t *testing.T) {
	var r reader
	for place, m := range []memory{{2, 10, 20}, {2, 11, 21}, {2, 12, 22}, {2, 13, 23}} {
		if isOver := r.step(m); isOver != (place == 3) {
			t.Fatalf("step %d of the attempt returns %t", place+1, isOver)
		}
	}
	if want := (api.Got{First: 11, Second: 22, Tries: 1}); r.got != want {
		t.Errorf("the attempt has read %v; want %v", r.got, want)
	}
}

// Q2: attempts count from the previous successful read on, which counts too.
func TestTries(t *testing.T) {
	demand(t, []playCase{
		{"two attempts, then one, then three", steps("w r www rrrr rrrr w rr www rrrr"), right(2, got(1, 2), got(1, 1), got(2, 3))},
		{"four steps that fail, then one", steps("r wwww rrr rrrr rrrr"), right(1, got(1, 2), got(1, 1))},
		{"both ways of failing", steps("w r www r wwww rrr w r www rrrr"), right(3, got(3, 4))},
		{"an attempt without an end does not count", steps("rrrr rr"), right(0, got(0, 1))},
		{"a failed attempt after the last read", steps("rrrr r w rrr"), right(0, got(0, 1))},
		{"an attempt without an end after a failed one", steps("w r www rrr"), right(1)},
		{"an attempt without an end, the writer last", steps("rrr wwww"), right(1)},
		{"an attempt without an end, no read", steps("wwww rrr w"), right(1)},
		{"49 attempts that fail before the read", append(times(49, "rrr wwww r"), steps("rrrr")...), right(49, got(49, 50))},
	})
}

// Q2: the errors, and which of two comes first; a wrong element is one at any position.
func TestErrors(t *testing.T) {
	full := times(most/8, "wwww rrrr")
	demand(t, []playCase{
		{"0", []int{0}, no(api.ErrKind)},
		{"3", []int{3}, no(api.ErrKind)},
		{"-1", []int{-1}, no(api.ErrKind)},
		{"0 first", append([]int{0}, steps("wwww rrrr")...), no(api.ErrKind)},
		{"0 in the middle", append(append(steps("wwww"), 0), steps("rrrr")...), no(api.ErrKind)},
		{"0 last", append(steps("wwww rrrr"), 0), no(api.ErrKind)},
		{"3 last", append(steps("rrrr"), 3), no(api.ErrKind)},
		{"-1 last", append(steps("rrrr"), -1), no(api.ErrKind)},
		{"several", []int{1, 3, 2, 0}, no(api.ErrKind)},
		{"MaxOps steps", full, right(50, expected(full).reads...)},
		{"MaxOps steps, the first one 0", with(full, 0, 0), no(api.ErrKind)},
		{"MaxOps steps, the last one 3", with(full, most-1, 3), no(api.ErrKind)},
		{"MaxOps + 1 steps of the writer", times(most+1, "w"), no(api.ErrRange)},
		{"MaxOps + 1 steps of the reader", times(most+1, "r"), no(api.ErrRange)},
		{"MaxOps + 1 steps, the first one 0", with(times(most+1, "r"), 0, 0), no(api.ErrRange)},
		{"MaxOps + 1 steps, one in the middle -1", with(times(most+1, "r"), most/2, -1), no(api.ErrRange)},
		{"MaxOps + 1 steps, the last one 3", with(times(most+1, "r"), most, 3), no(api.ErrRange)},
		{"very many steps", times(100000, "wr"), no(api.ErrRange)},
		{"very many wrong steps", make([]int, 100000), no(api.ErrRange)},
	})
}

// Q2: every wrong element at every place of short lists, and at the first, a middle and the last place of long ones.
func TestWrongElements(t *testing.T) {
	for _, element := range wrong {
		for size := 1; size <= 12; size++ {
			for place := range size {
				demandError(t, with(times(size, "r"), place, element), api.ErrKind)
				demandError(t, with(times(size, "w"), place, element), api.ErrKind)
			}
		}
		for _, place := range []int{0, 1, most / 2, most - 2, most - 1} {
			demandError(t, with(times(most, "r"), place, element), api.ErrKind)
			demandError(t, with(times(most+1, "r"), place, element), api.ErrRange)
			demandError(t, with(times(most+1, "w"), place+1, element), api.ErrRange)
		}
	}
}

// demandError fails the test unless Play returns this error and nothing else.
func demandError(t *testing.T, list []int, err api.Errno) {
	t.Helper()
	if got := as(Play(list)); !isSame(got, no(err)) {
		t.Fatalf("Play(%v) = %v; want the error %d", list, got, err)
	}
}

// Q1 and Q2: every order of up to 16 steps.
func TestAllShortLists(t *testing.T) {
	for size := range 17 {
		list := make([]int, size)
		for order := range 1 << size {
			for place := range list {
				list[place] = 1 + order>>place&1
			}
			check(t, list)
		}
	}
}

// Q1 and Q2: many lists of all lengths, with runs of steps of one kind that are often whole writes or attempts.
func TestManyLists(t *testing.T) {
	r := rand.New(rand.NewSource(1))
	for range 20000 {
		check(t, someSteps(r, r.Intn(most+2)))
	}
}

// someSteps returns steps in runs of up to a longest one, with a wrong element now and then.
func someSteps(r *rand.Rand, size int) []int {
	list := []int{}
	longest := 1 + r.Intn(8)
	for len(list) < size {
		run := 1 + r.Intn(longest)
		if r.Intn(3) == 0 {
			run = 4
		}
		list = append(list, slices.Repeat([]int{1 + r.Intn(2)}, run)...)
	}
	list = list[:size]
	if size > 0 && r.Intn(20) == 0 {
		list[r.Intn(size)] = wrong[r.Intn(len(wrong))]
	}
	return list
}

// The property of the whole: no read is torn, and no read is older than the one before it.
func TestReadsAreNeverTorn(t *testing.T) {
	r := rand.New(rand.NewSource(2))
	for range 5000 {
		list := someSteps(r, r.Intn(most+1))
		reads, writes, _ := Play(list)
		last := 0
		for _, read := range reads {
			if read.First != read.Second || read.First < last || read.First > writes {
				t.Fatalf("Play(%v) reads %v, with %d writes", list, reads, writes)
			}
			last = read.First
		}
	}
}

// AA1: calls in between, also wrong ones, change no result.
func TestNoStateIsKept(t *testing.T) {
	want := right(2, got(1, 2), got(2, 1))
	for _, text := range []string{"", "w", "www", "wwww r", "rrr", "w rr", "wwww rrrr"} {
		Play(steps(text))
		Play(append(steps(text), 3))
		Play(append(steps(text), times(most, "w")...))
		if got := as(Play(steps("w r www rrrr wwww rrrr"))); !isSame(got, want) {
			t.Errorf("after %q: Play = %v; want %v", text, got, want)
		}
	}
}

// AA2: what lies behind the length of the argument is neither read nor changed.
func TestSpareCapacityIsLeftAlone(t *testing.T) {
	all := append(steps("wwww rrrr rrrr w r www rrrr"), 0, 3, -1)
	list := slices.Clone(all)
	for size := range len(all) {
		check(t, list[:size])
		if !slices.Equal(list, all) {
			t.Fatalf("with %d steps the argument has become %v", size, list)
		}
	}
}

// AA2: the reads of one call are not those of another.
func TestReadsAreNewMemory(t *testing.T) {
	list := steps("rrrr wwww rrrr")
	first, _, _ := Play(list)
	first[0], first[1] = got(7, 7), got(8, 8)
	if again := as(Play(list)); !isSame(again, right(1, got(0, 1), got(1, 1))) {
		t.Errorf("Play = %v after its last result was changed", again)
	}
}
