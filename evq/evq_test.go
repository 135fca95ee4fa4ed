package evq

import (
	"math"
	"math/rand"
	"slices"
	"strconv"
	"strings"
	"testing"

	"slotwright/api"
)

// numbers are values of N, also such as are valid for a slot in a narrower type, or as a bit or a sign.
var numbers = []int{math.MinInt, math.MinInt + 1, -1 << 32, -1<<32 + 2, -256, -253, -5, -4, -3, -2, -1, 0, 1, 2, 3, 4, 5, 6, 7, 8, 255, 256, 257, 1 << 16, 1<<16 + 3, 1<<31 + 1, 1 << 32, 1<<32 + 1, api.MaxTime, api.MaxTime + 1, 1 << 62, math.MaxInt - 1, math.MaxInt}

// answer is what Play returns.
type answer struct {
	errs  []api.Errno
	taken []int
	left  [2]int
}

// as joins the results of Play.
func as(errs []api.Errno, taken []int, left [2]int) answer { return answer{errs, taken, left} }

// isSame tells whether two answers are equal; no errors and no events may be nil or empty.
func isSame(a, b answer) bool {
	return slices.Equal(a.errs, b.errs) && slices.Equal(a.taken, b.taken) && a.left == b.left
}

// script returns the operations of a text with words such as send7, slot2, take and kind9, and their errors: none, or the letter behind an exclamation mark.
func script(text string) ([]api.EventOp, []api.Errno) {
	marks := map[string]api.Errno{"": api.OK, "R": api.ErrRange, "N": api.ErrNone, "F": api.ErrFull, "K": api.ErrKind}
	kinds := map[string]int{"send": 1, "slot": 2, "take": 3}
	list, errs := []api.EventOp{}, []api.Errno{}
	for word := range strings.FieldsSeq(text) {
		word, mark, _ := strings.Cut(word, "!")
		op := api.EventOp{Kind: kinds[word[:4]]}
		op.N, _ = strconv.Atoi(word[4:])
		if op.Kind == 0 {
			op.Kind, op.N = op.N, 0
		}
		list, errs = append(list, op), append(errs, marks[mark])
	}
	return list, errs
}

// ops returns the operations of a text alone.
func ops(text string) []api.EventOp {
	list, _ := script(text)
	return list
}

// times returns n times the text.
func times(n int, text string) string { return strings.Repeat(text+" ", n) }

// parcel is an event with the place of its operation, which tells it from an equal one.
type parcel struct{ place, event int }

// expected tells what Play must return, with two queues and a note of everything that the receiver has ever received.
func expected(list []api.EventOp) answer {
	var a answer
	var sender, receiver []parcel
	received := map[parcel]bool{}
	for place, op := range list {
		err := api.OK
		switch {
		case op.Kind < 1 || op.Kind > 3:
			err = api.ErrKind
		case op.Kind == 1 && len(sender) == 4:
			err = api.ErrFull
		case op.Kind == 1:
			sender = append(sender, parcel{place, op.N})
		case op.Kind == 3 && len(receiver) == 0:
			err = api.ErrNone
		case op.Kind == 3:
			a.taken = append(a.taken, receiver[0].event)
			receiver = receiver[1:]
		case op.N < 0 || op.N > 3:
			err = api.ErrRange
		case len(sender) > 0:
			first := sender[0]
			if (op.N == 0 || op.N == 2) && !received[first] && len(receiver) < 4 {
				receiver = append(receiver, first)
				received[first] = true
			}
			if op.N < 2 && received[first] {
				sender = sender[1:]
			}
		}
		a.errs = append(a.errs, err)
	}
	a.left = [2]int{len(sender), len(receiver)}
	return a
}

// check demands of Play what the reference finds, and that the argument stays as it was.
func check(t *testing.T, list []api.EventOp) {
	t.Helper()
	before := slices.Clone(list)
	got := as(Play(list))
	if want := expected(before); !isSame(got, want) {
		t.Fatalf("Play(%v) = %v; want %v", before, got, want)
	}
	if !slices.Equal(list, before) {
		t.Fatalf("Play(%v) changes the argument to %v", before, list)
	}
}

// playCase is a script with its errors, and what else Play must return.
type playCase struct {
	name, text       string
	taken            []int
	sender, receiver int
}

// demand fails the test for each call that does not return what it must; the reference must find the same.
func demand(t *testing.T, cases []playCase) {
	t.Helper()
	for _, c := range cases {
		list, errs := script(c.text)
		want := answer{errs, c.taken, [2]int{c.sender, c.receiver}}
		if got := as(Play(list)); !isSame(got, want) {
			t.Errorf("%s: Play = %v; want %v", c.name, got, want)
		}
		if got := expected(list); !isSame(got, want) {
			t.Errorf("%s: the reference finds %v; want %v", c.name, got, want)
		}
	}
}

// R1: no operation.
func TestNoOperation(t *testing.T) {
	for _, list := range [][]api.EventOp{nil, {}} {
		if got := as(Play(list)); !isSame(got, answer{}) {
			t.Errorf("Play(%#v) = %v", list, got)
		}
	}
}

// R1 and R2: each operation alone.
func TestOneOperation(t *testing.T) {
	demand(t, []playCase{
		{"send", "send7", nil, 1, 0},
		{"send 0", "send0", nil, 1, 0},
		{"take", "take!N", nil, 0, 0},
		{"slot 0", "slot0", nil, 0, 0},
		{"slot 1", "slot1", nil, 0, 0},
		{"slot 2", "slot2", nil, 0, 0},
		{"slot 3", "slot3", nil, 0, 0},
		{"slot 4", "slot4!R", nil, 0, 0},
		{"slot 5", "slot5!R", nil, 0, 0},
		{"slot -1", "slot-1!R", nil, 0, 0},
		{"slot -4", "slot-4!R", nil, 0, 0},
		{"kind 0", "kind0!K", nil, 0, 0},
		{"kind 4", "kind4!K", nil, 0, 0},
		{"kind -1", "kind-1!K", nil, 0, 0},
	})
}

// R1: a kind that is unknown is an error with every N, and without effect wherever it stands.
func TestUnknownKinds(t *testing.T) {
	kinds := slices.DeleteFunc(slices.Clone(numbers), func(kind int) bool { return kind >= 1 && kind <= 3 })
	for _, kind := range kinds {
		for _, n := range numbers {
			demandErrorAnywhere(t, api.EventOp{Kind: kind, N: n}, api.ErrKind)
		}
	}
}

// demandErrorAnywhere fails the test unless the operation has this error at each place of a script, and no effect.
func demandErrorAnywhere(t *testing.T, wrong api.EventOp, err api.Errno) {
	t.Helper()
	list := ops("send7 send8 slot2 slot3 slot1 slot0 take take take")
	plain := as(Play(list))
	for place := range len(list) + 1 {
		want := answer{slices.Insert(slices.Clone(plain.errs), place, err), plain.taken, plain.left}
		if got := as(Play(slices.Insert(slices.Clone(list), place, wrong))); !isSame(got, want) {
			t.Fatalf("with %v at place %d: Play = %v; want %v", wrong, place, got, want)
		}
	}
}

// R1: EventSend of every sort of N.
func TestSend(t *testing.T) {
	for _, n := range numbers {
		list := []api.EventOp{{Kind: 1, N: n}, {Kind: 2}, {Kind: 3}}
		want := answer{make([]api.Errno, 3), []int{n}, [2]int{0, 0}}
		if got := as(Play(list)); !isSame(got, want) {
			t.Errorf("Play(%v) = %v; want %v", list, got, want)
		}
	}
	demand(t, []playCase{
		{"two events", "send7 send8", nil, 2, 0},
		{"two events, delivered", "send7 send8 slot0 slot0 take take", []int{7, 8}, 0, 0},
		{"a falling row", "send3 send2 send-1 slot0 slot0 slot0 take take take", []int{3, 2, -1}, 0, 0},
		{"an event 0", "send0 slot0 take", []int{0}, 0, 0},
	})
}

// R1: equal events are not the same event.
func TestEqualEvents(t *testing.T) {
	demand(t, []playCase{
		{"two", "send7 send7 slot0 slot0 take take", []int{7, 7}, 0, 0},
		{"two, none taken", "send7 send7 slot0 slot0", nil, 0, 2},
		{"the second one only sent", "send7 send7 slot0 take take!N", []int{7}, 1, 0},
		{"the second one sent when the first one is gone", "send7 slot0 take send7 slot0 take", []int{7, 7}, 0, 0},
		{"the acknowledgment of the first one lost", "send7 send7 slot2 slot0 slot0 take take", []int{7, 7}, 0, 0},
		{"a slot removes the first one, and does not transmit the second one", "send7 send7 slot2 slot0", nil, 1, 1},
		{"an acknowledgment of the first one is none of the second one", "send7 send7 slot0 slot1 slot1", nil, 1, 1},
		{"four", times(4, "send7") + times(4, "slot0") + times(4, "take"), []int{7, 7, 7, 7}, 0, 0},
	})
}

// R1: a fifth event in the sender's queue.
func TestFullSender(t *testing.T) {
	demand(t, []playCase{
		{"four events", "send1 send2 send3 send4", nil, 4, 0},
		{"a fifth one", "send1 send2 send3 send4 send5!F", nil, 4, 0},
		{"a fifth one that is an equal one", "send1 send1 send1 send1 send1!F", nil, 4, 0},
		{"a sixth one", "send1 send2 send3 send4 send5!F send6!F", nil, 4, 0},
		{"room again", "send1 send2 send3 send4 slot0 send5", nil, 4, 1},
		{"room for one", "send1 send2 send3 send4 slot0 send5 send6!F", nil, 4, 1},
		{"the fifth one is not kept for later", "send1 send2 send3 send4 send5!F slot0 send6 slot0 slot0 slot0 take slot0 take take take take", []int{1, 2, 3, 4, 6}, 0, 0},
		{"no room while the acknowledgment is lost", "send1 send2 send3 send4 slot2 send5!F", nil, 4, 1},
		{"no room while the transmission is lost", "send1 send2 send3 send4 slot1 send5!F", nil, 4, 0},
		{"no room while both are lost", "send1 send2 send3 send4 slot3 send5!F", nil, 4, 0},
		{"room with the second acknowledgment", "send1 send2 send3 send4 slot2 send5!F slot1 send6", nil, 4, 1},
		{"taking an event makes no room", "send1 send2 send3 send4 slot2 take send5!F", []int{1}, 4, 0},
	})
}

// R1: EventTake of an empty queue, and that its N is ignored.
func TestTake(t *testing.T) {
	for _, n := range numbers {
		take := api.EventOp{Kind: 3, N: n}
		list := []api.EventOp{take, {Kind: 1, N: 5}, take, {Kind: 2}, take, take}
		want := answer{[]api.Errno{api.ErrNone, 0, api.ErrNone, 0, 0, api.ErrNone}, []int{5}, [2]int{0, 0}}
		if got := as(Play(list)); !isSame(got, want) {
			t.Errorf("with an N of %d: Play = %v; want %v", n, got, want)
		}
	}
	demand(t, []playCase{
		{"several of an empty queue", "take!N take!N take!N", nil, 0, 0},
		{"an event that is only sent", "send7 take!N", nil, 1, 0},
		{"an event whose transmission is lost", "send7 slot1 take!N", nil, 1, 0},
		{"one event twice", "send7 slot0 take take!N", []int{7}, 0, 0},
		{"none twice while it is not acknowledged", "send7 slot2 take take!N slot2 take!N", []int{7}, 1, 0},
		{"the first of two", "send7 send8 slot0 slot0 take", []int{7}, 0, 1},
	})
}

// R2: EventSlot with an N that is out of range is an error, and without effect wherever it stands.
func TestSlotOutOfRange(t *testing.T) {
	for _, n := range numbers {
		if n < 0 || n > 3 {
			demandErrorAnywhere(t, api.EventOp{Kind: 2, N: n}, api.ErrRange)
		}
	}
	demand(t, []playCase{
		{"-1", "send7 slot-1!R", nil, 1, 0},
		{"4", "send7 slot4!R", nil, 1, 0},
		{"4 when the event is received", "send7 slot2 slot4!R", nil, 1, 1},
		{"-4 when the event is received", "send7 slot2 slot-4!R", nil, 1, 1},
		{"-1, 4 and 5 when no event is sent", "slot-1!R slot4!R slot5!R", nil, 0, 0},
	})
}

// R2: what each N from 0 to 3 does before and after the event is received.
func TestSlot(t *testing.T) {
	demand(t, []playCase{
		{"nothing lost", "send7 slot0", nil, 0, 1},
		{"the transmission lost", "send7 slot1", nil, 1, 0},
		{"the acknowledgment lost", "send7 slot2", nil, 1, 1},
		{"both lost", "send7 slot3", nil, 1, 0},
		{"nothing lost, received before", "send7 slot2 slot0", nil, 0, 1},
		{"the transmission lost, received before", "send7 slot2 slot1", nil, 0, 1},
		{"the acknowledgment lost, received before", "send7 slot2 slot2", nil, 1, 1},
		{"both lost, received before", "send7 slot2 slot3", nil, 1, 1},
		{"one event a slot", "send7 send8 send9 slot0", nil, 2, 1},
		{"two slots", "send7 send8 send9 slot0 slot0", nil, 1, 2},
		{"the second event is not transmitted before the first one is removed", "send7 send8 slot2 slot2 slot2", nil, 2, 1},
	})
}

// R2: slots with nothing to transmit.
func TestSlotOfEmptySender(t *testing.T) {
	demand(t, []playCase{
		{"before any event", "slot0 slot1 slot2 slot3 send7 slot0 take", []int{7}, 0, 0},
		{"after an event", "send7 slot0 slot0 slot1 slot2 slot3", nil, 0, 1},
		{"after an event is taken", "send7 slot0 take slot0 take!N", []int{7}, 0, 0},
		{"between two events", "send7 slot0 slot0 slot2 send8 slot0 take take", []int{7, 8}, 0, 0},
		{"what was acknowledged before is none of the next event", "send7 slot0 slot1 send8 slot1", nil, 1, 1},
	})
}

// R2: an event is transmitted until it is acknowledged, and received once.
func TestLosses(t *testing.T) {
	demand(t, []playCase{
		{"the transmission is lost once", "send7 slot1 slot0 take", []int{7}, 0, 0},
		{"both are lost once", "send7 slot3 slot0 take", []int{7}, 0, 0},
		{"the transmission is lost often", "send7 " + times(9, "slot1 slot3") + "slot0 take", []int{7}, 0, 0},
		{"the acknowledgment is lost once", "send7 slot2 slot0 take take!N", []int{7}, 0, 0},
		{"the acknowledgment is lost often", "send7 " + times(9, "slot2 slot3") + "slot0 take take!N", []int{7}, 0, 0},
		{"the event is taken before it is transmitted again", "send7 slot2 take slot0 take!N", []int{7}, 0, 0},
		{"the event is taken before it is transmitted again in vain", "send7 slot2 take slot2 take!N", []int{7}, 1, 0},
		{"the event is taken before it is acknowledged without being transmitted", "send7 slot2 take slot1 take!N", []int{7}, 0, 0},
		{"acknowledged without being transmitted, then the next one", "send7 send8 slot2 slot1 slot1 slot0 take take", []int{7, 8}, 0, 0},
		{"each event is lost in another way", "send1 send2 send3 send4 slot0 slot1 slot0 slot2 slot0 slot3 slot2 slot1 take take take take take!N", []int{1, 2, 3, 4}, 0, 0},
	})
}

// R2: a receiver's queue with four events, so that a fifth one is neither received nor removed.
func TestFullReceiver(t *testing.T) {
	full := times(4, "send0 slot0")
	almost := times(3, "send0 slot0")
	demand(t, []playCase{
		{"three events", almost, nil, 0, 3},
		{"four events", full, nil, 0, 4},
		{"four events, the last one not acknowledged", almost + "send4 slot2", nil, 1, 4},
		{"four events, the last one transmitted again", almost + "send4 slot2 slot0", nil, 0, 4},
		{"four events, the last one acknowledged without being transmitted", almost + "send4 slot2 slot1", nil, 0, 4},
		{"four events, the last one acknowledged late, then a fifth one", almost + "send4 send5 slot2 slot0 slot0", nil, 1, 4},
		{"a fifth one", full + "send5 slot0", nil, 1, 4},
		{"a fifth one, with every slot", full + "send5 slot0 slot1 slot2 slot3 slot0", nil, 1, 4},
		{"a fifth one, and one is taken", full + "send5 slot0 take", []int{0}, 1, 3},
		{"a fifth one, and one is taken before a slot that loses the transmission", full + "send5 slot0 take slot1", []int{0}, 1, 3},
		{"a fifth one goes on once one is taken", full + "send5 slot0 take slot0", []int{0}, 0, 4},
		{"a fifth one goes on, the acknowledgment lost", full + "send5 slot0 take slot2", []int{0}, 1, 4},
		{"a fifth one goes on, acknowledged late", full + "send5 slot0 take slot2 slot1", []int{0}, 0, 4},
		{"a fifth one goes on, all are taken", full + "send5 slot0 take slot0 take take take take take!N", []int{0, 0, 0, 0, 5}, 0, 0},
		{"a sixth one", full + "send5 send6 slot0 take slot0 slot0", []int{0}, 1, 4},
		{"both queues are full", full + "send5 send6 send7 send8 slot0 send9!F", nil, 4, 4},
		{"both queues are full, then emptied", full + "send5 send6 send7 send8 slot0 send9!F take slot0 send10 " + times(4, "take slot0") + times(4, "take") + "take!N", []int{0, 0, 0, 0, 5, 6, 7, 8, 10}, 0, 0},
	})
}

// R1: operations with an error between others.
func TestErrorsBetween(t *testing.T) {
	demand(t, []playCase{
		{"one of each", "kind0!K send7 take!N slot4!R slot0 kind4!K take take!N slot-1!R", []int{7}, 0, 0},
		{"only errors", "kind0!K take!N slot4!R kind9!K slot-1!R take!N", nil, 0, 0},
		{"with a full queue", "send1 send2 send3 send4 send5!F kind5!K slot5!R take!N slot0 send6 send7!F take take!N", []int{1}, 4, 0},
	})
}

// R1: rows with many more than MaxOps operations, which the chapter does not limit.
func TestLongRows(t *testing.T) {
	const many = 100000
	list, events := []api.EventOp{}, []int{}
	for event := range many {
		list = append(list, api.EventOp{Kind: 1, N: event}, api.EventOp{Kind: 2, N: event % 4}, api.EventOp{Kind: 2}, api.EventOp{Kind: 3})
		events = append(events, event)
	}
	if got := as(Play(list)); !isSame(got, answer{make([]api.Errno, len(list)), events, [2]int{0, 0}}) {
		t.Errorf("of %d events %d are taken, and %v are left", many, len(got.taken), got.left)
	}
	for _, size := range []int{api.MaxOps - 1, api.MaxOps, api.MaxOps + 1, 2*api.MaxOps + 1, 70001} {
		check(t, list[:size])
		for _, word := range []string{"send7", "slot0", "slot4", "take", "kind0"} {
			check(t, ops(times(size, word)))
			check(t, ops("send7 send8 slot2 "+times(size, word)+"take slot1 slot0"))
		}
	}
}

// R1 and R2: every state of the channel, and then every list of up to four operations.
func TestAllShortLists(t *testing.T) {
	alphabet := ops("send0 slot0 slot1 slot2 slot3 take slot4 kind0")
	for _, start := range everyState() {
		for size := range 5 {
			list := slices.Concat(start, make([]api.EventOp, size))
			for choice := range 1 << (3 * size) {
				for place := range size {
					list[len(start)+place] = alphabet[choice>>(3*place)&7]
					if list[len(start)+place].Kind == 1 {
						list[len(start)+place].N = 100 + place
					}
				}
				check(t, list)
			}
		}
	}
}

// everyState returns lists of operations that lead to each number of events in both queues, with the first event of the sender's queue received or not.
func everyState() [][]api.EventOp {
	var states [][]api.EventOp
	for sender := range 5 {
		for receiver := range 5 {
			text := times(receiver, "send9 slot0") + times(sender, "send10")
			for _, more := range []string{"", "slot2", "slot2 take"} {
				states = append(states, ops(text+more))
			}
		}
	}
	return states
}

// someOps returns operations in runs of one kind, mostly of different events, and often with few losses.
func someOps(r *rand.Rand, size int) []api.EventOp {
	list := []api.EventOp{}
	longest, lossy, wrong := 1+r.Intn(7), r.Intn(5), r.Intn(40)
	for len(list) < size {
		kind := 1 + r.Intn(3)
		for range 1 + r.Intn(longest) {
			op := api.EventOp{Kind: kind, N: r.Intn(1000)}
			if kind == 2 {
				op.N = 0
				if r.Intn(4) < lossy {
					op.N = r.Intn(4)
				}
			}
			if wrong == 0 && r.Intn(5) == 0 {
				op = api.EventOp{Kind: numbers[r.Intn(len(numbers))], N: numbers[r.Intn(len(numbers))]}
			}
			list = append(list, op)
		}
	}
	return list[:size]
}

// R1 and R2: many lists.
func TestManyLists(t *testing.T) {
	r := rand.New(rand.NewSource(1))
	for range 20000 {
		check(t, someOps(r, r.Intn(300)))
	}
}

// accepted returns the events of all operations without an error that send one.
func accepted(list []api.EventOp, errs []api.Errno) []int {
	events := []int{}
	for place, op := range list {
		if op.Kind == 1 && errs[place] == api.OK {
			events = append(events, op.N)
		}
	}
	return events
}

// The property of the whole: events are delivered exactly once and in order, also those that are still in a queue.
func TestEventsAreDeliveredOnceAndInOrder(t *testing.T) {
	r := rand.New(rand.NewSource(2))
	for range 5000 {
		list := someOps(r, r.Intn(300))
		errs, taken, left := Play(list)
		events := accepted(list, errs)
		if len(taken) > len(events) || !slices.Equal(taken, events[:len(taken)]) {
			t.Fatalf("Play(%v) takes %v; %v were sent", list, taken, events)
		}
		// At most the first event of the sender's queue is in both queues, or in that one and taken.
		if twice := len(taken) + left[0] + left[1] - len(events); twice < 0 || twice > 1 {
			t.Fatalf("Play(%v) leaves %v, with %d of %d events taken", list, left, len(taken), len(events))
		}
		_, all, rest := Play(append(list, ops(times(8, "take slot0")+times(8, "take"))...))
		if !slices.Equal(all, events) || rest != [2]int{0, 0} {
			t.Fatalf("Play(%v), then emptied, takes %v; %v were sent", list, all, events)
		}
	}
}

// AA1: calls in between, also with errors, change no result.
func TestNoStateIsKept(t *testing.T) {
	list := ops("send7 send8 slot2 take slot0 slot2")
	want := answer{make([]api.Errno, 6), []int{7}, [2]int{1, 1}}
	for _, text := range []string{"", "send1", "send1 slot2", "send1 send2 slot0", "take slot4 kind0", times(5, "send1 slot0"), times(9, "send1")} {
		Play(ops(text))
		if got := as(Play(list)); !isSame(got, want) {
			t.Errorf("after %q: Play = %v; want %v", text, got, want)
		}
	}
}

// AA2: what lies behind the length of the argument is neither read nor changed.
func TestSpareCapacityIsLeftAlone(t *testing.T) {
	all := ops("send7 slot0 take send8 slot2 slot1 take take slot4 kind0 send9 slot0")
	list := slices.Clone(all)
	for size := range len(all) {
		check(t, list[:size])
		if !slices.Equal(list, all) {
			t.Fatalf("with %d operations the argument has become %v", size, list)
		}
	}
}

// AA2: the results of one call are not those of another, and do not change with the argument.
func TestResultsAreNewMemory(t *testing.T) {
	text := "send7 slot0 take send8 slot0 take take!N"
	list, errs := script(text)
	want := answer{errs, []int{7, 8}, [2]int{0, 0}}
	first := as(Play(list))
	clear(list)
	if !isSame(first, want) {
		t.Errorf("Play = %v after its argument was changed; want %v", first, want)
	}
	clear(first.errs)
	clear(first.taken)
	if again := as(Play(ops(text))); !isSame(again, want) {
		t.Errorf("Play = %v after its last results were changed; want %v", again, want)
	}
}
