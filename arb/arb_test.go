package arb

import (
	"fmt"
	"math"
	"math/rand"
	"slices"
	"strings"
	"testing"

	"slotwright/api"
)

// digits writes a row of bits with the digits 0 and 1.
func digits(b []bool) string {
	var out strings.Builder
	for _, bit := range b {
		if bit {
			out.WriteByte('1')
		} else {
			out.WriteByte('0')
		}
	}
	return out.String()
}

// played finds the result of an arbitration without playing it: the bus carries the smallest identifier,
// and a node sends what it has in common with that, and one bit more. It shares no code with the program.
func played(ids []int) (sent []int, bus string, winner int) {
	for k, id := range ids {
		if id < ids[winner] {
			winner = k
		}
	}
	bus = fmt.Sprintf("%011b", ids[winner])
	for _, id := range ids {
		own := fmt.Sprintf("%011b", id)
		n := 0
		for n < 11 && own[n] == bus[n] {
			n++
		}
		sent = append(sent, min(n+1, 11))
	}
	return sent, bus, winner
}

// check compares Play, Win and Order of valid identifiers with what the chapter says.
func check(t *testing.T, ids []int) {
	t.Helper()
	if err := Wrong(ids); err != api.OK {
		t.Fatalf("Wrong(%v) = %d", ids, err)
	}
	wantSent, wantBus, wantWinner := played(ids)
	sent, bus, err := Play(ids)
	if !slices.Equal(sent, wantSent) || digits(bus) != wantBus || err != api.OK {
		t.Fatalf("Play(%v) = %v, %s, %d; want %v, %s", ids, sent, digits(bus), err, wantSent, wantBus)
	}
	if winner, err := Win(ids); winner != wantWinner || err != api.OK {
		t.Fatalf("Win(%v) = %d, %d; want %d", ids, winner, err, wantWinner)
	}
	order, err := Order(ids)
	if err != api.OK || len(order) != len(ids) {
		t.Fatalf("Order(%v) = %v, %d", ids, order, err)
	}
	left := slices.Clone(ids)
	for _, id := range order {
		_, _, winner := played(left)
		if left[winner] != id {
			t.Fatalf("Order(%v) = %v; %d wins before %d", ids, order, left[winner], id)
		}
		left = slices.Delete(left, winner, winner+1)
	}
}

// upTo returns the identifiers from 0 to n-1.
func upTo(n int) []int {
	var out []int
	for id := range n {
		out = append(out, id)
	}
	return out
}

// E1 and E2: Wrong, at the limits and beyond them, and which of two errors comes first; the other functions have its error and then no results.
func TestWrong(t *testing.T) {
	most := upTo(api.MaxOps)
	for _, c := range []struct {
		name string
		ids  []int
		err  api.Errno
	}{
		{"one identifier", []int{5}, api.OK},
		{"the smallest and the greatest", []int{0, 2047}, api.OK},
		{"the greatest and the smallest", []int{2047, 0}, api.OK},
		{"below the smallest", []int{-1}, api.ErrRange},
		{"above the greatest", []int{2048}, api.ErrRange},
		{"the greatest int", []int{math.MaxInt}, api.ErrRange},
		{"the smallest int", []int{math.MinInt}, api.ErrRange},
		{"the lowest bits alone would fit", []int{1<<32 + 1}, api.ErrRange},
		{"out of range at the end", []int{1, 2, 3, 2048}, api.ErrRange},
		{"twice the same", []int{3, 3}, api.ErrHeld},
		{"twice the smallest", []int{0, 0}, api.ErrHeld},
		{"twice the greatest", []int{2047, 5, 2047}, api.ErrHeld},
		{"the first one again at the end", []int{3, 1, 2, 3}, api.ErrHeld},
		{"out of range, then twice the same", []int{2048, 3, 3}, api.ErrRange},
		{"twice the same, then out of range", []int{3, 3, 2048}, api.ErrHeld},
		{"twice the same, then below the smallest", []int{3, 3, -1}, api.ErrHeld},
		{"twice the same, which is out of range", []int{2048, 2048}, api.ErrRange},
		{"twice the same, which is below the smallest", []int{-1, -1}, api.ErrRange},
		{"as many as may be", most, api.OK},
		{"as many as may be, the last one occurs earlier", append(upTo(api.MaxOps-1), 0), api.ErrHeld},
		{"as many as may be, the last one out of range", append(upTo(api.MaxOps-1), 2048), api.ErrRange},
		{"one too many", upTo(api.MaxOps + 1), api.ErrRange},
		{"one too many, the first ones the same", append([]int{3, 3}, upTo(api.MaxOps-1)...), api.ErrRange},
		{"all identifiers there are", upTo(2048), api.ErrRange},
		{"very many", make([]int, 100000), api.ErrRange},
	} {
		if err := Wrong(c.ids); err != c.err {
			t.Errorf("%s: Wrong = %d; want %d", c.name, err, c.err)
		}
		if c.err == api.OK {
			check(t, c.ids)
			continue
		}
		if sent, bus, err := Play(c.ids); len(sent) != 0 || len(bus) != 0 || err != c.err {
			t.Errorf("%s: Play = %v, %s, %d; want the error %d", c.name, sent, digits(bus), err, c.err)
		}
		if winner, err := Win(c.ids); winner != 0 || err != c.err {
			t.Errorf("%s: Win = %d, %d; want the error %d", c.name, winner, err, c.err)
		}
		if order, err := Order(c.ids); len(order) != 0 || err != c.err {
			t.Errorf("%s: Order = %v, %d; want the error %d", c.name, order, err, c.err)
		}
	}
}

// E1 and E2: arbitrations played by hand.
func TestArbitrations(t *testing.T) {
	for _, c := range []struct {
		name   string
		ids    []int
		sent   []int
		bus    string
		winner int
		order  []int
	}{
		{"the chapter's example", []int{1024, 5, 4}, []int{1, 11, 11}, "00000000100", 2, []int{4, 5, 1024}},
		{"one node", []int{5}, []int{11}, "00000000101", 0, []int{5}},
		{"one node with the smallest", []int{0}, []int{11}, "00000000000", 0, []int{0}},
		{"one node with the greatest", []int{2047}, []int{11}, "11111111111", 0, []int{2047}},
		{"the smallest against the greatest", []int{2047, 0}, []int{1, 11}, "00000000000", 1, []int{0, 2047}},
		{"apart in the last bit", []int{2046, 2047}, []int{11, 11}, "11111111110", 0, []int{2046, 2047}},
		{"apart in the last bit but one", []int{2045, 2047}, []int{11, 10}, "11111111101", 0, []int{2045, 2047}},
		{"who has stopped sends no more", []int{0b10000000000, 0b01111111111}, []int{1, 11}, "01111111111", 1, []int{1023, 1024}},
		{"one stops at every bit", []int{1024, 512, 256, 128, 64, 32, 16, 8, 4, 2, 1, 0},
			[]int{1, 2, 3, 4, 5, 6, 7, 8, 9, 10, 11, 11}, "00000000000", 11, []int{0, 1, 2, 4, 8, 16, 32, 64, 128, 256, 512, 1024}},
		{"several stop at one bit", []int{0b10100000001, 0b10100000000, 0b10000000011, 0b10011111111},
			[]int{3, 3, 11, 4}, "10000000011", 2, []int{0b10000000011, 0b10011111111, 0b10100000000, 0b10100000001}},
	} {
		sent, bus, err := Play(c.ids)
		if !slices.Equal(sent, c.sent) || digits(bus) != c.bus || err != api.OK {
			t.Errorf("%s: Play(%v) = %v, %s, %d; want %v, %s", c.name, c.ids, sent, digits(bus), err, c.sent, c.bus)
		}
		if winner, err := Win(c.ids); winner != c.winner || err != api.OK {
			t.Errorf("%s: Win(%v) = %d, %d; want %d", c.name, c.ids, winner, err, c.winner)
		}
		if order, err := Order(c.ids); !slices.Equal(order, c.order) || err != api.OK {
			t.Errorf("%s: Order(%v) = %v, %d; want %v", c.name, c.ids, order, err, c.order)
		}
	}
}

// E1 and E2: every identifier alone, and against those that differ from it in one bit.
func TestEveryIdentifier(t *testing.T) {
	for id := range 2048 {
		check(t, []int{id})
		for place := range 11 {
			check(t, []int{id, id ^ 1<<place})
		}
	}
}

// E1 and E2: all sequences of up to four identifiers of a few that begin alike.
func TestShortSequences(t *testing.T) {
	few := []int{0, 1, 2, 3, 1023, 1024, 2046, 2047}
	var extend func(ids []int)
	extend = func(ids []int) {
		if len(ids) > 0 {
			check(t, ids)
		}
		if len(ids) == 4 {
			return
		}
		for _, id := range few {
			if !slices.Contains(ids, id) {
				extend(append(slices.Clone(ids), id))
			}
		}
	}
	extend(nil)
}

// E1 and E2: any identifiers, few and many.
func TestRandomIdentifiers(t *testing.T) {
	r := rand.New(rand.NewSource(8))
	for range 200 {
		check(t, r.Perm(2048)[:1+r.Intn(20)])
	}
	for range 5 {
		check(t, r.Perm(2048)[:api.MaxOps])
	}
}

// E1: Wrong of any numbers, against a search among the earlier ones.
func TestWrongOfRandomNumbers(t *testing.T) {
	r := rand.New(rand.NewSource(9))
	for range 5000 {
		var ids []int
		for range r.Intn(8) {
			ids = append(ids, []int{r.Intn(10), r.Intn(2048), 2040 + r.Intn(9), r.Intn(9) - 1}[r.Intn(4)])
		}
		want := api.OK
		for k := len(ids) - 1; k >= 0; k-- {
			switch {
			case ids[k] < 0 || ids[k] > 2047:
				want = api.ErrRange
			case slices.Contains(ids[:k], ids[k]):
				want = api.ErrHeld
			}
		}
		if got := Wrong(ids); got != want {
			t.Fatalf("Wrong(%v) = %d; want %d", ids, got, want)
		}
	}
}

// flip changes all memory of a slice, its spare capacity too.
func flip(s []int) {
	for i := range s[:cap(s)] {
		s[:cap(s)][i] ^= -1
	}
}

// AA2: arguments and their spare capacity stay as they are and are not read beyond their length; results are new memory.
func TestArgumentsAreLeftAlone(t *testing.T) {
	all := []int{9, 7, 8, 2, 2, -1, 0}
	before := slices.Clone(all)
	for size := 1; size <= 4; size++ {
		ids := all[:size]
		check(t, ids)
		sent, _, _ := Play(ids)
		flip(sent)
		order, _ := Order(ids)
		flip(order)
		if !slices.Equal(all, before) {
			t.Fatalf("the identifiers have become %v", all)
		}
	}
	for size := 5; size <= len(all); size++ {
		Wrong(all[:size])
		Play(all[:size])
		Win(all[:size])
		Order(all[:size])
		if !slices.Equal(all, before) {
			t.Fatalf("the wrong identifiers have become %v", all)
		}
	}
}

// E1, E2 and AA3: nobody wins among no nodes, but they are in order; nil and an empty slice are the same argument.
func TestNilAndEmpty(t *testing.T) {
	for _, ids := range [][]int{nil, {}} {
		if err := Wrong(ids); err != api.OK {
			t.Errorf("Wrong without identifiers = %d", err)
		}
		if sent, bus, err := Play(ids); len(sent) != 0 || len(bus) != 0 || err != api.ErrNone {
			t.Errorf("Play without identifiers = %v, %s, %d", sent, digits(bus), err)
		}
		if winner, err := Win(ids); winner != 0 || err != api.ErrNone {
			t.Errorf("Win without identifiers = %d, %d", winner, err)
		}
		if order, err := Order(ids); len(order) != 0 || err != api.OK {
			t.Errorf("Order without identifiers = %v, %d", order, err)
		}
	}
}
