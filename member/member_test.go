package member

import (
	"math"
	"math/rand"
	"slices"
	"testing"

	"slotwright/api"
)

const (
	huge  = math.MaxInt
	least = math.MinInt
	most  = api.MaxOps
	nodes = api.MaxNode
	full  = 0xffff
)

// values are the numbers around the limits of nodes, counts and rounds, and such as only a wrong comparison, a shift by too much or a narrower type takes for valid.
var values = []int{least, least + 1, -1 << 32, -nodes, -2, -1, 0, 1, 2, 3, 14, 15, 16, 17, 19, 20, 21, 31, 32, 63, 64, 65, 256, 257, 399, 400, 401, 402, 1 << 16, 1<<16 + 1, 1 << 32, 1<<32 + 1, huge - 1, huge}

// answer is what a function returns of one node.
type answer struct {
	m   api.Member
	err api.Errno
}

// as joins the two results of a function.
func as(m api.Member, err api.Errno) answer { return answer{m, err} }

// no is the answer of an error.
func no(err api.Errno) answer { return answer{err: err} }

// in returns the answer of a node that has not left, out that of one that has.
func in(view uint16, took, lost int) answer { return right(inside(view, took, lost)) }

func out(view uint16, took, lost int) answer { return right(outside(view, took, lost)) }

func right(m api.Member) answer { return answer{m, api.OK} }

func inside(view uint16, took, lost int) api.Member {
	return api.Member{View: view, Took: took, Lost: lost}
}

func outside(view uint16, took, lost int) api.Member {
	return api.Member{View: view, Took: took, Lost: lost, Out: true}
}

// frame and silence are a slot with a frame and one without.
func frame(node int, view uint16) api.Heard { return api.Heard{Node: node, Came: true, View: view} }

func silence(node int) api.Heard { return api.Heard{Node: node} }

// times returns n times the slot h.
func times(n int, h api.Heard) []api.Heard { return slices.Repeat([]api.Heard{h}, n) }

// joined returns the lists one after the other.
func joined(lists ...[]api.Heard) []api.Heard { return slices.Concat(lists...) }

// same returns n times what a node hears.
func same(n int, hears uint16) []uint16 { return slices.Repeat([]uint16{hears}, n) }

// nodesOf tells of each node whether its bit is set in a view, and viewOf is the inverse.
func nodesOf(view uint16) (list [16]bool) {
	for node := range list {
		list[node] = view%2 == 1
		view /= 2
	}
	return list
}

func viewOf(list [16]bool) (view uint16) {
	for node := range list {
		view *= 2
		if list[15-node] {
			view++
		}
	}
	return view
}

// expectedRight tells what Right must return.
func expectedRight(own int, m api.Member) bool {
	if m.Took < 0 || m.Took > 400 || m.Lost < 0 || m.Lost > 400 {
		return false
	}
	for node, isThere := range nodesOf(m.View) {
		if node == own {
			return isThere == !m.Out
		}
	}
	return false
}

// expectedAll tells what All must return.
func expectedAll(own, many int) answer {
	if many < 1 || many > 16 || own < 0 || own > many-1 {
		return no(api.ErrRange)
	}
	var list [16]bool
	for node := range many {
		list[node] = true
	}
	return in(viewOf(list), many, 0)
}

// expectedStep tells what Step must return, node by node of both views.
func expectedStep(own int, m api.Member, h api.Heard) answer {
	if !expectedRight(own, m) {
		return no(api.ErrForm)
	}
	if h.Node < 0 || h.Node > 15 {
		return no(api.ErrRange)
	}
	if m.Out {
		return right(m)
	}
	view, told := nodesOf(m.View), nodesOf(h.View)
	if h.Node == own {
		view[own] = m.Took >= m.Lost
		return right(api.Member{View: viewOf(view), Out: m.Took < m.Lost})
	}
	if !view[h.Node] && !h.Came {
		return right(m)
	}
	isAccepted := h.Came
	for node := range view {
		isAccepted = isAccepted && (node == h.Node || view[node] == told[node])
	}
	view[h.Node] = isAccepted
	m.View = viewOf(view)
	if isAccepted {
		m.Took++
	} else {
		m.Lost++
	}
	if m.Took == 401 || m.Lost == 401 {
		return no(api.ErrFull)
	}
	return right(m)
}

// expectedPlay tells what Play must return.
func expectedPlay(own, many int, l []api.Heard) answer {
	a := expectedAll(own, many)
	for _, h := range l {
		if a.err == api.OK {
			a = expectedStep(own, a.m, h)
		}
	}
	return a
}

// expectedRounds tells what Rounds must return, without the error of a step: no node takes or loses more than 31 frames between two slots of its own.
func expectedRounds(hears []uint16, rounds int) ([]api.Member, api.Errno) {
	if len(hears) < 1 || len(hears) > 16 || rounds < 0 || rounds > 20 {
		return nil, api.ErrRange
	}
	group := []api.Member{}
	for node := range hears {
		group = append(group, expectedAll(node, len(hears)).m)
	}
	for turn := range len(hears) * rounds {
		sender := turn % len(hears)
		sent := group[sender]
		for node := range group {
			h := api.Heard{Node: sender, View: sent.View}
			h.Came = !sent.Out && nodesOf(hears[node])[sender]
			group[node] = expectedStep(node, group[node], h).m
		}
	}
	return group, api.OK
}

// checkStep demands of Step what the reference finds.
func checkStep(t *testing.T, own int, m api.Member, h api.Heard) {
	t.Helper()
	if got, want := as(Step(own, m, h)), expectedStep(own, m, h); got != want {
		t.Fatalf("Step(%d, %v, %v) = %v; want %v", own, m, h, got, want)
	}
}

// checkPlay demands of Play what the reference finds, and that the list stays as it was.
func checkPlay(t *testing.T, own, many int, l []api.Heard) {
	t.Helper()
	before := slices.Clone(l)
	if got, want := as(Play(own, many, l)), expectedPlay(own, many, l); got != want {
		t.Fatalf("Play(%d, %d, %v) = %v; want %v", own, many, before, got, want)
	}
	if !slices.Equal(l, before) {
		t.Fatalf("Play(%d, %d, %v) changes the list to %v", own, many, before, l)
	}
}

// checkRounds demands of Rounds what the reference finds, and that the list stays as it was.
func checkRounds(t *testing.T, hears []uint16, rounds int) {
	t.Helper()
	before := slices.Clone(hears)
	got, err := Rounds(hears, rounds)
	if want, wantErr := expectedRounds(hears, rounds); err != wantErr || !slices.Equal(got, want) {
		t.Fatalf("Rounds(%x, %d) = %v, %d; want %v, %d", before, rounds, got, err, want, wantErr)
	}
	if !slices.Equal(hears, before) {
		t.Fatalf("Rounds(%x, %d) changes the list to %x", before, rounds, hears)
	}
}

// someMember returns a valid state of a node.
func someMember(r *rand.Rand, own int) api.Member {
	m := inside(uint16(r.Intn(1<<16)), r.Intn(4), r.Intn(4))
	if r.Intn(4) == 0 {
		m.Took, m.Lost = most-r.Intn(2), most-r.Intn(2)
	}
	m.Out = m.View>>own&1 == 0
	return m
}

// someHeard returns a slot whose view often agrees with the given one, or differs from it by a bit or two.
func someHeard(r *rand.Rand, view uint16, many int) api.Heard {
	h := api.Heard{Node: r.Intn(many), Came: r.Intn(3) > 0, View: view}
	for range r.Intn(3) {
		h.View ^= 1 << r.Intn(many)
	}
	if r.Intn(3) == 0 {
		h.View = view ^ 1<<h.Node
	}
	return h
}

// someHeards returns slots of which many are accepted by the node.
func someHeards(r *rand.Rand, own, many, size int) []api.Heard {
	m := expectedAll(own, many).m
	list := []api.Heard{}
	for range size {
		h := someHeard(r, m.View, many)
		list = append(list, h)
		m = expectedStep(own, m, h).m
	}
	return list
}

// someHears returns what each node hears: most nodes hear most others.
func someHears(r *rand.Rand, many int) []uint16 {
	list := make([]uint16, many)
	for node := range list {
		list[node] = uint16(r.Intn(1 << 16))
		for range r.Intn(4) {
			list[node] |= uint16(r.Intn(1 << 16))
		}
	}
	return list
}

// P1: states by hand.
func TestRight(t *testing.T) {
	for _, c := range []struct {
		name string
		own  int
		m    api.Member
		want bool
	}{
		{"an initial state", 0, inside(7, 3, 0), true},
		{"own = -1", -1, inside(full, 0, 0), false},
		{"own = -1, out", -1, outside(0, 0, 0), false},
		{"own = 0", 0, inside(1, 0, 0), true},
		{"own = MaxNode - 1", nodes - 1, inside(1<<15, 0, 0), true},
		{"own = MaxNode - 1, out", nodes - 1, outside(1<<15-1, 0, 0), true},
		{"own = MaxNode", nodes, inside(full, 0, 0), false},
		{"own = MaxNode, out", nodes, outside(0, 0, 0), false},
		{"own = MaxNode, out, all bits", nodes, outside(full, 0, 0), false},
		{"the greatest own", huge, outside(0, 0, 0), false},
		{"the smallest own", least, outside(0, 0, 0), false},
		{"own is 0 in 32 bits", 1 << 32, inside(1, 0, 0), false},
		{"Took of -1", 2, inside(4, -1, 0), false},
		{"Took of 0", 2, inside(4, 0, 5), true},
		{"Took of MaxOps", 2, inside(4, most, 0), true},
		{"Took of MaxOps + 1", 2, inside(4, most+1, 0), false},
		{"the greatest Took", 2, inside(4, huge, 0), false},
		{"the smallest Took", 2, inside(4, least, 0), false},
		{"Lost of -1", 2, inside(4, 0, -1), false},
		{"Lost of 0", 2, inside(4, 5, 0), true},
		{"Lost of MaxOps", 2, inside(4, 0, most), true},
		{"Lost of MaxOps + 1", 2, inside(4, 0, most+1), false},
		{"the greatest Lost", 2, inside(4, 0, huge), false},
		{"the smallest Lost", 2, inside(4, 0, least), false},
		{"both of MaxOps", 2, inside(4, most, most), true},
		{"both of MaxOps + 1", 2, inside(4, most+1, most+1), false},
		{"the own bit set, not out", 1, inside(2, 0, 0), true},
		{"the own bit set, out", 1, outside(2, 0, 0), false},
		{"the own bit not set, not out", 1, inside(5, 0, 0), false},
		{"the own bit not set, out", 1, outside(5, 0, 0), true},
		{"no bit set, not out", 1, inside(0, 0, 0), false},
		{"no bit set, out", 1, outside(0, 0, 0), true},
		{"all bits set, not out", 1, inside(full, 0, 0), true},
		{"all bits set, out", 1, outside(full, 0, 0), false},
		{"out with counts", 1, outside(5, 3, 4), true},
		{"out with Took of -1", 1, outside(5, -1, 0), false},
		{"out with Took of MaxOps + 1", 1, outside(5, most+1, 0), false},
		{"out with Lost of -1", 1, outside(5, 0, -1), false},
		{"out with Lost of MaxOps + 1", 1, outside(5, 0, most+1), false},
	} {
		if got := Right(c.own, c.m); got != c.want {
			t.Errorf("%s: Right(%d, %v) = %t", c.name, c.own, c.m, got)
		}
	}
}

// P1: every node, every view, out and not.
func TestAllViewsAreRight(t *testing.T) {
	for own := -2; own < nodes+3; own++ {
		for view := range 1 << 16 {
			for _, m := range []api.Member{inside(uint16(view), 1, 2), outside(uint16(view), 2, 1)} {
				if got, want := Right(own, m), expectedRight(own, m); got != want {
					t.Fatalf("Right(%d, %v) = %t; want %t", own, m, got, want)
				}
			}
		}
	}
}

// P1: numbers around the limits in all places; P2: such states have the same error in every slot.
func TestAllCounts(t *testing.T) {
	for _, own := range values {
		for _, took := range values {
			for _, lost := range values {
				for _, m := range []api.Member{inside(full, took, lost), outside(0, took, lost), inside(0, took, lost), outside(full, took, lost)} {
					if got, want := Right(own, m), expectedRight(own, m); got != want {
						t.Fatalf("Right(%d, %v) = %t; want %t", own, m, got, want)
					}
					for _, node := range []int{-1, 0, 3, nodes} {
						checkStep(t, own, m, frame(node, full))
						checkStep(t, own, m, silence(node))
					}
				}
			}
		}
	}
}

// P1: initial states by hand.
func TestAll(t *testing.T) {
	for _, c := range []struct {
		own, many int
		want      answer
	}{
		{0, 3, in(7, 3, 0)},
		{1, 3, in(7, 3, 0)},
		{2, 3, in(7, 3, 0)},
		{3, 3, no(api.ErrRange)},
		{-1, 3, no(api.ErrRange)},
		{0, 1, in(1, 1, 0)},
		{1, 1, no(api.ErrRange)},
		{-1, 1, no(api.ErrRange)},
		{0, 2, in(3, 2, 0)},
		{0, 0, no(api.ErrRange)},
		{-1, 0, no(api.ErrRange)},
		{0, -1, no(api.ErrRange)},
		{-2, -1, no(api.ErrRange)},
		{0, nodes - 1, in(0x7fff, 15, 0)},
		{nodes - 2, nodes - 1, in(0x7fff, 15, 0)},
		{nodes - 1, nodes - 1, no(api.ErrRange)},
		{0, nodes, in(full, 16, 0)},
		{nodes - 1, nodes, in(full, 16, 0)},
		{nodes, nodes, no(api.ErrRange)},
		{-1, nodes, no(api.ErrRange)},
		{0, nodes + 1, no(api.ErrRange)},
		{nodes, nodes + 1, no(api.ErrRange)},
		{huge, nodes, no(api.ErrRange)},
		{least, nodes, no(api.ErrRange)},
		{0, huge, no(api.ErrRange)},
		{0, least, no(api.ErrRange)},
		{huge, least, no(api.ErrRange)},
		{least, huge, no(api.ErrRange)},
	} {
		if got := as(All(c.own, c.many)); got != c.want {
			t.Errorf("All(%d, %d) = %v; want %v", c.own, c.many, got, c.want)
		}
		if got := as(Play(c.own, c.many, nil)); got != c.want {
			t.Errorf("Play(%d, %d) of no slot = %v; want %v", c.own, c.many, got, c.want)
		}
	}
}

// P1: initial states of all numbers around the limits; each one is valid.
func TestAllInitialStates(t *testing.T) {
	for _, own := range values {
		for _, many := range values {
			got, want := as(All(own, many)), expectedAll(own, many)
			if got != want {
				t.Fatalf("All(%d, %d) = %v; want %v", own, many, got, want)
			}
			if got.err == api.OK && !Right(own, got.m) {
				t.Fatalf("All(%d, %d) = %v, which is not valid", own, many, got)
			}
			checkPlay(t, own, many, nil)
			checkPlay(t, own, many, []api.Heard{frame(1, 7), silence(0), silence(nodes)})
		}
	}
}

// stepCase is a call of Step, and what it must return.
type stepCase struct {
	name string
	own  int
	m    api.Member
	h    api.Heard
	want answer
}

// demand fails the test for each step that does not return what it must.
func demand(t *testing.T, steps []stepCase) {
	t.Helper()
	for _, c := range steps {
		if got := as(Step(c.own, c.m, c.h)); got != c.want {
			t.Errorf("%s: Step(%d, %v, %v) = %v; want %v", c.name, c.own, c.m, c.h, got, c.want)
		}
	}
}

// P2: the slot of the node itself.
func TestOwnSlot(t *testing.T) {
	demand(t, []stepCase{
		{"Took less than Lost", 0, inside(7, 1, 2), silence(0), out(6, 0, 0)},
		{"Took equal to Lost", 0, inside(7, 2, 2), silence(0), in(7, 0, 0)},
		{"Took greater than Lost", 0, inside(7, 3, 2), silence(0), in(7, 0, 0)},
		{"neither took nor lost one", 0, inside(7, 0, 0), silence(0), in(7, 0, 0)},
		{"lost only one", 0, inside(7, 0, 1), silence(0), out(6, 0, 0)},
		{"took only one", 0, inside(7, 1, 0), silence(0), in(7, 0, 0)},
		{"took most, lost most", 1, inside(7, most, most), silence(1), in(7, 0, 0)},
		{"took most less one, lost most", 1, inside(7, most-1, most), silence(1), out(5, 0, 0)},
		{"took most, lost most less one", 1, inside(7, most, most-1), silence(1), in(7, 0, 0)},
		{"took none, lost most", 1, inside(7, 0, most), silence(1), out(5, 0, 0)},
		{"took most, lost none", 1, inside(7, most, 0), silence(1), in(7, 0, 0)},
		{"the last node leaves", nodes - 1, inside(full, 4, 5), silence(nodes - 1), out(0x7fff, 0, 0)},
		{"the last node stays", nodes - 1, inside(full, 5, 5), silence(nodes - 1), in(full, 0, 0)},
		{"alone and leaves", 3, inside(8, 0, 1), silence(3), out(0, 0, 0)},
		{"alone and stays", 3, inside(8, 1, 1), silence(3), in(8, 0, 0)},
		{"only the own bit goes", 3, inside(0xa5ad, 0, 1), silence(3), out(0xa5a5, 0, 0)},
		{"a frame with the own view does not count", 0, inside(7, 1, 2), frame(0, 7), out(6, 0, 0)},
		{"a frame with another view does not count", 0, inside(7, 2, 2), frame(0, 1), in(7, 0, 0)},
		{"no frame, but a view", 0, inside(7, 2, 2), api.Heard{Node: 0, View: 1}, in(7, 0, 0)},
	})
}

// P2: the slot of another node.
func TestSlotOfOther(t *testing.T) {
	demand(t, []stepCase{
		{"a frame that agrees", 0, inside(7, 3, 0), frame(1, 7), in(7, 4, 0)},
		{"a frame that agrees, of a node that is not in View", 0, inside(5, 3, 0), frame(1, 5), in(7, 4, 0)},
		{"a frame that has the sender, of a node that is not in View", 0, inside(5, 3, 0), frame(1, 7), in(7, 4, 0)},
		{"a frame that has not the sender, of a node that is in View", 0, inside(7, 3, 0), frame(1, 5), in(7, 4, 0)},
		{"a frame without another node", 0, inside(7, 3, 0), frame(1, 3), in(5, 3, 1)},
		{"a frame with another node", 0, inside(3, 3, 0), frame(1, 7), in(1, 3, 1)},
		{"a frame without the receiver", 0, inside(7, 3, 0), frame(1, 6), in(5, 3, 1)},
		{"a frame without another node, of a node that is not in View", 0, inside(5, 3, 0), frame(1, 3), in(5, 3, 1)},
		{"a frame with another node, of a node that is not in View", 0, inside(1, 3, 0), frame(1, 5), in(1, 3, 1)},
		{"a frame without the receiver, of a node that is not in View", 0, inside(5, 3, 0), frame(1, 4), in(5, 3, 1)},
		{"a frame that differs in the sender and in another node", 0, inside(7, 3, 0), frame(1, 1), in(5, 3, 1)},
		{"a frame that differs in two other nodes", 3, inside(15, 3, 0), frame(1, 10), in(13, 3, 1)},
		{"a frame that differs in all nodes", 0, inside(7, 3, 0), frame(1, 0xfff8), in(5, 3, 1)},
		{"a frame with a node of a greater group", 0, inside(7, 3, 0), frame(1, 0x8007), in(5, 3, 1)},
		{"no frame, of a node that is in View", 0, inside(7, 3, 0), silence(1), in(5, 3, 1)},
		{"no frame, of a node that is not in View", 0, inside(5, 3, 0), silence(1), in(5, 3, 0)},
		{"no frame, but a view that agrees, of a node that is in View", 0, inside(7, 3, 0), api.Heard{Node: 1, View: 7}, in(5, 3, 1)},
		{"no frame, but a view that agrees, of a node that is not in View", 0, inside(5, 3, 0), api.Heard{Node: 1, View: 5}, in(5, 3, 0)},
		{"no frame, but a view that differs, of a node that is not in View", 0, inside(5, 3, 0), api.Heard{Node: 1, View: 3}, in(5, 3, 0)},
		{"Took less than Lost has no effect", 0, inside(7, 1, 5), frame(1, 7), in(7, 2, 5)},
		{"Took less than Lost has no effect without a frame", 0, inside(7, 1, 5), silence(1), in(5, 1, 6)},
		{"the first node", nodes - 1, inside(full, 0, 0), frame(0, full), in(full, 1, 0)},
		{"the first node without a frame", nodes - 1, inside(full, 0, 0), silence(0), in(0xfffe, 0, 1)},
		{"the last node", 0, inside(1, 0, 0), frame(nodes-1, 1), in(0x8001, 1, 0)},
		{"the last node without a frame", 0, inside(full, 0, 0), silence(nodes - 1), in(0x7fff, 0, 1)},
		{"the last node with a wrong view", 0, inside(full, 0, 0), frame(nodes-1, 0xbfff), in(0x7fff, 0, 1)},
		{"only the bit of the sender comes", 0, inside(0xa5a5, 0, 0), frame(3, 0xa5a5), in(0xa5ad, 1, 0)},
		{"only the bit of the sender goes", 0, inside(0xa5ad, 0, 0), frame(3, 0xa5a4), in(0xa5a5, 0, 1)},
	})
}

// P2: a node that has left.
func TestOut(t *testing.T) {
	demand(t, []stepCase{
		{"the own slot", 0, outside(6, 0, 0), silence(0), out(6, 0, 0)},
		{"the own slot with a frame", 0, outside(6, 0, 0), frame(0, 6), out(6, 0, 0)},
		{"the own slot with counts", 0, outside(6, 3, 2), silence(0), out(6, 3, 2)},
		{"the own slot with Took less than Lost", 0, outside(6, 2, 3), silence(0), out(6, 2, 3)},
		{"a frame that agrees", 0, outside(6, 3, 2), frame(1, 6), out(6, 3, 2)},
		{"a frame that agrees, of a node that is not in View", 0, outside(4, 3, 2), frame(1, 6), out(4, 3, 2)},
		{"a frame with the node", 0, outside(6, 3, 2), frame(1, 7), out(6, 3, 2)},
		{"a frame that differs", 0, outside(6, 3, 2), frame(1, 2), out(6, 3, 2)},
		{"no frame", 0, outside(6, 3, 2), silence(1), out(6, 3, 2)},
		{"no frame, of a node that is not in View", 0, outside(4, 3, 2), silence(1), out(4, 3, 2)},
		{"a frame, with most counts", 0, outside(6, most, most), frame(1, 6), out(6, most, most)},
		{"no frame, with most counts", 0, outside(6, most, most), silence(1), out(6, most, most)},
		{"the own slot, with most counts", 0, outside(6, most, most), silence(0), out(6, most, most)},
		{"a slot of node -1", 0, outside(6, 3, 2), silence(-1), no(api.ErrRange)},
		{"a slot of node MaxNode", 0, outside(6, 3, 2), frame(nodes, 6), no(api.ErrRange)},
	})
}

// P2: counts that are full, with steps that would increase them and steps that would not.
func TestFull(t *testing.T) {
	demand(t, []stepCase{
		{"Took of MaxOps - 1 and a frame that agrees", 0, inside(7, most-1, 0), frame(1, 7), in(7, most, 0)},
		{"Took of MaxOps and a frame that agrees", 0, inside(7, most, 0), frame(1, 7), no(api.ErrFull)},
		{"Took of MaxOps and a frame of a node that is not in View", 0, inside(5, most, 0), frame(1, 5), no(api.ErrFull)},
		{"Took of MaxOps and a frame that differs", 0, inside(7, most, 0), frame(1, 3), in(5, most, 1)},
		{"Took of MaxOps and no frame", 0, inside(7, most, 0), silence(1), in(5, most, 1)},
		{"Took of MaxOps and no frame of a node that is not in View", 0, inside(5, most, 0), silence(1), in(5, most, 0)},
		{"Took of MaxOps and the own slot", 0, inside(7, most, 0), silence(0), in(7, 0, 0)},
		{"Lost of MaxOps - 1 and no frame", 0, inside(7, 0, most-1), silence(1), in(5, 0, most)},
		{"Lost of MaxOps - 1 and a frame that differs", 0, inside(7, 0, most-1), frame(1, 3), in(5, 0, most)},
		{"Lost of MaxOps and no frame", 0, inside(7, 0, most), silence(1), no(api.ErrFull)},
		{"Lost of MaxOps and a frame that differs", 0, inside(7, 0, most), frame(1, 3), no(api.ErrFull)},
		{"Lost of MaxOps and a frame that differs, of a node that is not in View", 0, inside(5, 0, most), frame(1, 3), no(api.ErrFull)},
		{"Lost of MaxOps and a frame that agrees", 0, inside(7, 0, most), frame(1, 7), in(7, 1, most)},
		{"Lost of MaxOps and no frame of a node that is not in View", 0, inside(5, 0, most), silence(1), in(5, 0, most)},
		{"Lost of MaxOps and the own slot", 0, inside(7, 0, most), silence(0), out(6, 0, 0)},
		{"both of MaxOps and a frame that agrees", 0, inside(7, most, most), frame(1, 7), no(api.ErrFull)},
		{"both of MaxOps and no frame", 0, inside(7, most, most), silence(1), no(api.ErrFull)},
		{"both of MaxOps and no frame of a node that is not in View", 0, inside(5, most, most), silence(1), in(5, most, most)},
		{"both of MaxOps and the own slot", 0, inside(7, most, most), silence(0), in(7, 0, 0)},
	})
}

// P2: the errors of Step and which of two comes first.
func TestErrorsOfStep(t *testing.T) {
	demand(t, []stepCase{
		{"node -1", 0, inside(7, 3, 0), frame(-1, 7), no(api.ErrRange)},
		{"node MaxNode", 0, inside(7, 3, 0), frame(nodes, 7), no(api.ErrRange)},
		{"node -1 without a frame", 0, inside(7, 3, 0), silence(-1), no(api.ErrRange)},
		{"node MaxNode without a frame", 0, inside(7, 3, 0), silence(nodes), no(api.ErrRange)},
		{"the greatest node", 0, inside(7, 3, 0), silence(huge), no(api.ErrRange)},
		{"the smallest node", 0, inside(7, 3, 0), silence(least), no(api.ErrRange)},
		{"a node that is 1 in 32 bits", 0, inside(7, 3, 0), frame(1<<32+1, 7), no(api.ErrRange)},
		{"own = -1", -1, inside(7, 3, 0), frame(1, 7), no(api.ErrForm)},
		{"own = MaxNode", nodes, outside(7, 3, 0), frame(1, 7), no(api.ErrForm)},
		{"own = node = -1", -1, inside(7, 3, 0), silence(-1), no(api.ErrForm)},
		{"own = node = MaxNode", nodes, outside(7, 3, 0), silence(nodes), no(api.ErrForm)},
		{"out, but in View", 0, outside(7, 3, 0), frame(1, 7), no(api.ErrForm)},
		{"not out, but not in View", 0, inside(6, 3, 0), frame(1, 7), no(api.ErrForm)},
		{"Took of -1 in the own slot", 0, inside(7, -1, 0), silence(0), no(api.ErrForm)},
		{"Lost of MaxOps + 1 in the own slot", 0, inside(7, 0, most+1), silence(0), no(api.ErrForm)},
		{"Took of -1 and a frame that agrees", 0, inside(7, -1, 0), frame(1, 7), no(api.ErrForm)},
		{"Took of MaxOps + 1 and a frame that agrees", 0, inside(7, most+1, 0), frame(1, 7), no(api.ErrForm)},
		{"Lost of -1 and no frame", 0, inside(7, 0, -1), silence(1), no(api.ErrForm)},
		{"Lost of MaxOps + 1 and no frame", 0, inside(7, 0, most+1), silence(1), no(api.ErrForm)},
		{"the greatest Took and a frame that agrees", 0, inside(7, huge, 0), frame(1, 7), no(api.ErrForm)},
		{"the greatest Lost and no frame", 0, inside(7, 0, huge), silence(1), no(api.ErrForm)},
		{"a wrong state and a wrong node", 0, inside(6, 3, 0), frame(nodes, 7), no(api.ErrForm)},
		{"a wrong Took and a wrong node", 0, inside(7, -1, 0), frame(-1, 7), no(api.ErrForm)},
		{"a wrong state, Took of MaxOps", 0, inside(6, most, 0), frame(1, 6), no(api.ErrForm)},
		{"a wrong Lost, Took of MaxOps", 0, inside(7, most, most+1), frame(1, 7), no(api.ErrForm)},
		{"a wrong node, Took of MaxOps", 0, inside(7, most, 0), frame(nodes, 7), no(api.ErrRange)},
		{"a wrong node, Lost of MaxOps", 0, inside(7, 0, most), silence(-1), no(api.ErrRange)},
	})
}

// P2: every node in the slot of every node, with frames that agree or differ by one bit or two.
func TestAllPairsOfNodes(t *testing.T) {
	counts := [][2]int{{0, 0}, {1, 2}, {2, 1}, {most - 1, most}, {most, most - 1}, {most, most}}
	for own := range nodes {
		for node := -1; node < nodes+2; node++ {
			for _, view := range []uint16{0, full, 0xa5a5, 0x3fff} {
				for _, n := range counts {
					m := inside(view, n[0], n[1])
					m.Out = !nodesOf(view)[own]
					checkStep(t, own, m, silence(node))
					for a := range nodes {
						checkStep(t, own, m, frame(node, view^1<<a))
						for b := range a + 1 {
							checkStep(t, own, m, frame(node, view^1<<a^1<<b))
						}
					}
				}
			}
		}
	}
}

// P2: every view of four nodes with every view of a frame, in every slot.
func TestAllSmallViews(t *testing.T) {
	for own := range 4 {
		for view := range uint16(16) {
			for told := range uint16(16) {
				for node := range 4 {
					for took := range 3 {
						for lost := range 3 {
							m := inside(view, took, lost)
							m.Out = !nodesOf(view)[own]
							checkStep(t, own, m, frame(node, told))
							checkStep(t, own, m, api.Heard{Node: node, View: told})
						}
					}
				}
			}
		}
	}
}

// P2: many states of all kinds; without an error, the next state is valid too.
func TestManySteps(t *testing.T) {
	r := rand.New(rand.NewSource(1))
	for range 200000 {
		own := r.Intn(nodes)
		m := someMember(r, own)
		h := someHeard(r, m.View, nodes)
		checkStep(t, own, m, h)
		if after, err := Step(own, m, h); err == api.OK && !Right(own, after) {
			t.Fatalf("Step(%d, %v, %v) = %v, which is not valid", own, m, h, after)
		}
	}
}

// P1, P2: lists of slots by hand.
func TestPlay(t *testing.T) {
	agreed, wrong := frame(1, 7), frame(1, 3)
	for _, c := range []struct {
		name      string
		own, many int
		l         []api.Heard
		want      answer
	}{
		{"no slot", 0, 3, nil, in(7, 3, 0)},
		{"one frame", 0, 3, []api.Heard{agreed}, in(7, 4, 0)},
		{"one slot without a frame", 0, 3, []api.Heard{silence(1)}, in(5, 3, 1)},
		{"the own slot", 0, 3, []api.Heard{silence(0)}, in(7, 0, 0)},
		{"a round", 0, 3, []api.Heard{silence(0), frame(1, 7), frame(2, 7)}, in(7, 2, 0)},
		{"a round of another node", 1, 3, []api.Heard{frame(0, 7), silence(1), frame(2, 7)}, in(7, 1, 0)},
		{"a node goes and comes back", 0, 3, []api.Heard{silence(1), silence(1), frame(1, 7)}, in(7, 4, 1)},
		{"a frame with the view before it changed", 0, 3, []api.Heard{silence(1), frame(2, 7)}, in(1, 3, 2)},
		{"a frame with the view after it changed", 0, 3, []api.Heard{silence(1), frame(2, 5)}, in(5, 4, 1)},
		{"all others go", 0, 3, []api.Heard{silence(1), silence(2), silence(1), silence(2)}, in(1, 3, 2)},
		{"a node that lost as many as it took", 0, 1, []api.Heard{frame(1, 4), silence(0)}, in(1, 0, 0)},
		{"a node that lost more than it took", 0, 1, []api.Heard{frame(1, 4), frame(2, 8), silence(0)}, out(0, 0, 0)},
		{"the initial Took is used up in the first own slot", 0, 3, []api.Heard{silence(0), silence(1), silence(0)}, out(4, 0, 0)},
		{"nothing after it left", 0, 3, []api.Heard{silence(0), silence(1), silence(0), frame(2, 4), silence(2), silence(0)}, out(4, 0, 0)},
		{"a node of no group that comes", 0, 3, []api.Heard{frame(15, 7)}, in(0x8007, 4, 0)},
		{"an error in the middle", 0, 3, []api.Heard{agreed, silence(nodes), agreed}, no(api.ErrRange)},
		{"an error as the first slot", 0, 3, []api.Heard{silence(-1), agreed}, no(api.ErrRange)},
		{"an error as the last slot", 0, 3, []api.Heard{agreed, silence(1), silence(-1)}, no(api.ErrRange)},
		{"an error after it left", 0, 3, []api.Heard{silence(0), silence(1), silence(0), silence(nodes), silence(1)}, no(api.ErrRange)},
		{"a wrong own", 3, 3, []api.Heard{agreed}, no(api.ErrRange)},
		{"a wrong many and a wrong node", 0, 0, []api.Heard{silence(-1)}, no(api.ErrRange)},
		{"a wrong many and too many frames", 0, nodes + 1, times(most+1, agreed), no(api.ErrRange)},
		{"MaxOps taken", 0, 3, times(most-3, agreed), in(7, most, 0)},
		{"MaxOps + 1 taken", 0, 3, times(most-2, agreed), no(api.ErrFull)},
		{"MaxOps taken and a frame that differs", 0, 3, append(times(most-3, agreed), wrong), in(5, most, 1)},
		{"MaxOps taken by each round", 0, 3, slices.Repeat(append(times(most-3, agreed), silence(0)), 3), in(7, 0, 0)},
		{"MaxOps + 1 taken after the own slot", 0, 3, joined(times(9, agreed), []api.Heard{silence(0)}, times(most+1, agreed)), no(api.ErrFull)},
		{"MaxOps taken after the own slot", 0, 3, joined(times(9, agreed), []api.Heard{silence(0)}, times(most, agreed)), in(7, most, 0)},
		{"MaxOps lost", 0, 3, times(most, wrong), in(5, 3, most)},
		{"MaxOps + 1 lost", 0, 3, times(most+1, wrong), no(api.ErrFull)},
		{"MaxOps lost and the own slot", 0, 3, append(times(most, wrong), silence(0)), out(4, 0, 0)},
		{"MaxOps lost, the own slot and more", 0, 3, joined(times(most, wrong), []api.Heard{silence(0)}, times(most, wrong)), out(4, 0, 0)},
		{"more than MaxOps slots without an effect", 0, 3, times(3*most, silence(9)), in(7, 3, 0)},
		{"more than MaxOps own slots", 0, 3, times(3*most, silence(0)), in(7, 0, 0)},
		{"too many taken, then a wrong node: two errors", 0, 3, append(times(most-2, agreed), silence(nodes)), no(api.ErrFull)},
		{"a wrong node, then too many taken", 0, 3, append([]api.Heard{silence(nodes)}, times(most-2, agreed)...), no(api.ErrRange)},
		{"a wrong node just before too many taken", 0, 3, joined(times(most-3, agreed), []api.Heard{silence(-1), agreed}), no(api.ErrRange)},
		{"too many taken, then steps without an error", 0, 3, joined(times(most-2, agreed), []api.Heard{silence(0), agreed}), no(api.ErrFull)},
	} {
		if got := as(Play(c.own, c.many, c.l)); got != c.want {
			t.Errorf("%s: Play = %v; want %v", c.name, got, c.want)
		}
		checkPlay(t, c.own, c.many, c.l)
	}
}

// P1, P2: a wrong node at every place of a list.
func TestErrorAtEveryPlace(t *testing.T) {
	r := rand.New(rand.NewSource(2))
	l := someHeards(r, 2, 5, 40)
	for place := range l {
		for _, node := range []int{-1, nodes, huge, least} {
			with := slices.Clone(l)
			with[place].Node = node
			if got := as(Play(2, 5, with)); got != no(api.ErrRange) {
				t.Fatalf("Play with node %d at %d = %v", node, place, got)
			}
		}
	}
}

// P1, P2: many lists of all lengths, of nodes of all groups.
func TestManyLists(t *testing.T) {
	r := rand.New(rand.NewSource(3))
	for range 3000 {
		many := r.Intn(nodes) + 1
		own := r.Intn(many)
		l := someHeards(r, own, many, r.Intn(60))
		checkPlay(t, own, many, l)
		if len(l) > 0 {
			l[r.Intn(len(l))].Node = values[r.Intn(len(values))]
			checkPlay(t, own, many, l)
		}
	}
}

// P1, P2: Play is Step, again and again.
func TestPlayIsSteps(t *testing.T) {
	r := rand.New(rand.NewSource(4))
	for range 200 {
		many := r.Intn(nodes) + 1
		own := r.Intn(many)
		l := someHeards(r, own, many, 50)
		now := as(All(own, many))
		for at, h := range l {
			if got := as(Play(own, many, l[:at])); got != now {
				t.Fatalf("Play(%d, %d, %v) = %v; want %v", own, many, l[:at], got, now)
			}
			now = as(Step(own, now.m, h))
		}
	}
}

// P3: groups by hand.
func TestRounds(t *testing.T) {
	left := func(view uint16) api.Member { return outside(view, 0, 0) }
	for _, c := range []struct {
		name   string
		hears  []uint16
		rounds int
		want   []api.Member
	}{
		{"one node, no round", []uint16{1}, 0, []api.Member{inside(1, 1, 0)}},
		{"one node, one round", []uint16{1}, 1, []api.Member{inside(1, 0, 0)}},
		{"one node, 20 rounds", []uint16{0}, 20, []api.Member{inside(1, 0, 0)}},
		{"two nodes, no round", []uint16{3, 3}, 0, []api.Member{inside(3, 2, 0), inside(3, 2, 0)}},
		{"two nodes", []uint16{3, 3}, 1, []api.Member{inside(3, 1, 0), inside(3, 0, 0)}},
		{"two nodes, 20 rounds", []uint16{3, 3}, 20, []api.Member{inside(3, 1, 0), inside(3, 0, 0)}},
		{"two nodes that do not hear themselves", []uint16{2, 1}, 1, []api.Member{inside(3, 1, 0), inside(3, 0, 0)}},
		{"two nodes that hear nodes that do not exist", []uint16{0xfffe, 0xfffd}, 20, []api.Member{inside(3, 1, 0), inside(3, 0, 0)}},
		{"two nodes that hear only themselves", []uint16{1, 2}, 1, []api.Member{inside(1, 0, 1), inside(2, 0, 0)}},
		{"two nodes that hear only nodes that do not exist", []uint16{0xfffc, 0xfffc}, 1, []api.Member{inside(1, 0, 1), inside(2, 0, 0)}},
		{"two nodes, none received, one round", []uint16{0, 0}, 1, []api.Member{inside(1, 0, 1), inside(2, 0, 0)}},
		{"two nodes, none received, two rounds", []uint16{0, 0}, 2, []api.Member{left(0), inside(2, 0, 0)}},
		{"two nodes, none received, 20 rounds", []uint16{0, 0}, 20, []api.Member{left(0), inside(2, 0, 0)}},
		{"two nodes, the second is not received, one round", []uint16{1, 3}, 1, []api.Member{inside(1, 0, 1), inside(3, 0, 0)}},
		{"two nodes, the second is not received, two rounds", []uint16{1, 3}, 2, []api.Member{left(0), left(0)}},
		{"three nodes, node 1 is not received, no round", []uint16{5, 7, 5}, 0, []api.Member{inside(7, 3, 0), inside(7, 3, 0), inside(7, 3, 0)}},
		{"three nodes, node 1 is not received, one round", []uint16{5, 7, 5}, 1, []api.Member{inside(5, 1, 1), inside(3, 0, 1), inside(5, 0, 0)}},
		{"three nodes, node 1 is not received, two rounds", []uint16{5, 7, 5}, 2, []api.Member{inside(5, 1, 0), left(0), inside(5, 0, 0)}},
		{"three nodes, node 1 is not received, 20 rounds", []uint16{5, 7, 5}, 20, []api.Member{inside(5, 1, 0), left(0), inside(5, 0, 0)}},
		{"two parts, no round", []uint16{3, 3, 12, 12}, 0, []api.Member{inside(15, 4, 0), inside(15, 4, 0), inside(15, 4, 0), inside(15, 4, 0)}},
		{"two parts, one round", []uint16{3, 3, 12, 12}, 1, []api.Member{inside(3, 1, 2), inside(3, 0, 2), inside(12, 1, 0), inside(12, 0, 0)}},
		{"two parts, two rounds", []uint16{3, 3, 12, 12}, 2, []api.Member{left(2), left(1), inside(12, 1, 0), inside(12, 0, 0)}},
		{"two parts, 20 rounds", []uint16{3, 3, 12, 12}, 20, []api.Member{left(2), left(1), inside(12, 1, 0), inside(12, 0, 0)}},
	} {
		got, err := Rounds(c.hears, c.rounds)
		if err != api.OK || !slices.Equal(got, c.want) {
			t.Errorf("%s: Rounds = %v, %d; want %v, OK", c.name, got, err, c.want)
		}
		checkRounds(t, c.hears, c.rounds)
	}
}

// P3: all frames are received, in groups of all sizes: all nodes stay, also after more than MaxOps accepted frames.
func TestAllReceived(t *testing.T) {
	for many := 1; many <= nodes; many++ {
		first, _ := All(0, many)
		for rounds := range 21 {
			want := []api.Member{}
			for node := range many {
				m := first
				if rounds > 0 {
					m.Took = many - 1 - node
				}
				want = append(want, m)
			}
			for _, hears := range []uint16{full, first.View} {
				got, err := Rounds(same(many, hears), rounds)
				if err != api.OK || !slices.Equal(got, want) {
					t.Fatalf("%d rounds of %d nodes = %v, %d; want %v", rounds, many, got, err, want)
				}
			}
		}
	}
}

// P3: no frame is received, in groups of all sizes: each node soon sees itself alone, or no one.
func TestNoneReceived(t *testing.T) {
	for many := 1; many <= nodes; many++ {
		for rounds := range 21 {
			checkRounds(t, make([]uint16, many), rounds)
		}
		got, err := Rounds(make([]uint16, many), 20)
		if err != api.OK || len(got) != many {
			t.Fatalf("%d nodes = %v, %d", many, got, err)
		}
		for node, m := range got {
			if m.Out && m.View != 0 || !m.Out && m.View != 1<<node || m.Took+m.Lost > 0 {
				t.Errorf("of %d nodes node %d ends as %v", many, node, m)
			}
		}
	}
}

// P3: a node that nobody receives is in no view after a round, and the others go on among themselves.
func TestOneNotReceived(t *testing.T) {
	for many := 3; many <= nodes; many++ {
		all, _ := All(0, many)
		for mute := range many {
			hears := same(many, full&^(1<<mute))
			for rounds := range 21 {
				checkRounds(t, hears, rounds)
			}
			got, _ := Rounds(hears, 20)
			for node, m := range got {
				if node != mute && (m.Out || m.View != all.View&^(1<<mute)) || node == mute && !m.Out {
					t.Errorf("of %d nodes, where %d is not received, node %d ends as %v", many, mute, node, m)
				}
			}
		}
	}
}

// P3: every division of a group into two parts that do not hear each other.
func TestTwoParts(t *testing.T) {
	for many := 2; many < 8; many++ {
		for part := range 1 << many {
			hears := make([]uint16, many)
			for node := range hears {
				hears[node] = uint16(part)
				if part>>node&1 == 0 {
					hears[node] = ^uint16(part)
				}
			}
			for rounds := range 5 {
				checkRounds(t, hears, rounds)
			}
			checkRounds(t, hears, 20)
		}
	}
}

// P3: every group of up to three nodes for every number of rounds, and of four nodes for some.
func TestAllSmallGroups(t *testing.T) {
	for rounds := -1; rounds < 22; rounds++ {
		for code := range 512 {
			a, b, c := uint16(code%8), uint16(code/8%8), uint16(code/64)
			checkRounds(t, []uint16{a, b, c}, rounds)
			checkRounds(t, []uint16{a, b}, rounds)
			checkRounds(t, []uint16{a}, rounds)
		}
	}
	for _, rounds := range []int{1, 2, 3, 20} {
		for code := range 1 << 12 {
			a, b, c, d := uint16(code), uint16(code>>3), uint16(code>>6), uint16(code>>9)
			checkRounds(t, []uint16{a << 1, b&1 | b&6<<1, c&3 | c&4<<1, d & 7}, rounds)
		}
	}
}

// P3: many groups of all sizes.
func TestManyGroups(t *testing.T) {
	r := rand.New(rand.NewSource(5))
	for range 3000 {
		checkRounds(t, someHears(r, r.Intn(nodes)+1), r.Intn(21))
	}
}

// P3: the errors of Rounds.
func TestErrorsOfRounds(t *testing.T) {
	for _, c := range []struct {
		name   string
		hears  []uint16
		rounds int
		want   api.Errno
	}{
		{"no node", nil, 1, api.ErrRange},
		{"no node, no round", nil, 0, api.ErrRange},
		{"one node", same(1, full), 1, api.OK},
		{"MaxNode nodes", same(nodes, full), 1, api.OK},
		{"MaxNode nodes, 20 rounds", same(nodes, 0x5555), 20, api.OK},
		{"MaxNode + 1 nodes", same(nodes+1, full), 1, api.ErrRange},
		{"MaxNode + 1 nodes, no round", same(nodes+1, full), 0, api.ErrRange},
		{"very many nodes", same(100000, full), 1, api.ErrRange},
		{"rounds = -1", same(3, full), -1, api.ErrRange},
		{"rounds = 0", same(3, full), 0, api.OK},
		{"rounds = 20", same(3, full), 20, api.OK},
		{"rounds = 21", same(3, full), 21, api.ErrRange},
		{"the greatest number of rounds", same(3, full), huge, api.ErrRange},
		{"the smallest number of rounds", same(3, full), least, api.ErrRange},
		{"rounds of 1 in 32 bits", same(3, full), 1<<32 + 1, api.ErrRange},
		{"no node and rounds = -1", nil, -1, api.ErrRange},
		{"MaxNode + 1 nodes and rounds = 21", same(nodes+1, full), 21, api.ErrRange},
	} {
		got, err := Rounds(c.hears, c.rounds)
		if err != c.want || err == api.OK && len(got) != len(c.hears) || err != api.OK && len(got) > 0 {
			t.Errorf("%s: Rounds = %v, %d; want the error %d", c.name, got, err, c.want)
		}
	}
	for _, rounds := range values {
		for many := range nodes + 3 {
			checkRounds(t, same(many, 0x5a3c), rounds)
		}
	}
}

// P3: the own bit and the bits of nodes that do not exist have no effect.
func TestOtherBitsHaveNoEffect(t *testing.T) {
	r := rand.New(rand.NewSource(6))
	for range 1000 {
		many := r.Intn(nodes) + 1
		hears, rounds := someHears(r, many), r.Intn(21)
		want, _ := Rounds(hears, rounds)
		for node := range hears {
			hears[node] ^= 1 << node & uint16(r.Intn(1<<16))
			hears[node] ^= uint16(r.Intn(1<<16)) >> many << many
		}
		if got, err := Rounds(hears, rounds); err != api.OK || !slices.Equal(got, want) {
			t.Fatalf("%d rounds of %x = %v, %d; want %v", rounds, hears, got, err, want)
		}
	}
}

// P3: the state of a node is what Play makes of all that came to it, slot by slot.
func TestRoundsArePlays(t *testing.T) {
	r := rand.New(rand.NewSource(7))
	for range 40 {
		many, rounds := r.Intn(nodes)+1, r.Intn(9)
		hears := someHears(r, many)
		came := make([][]api.Heard, many)
		for turn := range many * rounds {
			sender := turn % many
			sent, _ := Play(sender, many, came[sender])
			for node := range many {
				h := api.Heard{Node: sender, Came: hears[node]>>sender&1 == 1 && !sent.Out, View: sent.View}
				came[node] = append(came[node], h)
			}
		}
		got, err := Rounds(hears, rounds)
		if err != api.OK || len(got) != many {
			t.Fatalf("%d rounds of %x = %v, %d", rounds, hears, got, err)
		}
		for node, m := range got {
			if want := as(Play(node, many, came[node])); want != right(m) {
				t.Fatalf("after %d rounds of %x node %d is %v; want %v", rounds, hears, node, m, want)
			}
		}
	}
}

// The property of the whole: nodes that receive the same frames have the same view, as long as they receive each other and none of them has left.
func TestSameFramesSameView(t *testing.T) {
	r := rand.New(rand.NewSource(8))
	pairs := 0
	for range 20000 {
		many := r.Intn(nodes-1) + 2
		hears := someHears(r, many)
		a, b := r.Intn(many), r.Intn(many)
		hears[a] |= 1<<a | 1<<b
		hears[b] = hears[a]
		got, err := Rounds(hears, r.Intn(21))
		if err != api.OK {
			t.Fatalf("Rounds of %x: error %d", hears, err)
		}
		if a == b || got[a].Out || got[b].Out {
			continue
		}
		pairs++
		if got[a].View != got[b].View {
			t.Fatalf("in %x the nodes %d and %d end as %v and %v", hears, a, b, got[a], got[b])
		}
	}
	if pairs < 1000 {
		t.Errorf("only %d pairs of nodes stayed", pairs)
	}
}

// The same property for any frames, whoever sent them.
func TestSameFramesSameState(t *testing.T) {
	r := rand.New(rand.NewSource(9))
	for range 2000 {
		many := r.Intn(nodes-2) + 3
		isOfOne := func(h api.Heard) bool { return h.Node == 0 || h.Node == 1 }
		l := slices.DeleteFunc(someHeards(r, 0, many, 50), isOfOne)
		first, second := as(Play(0, many, l)), as(Play(1, many, l))
		if first != second {
			t.Fatalf("after %v node 0 is %v and node 1 is %v", l, first, second)
		}
	}
}

// AA1: calls in between, also wrong ones, change no result.
func TestNoStateIsKept(t *testing.T) {
	l, hears := []api.Heard{silence(1), frame(2, 5), silence(0)}, []uint16{5, 7, 5}
	for _, v := range values {
		checkStep(t, v, inside(7, 3, 0), frame(1, 7))
		checkStep(t, 0, inside(7, v, 0), frame(1, 7))
		checkStep(t, 0, inside(7, 3, 0), frame(v, 7))
		checkPlay(t, v, 3, l)
		checkPlay(t, 0, v, l)
		checkRounds(t, hears, v)
		checkStep(t, 0, inside(7, 3, 0), frame(1, 7))
		checkPlay(t, 0, 3, l)
		checkRounds(t, hears, 2)
	}
}

// AA2: the spare capacity of the lists is neither read nor modified.
func TestSpareCapacityIsLeftAlone(t *testing.T) {
	l := []api.Heard{silence(1), frame(2, 5), silence(nodes), frame(0, full)}
	checkPlay(t, 0, 3, l[:2])
	if want := []api.Heard{silence(1), frame(2, 5), silence(nodes), frame(0, full)}; !slices.Equal(l, want) {
		t.Errorf("the slots have become %v", l)
	}
	hears := []uint16{5, 7, 5, 0, full}
	for rounds := range 21 {
		checkRounds(t, hears[:3], rounds)
		checkRounds(t, hears[:0], rounds)
	}
	if want := []uint16{5, 7, 5, 0, full}; !slices.Equal(hears, want) {
		t.Errorf("what the nodes hear has become %x", hears)
	}
}

// AA2: each call of Rounds returns new memory.
func TestResultsAreNew(t *testing.T) {
	for rounds := range 3 {
		hears := []uint16{5, 7, 5}
		one, _ := Rounds(hears, rounds)
		other, _ := Rounds(hears, rounds)
		want := slices.Clone(other)
		for node := range one {
			one[node] = outside(0, 9, 9)
			hears[node] = 0
		}
		if !slices.Equal(other, want) {
			t.Errorf("the result of %d rounds has become %v; want %v", rounds, other, want)
		}
	}
}

// AA3: nil and an empty slice are the same argument.
func TestNilAndEmpty(t *testing.T) {
	for _, v := range values {
		checkPlay(t, 0, v, nil)
		checkPlay(t, 0, v, []api.Heard{})
		checkRounds(t, nil, v)
		checkRounds(t, []uint16{}, v)
	}
}
