package guard

import (
	"math"
	"math/rand"
	"slices"
	"testing"

	"slotwright/api"
	"slotwright/slots"
)

const (
	huge    = math.MaxInt
	least   = math.MinInt
	last    = api.MaxTime
	most    = api.MaxOps
	nodes   = api.MaxNode
	longest = 1 << 20
)

func slot(node, from, long int) api.Slot { return api.Slot{Node: node, From: from, Long: long} }

func try(node, at, long int) api.Try { return api.Try{Node: node, At: at, Long: long} }

// schedule is a period and its slots.
type schedule struct {
	period int
	l      []api.Slot
}

// two is the schedule of the chapter's example: 13 to 15 is a slot of node 1.
func two() schedule { return schedule{10, []api.Slot{slot(0, 0, 3), slot(1, 3, 3)}} }

// row returns n slots of one time each, one after the other, for all nodes in turn.
func row(n int) []api.Slot {
	l := make([]api.Slot, n)
	for k := range l {
		l[k] = slot(k%nodes, k, 1)
	}
	return l
}

// turns returns n transmissions of one time each that fit into such a row, one after the other.
func turns(n int) []api.Try {
	tries := make([]api.Try, n)
	for k := range tries {
		tries[k] = try(k%nodes, k, 1)
	}
	return tries
}

// same returns n times the value v.
func same[T any](n int, v T) []T { return slices.Repeat([]T{v}, n) }

// painted writes out a cycle of a valid schedule: the index of the slot at each time, or -1.
func painted(s schedule) []int {
	cycle := same(s.period, -1)
	for k, part := range s.l {
		for at := range part.Long {
			cycle[part.From+at] = k
		}
	}
	return cycle
}

// through tells, time by time, whether t stays in one slot of its node and in one cycle.
func through(s schedule, cycle []int, t api.Try) bool {
	first := cycle[t.At%s.period]
	if first < 0 || s.l[first].Node != t.Node {
		return false
	}
	for at := t.At; at < t.At+t.Long; at++ {
		if cycle[at%s.period] != first || at/s.period != t.At/s.period {
			return false
		}
	}
	return true
}

// meet tells, time by time, whether a and b have a time in common.
func meet(a, b api.Try) bool {
	for at := a.At; at < a.At+a.Long; at++ {
		if b.At <= at && at <= b.At+b.Long-1 {
			return true
		}
	}
	return false
}

// expected tells what May and Heard must return for valid arguments.
func expected(s schedule, tries []api.Try) (may, heard []bool) {
	cycle := painted(s)
	for _, t := range tries {
		may = append(may, through(s, cycle, t))
	}
	for a := range tries {
		alone := may[a]
		for b := range tries {
			if a != b && may[b] && alone {
				alone = !meet(tries[a], tries[b])
			}
		}
		heard = append(heard, alone)
	}
	return may, heard
}

// demand fails the test unless both functions return these values and no error.
func demand(t *testing.T, name string, s schedule, tries []api.Try, may, heard []bool) {
	t.Helper()
	l, said := slices.Clone(s.l), slices.Clone(tries)
	if got, err := May(s.period, s.l, tries); err != api.OK || !slices.Equal(got, may) {
		t.Fatalf("%s: May(%v, %v) = %v, %d; want %v, OK", name, s, tries, got, err, may)
	}
	if got, err := Heard(s.period, s.l, tries); err != api.OK || !slices.Equal(got, heard) {
		t.Fatalf("%s: Heard(%v, %v) = %v, %d; want %v, OK", name, s, tries, got, err, heard)
	}
	if !slices.Equal(s.l, l) || !slices.Equal(tries, said) {
		t.Fatalf("%s: the arguments %v, %v have become %v, %v", name, l, said, s.l, tries)
	}
}

// compare demands what the reference finds.
func compare(t *testing.T, s schedule, tries []api.Try) {
	t.Helper()
	may, heard := expected(s, tries)
	demand(t, "against the reference", s, tries, may, heard)
}

// checkError demands that both functions return this error and no values, and leave the arguments alone.
func checkError(t *testing.T, name string, s schedule, tries []api.Try, want api.Errno) {
	t.Helper()
	l, said := slices.Clone(s.l), slices.Clone(tries)
	if got, err := May(s.period, s.l, tries); err != want || len(got) > 0 {
		t.Errorf("%s: May = %v, %d; want no values, %d", name, got, err, want)
	}
	if got, err := Heard(s.period, s.l, tries); err != want || len(got) > 0 {
		t.Errorf("%s: Heard = %v, %d; want no values, %d", name, got, err, want)
	}
	if !slices.Equal(s.l, l) || !slices.Equal(tries, said) {
		t.Errorf("%s: the arguments %v, %v have become %v, %v", name, l, said, s.l, tries)
	}
}

// wrongTries are transmissions of which one number, or all of them, are out of range.
func wrongTries() map[string]api.Try {
	return map[string]api.Try{
		"a Node of -1":                      try(-1, 0, 1),
		"a Node of MaxNode":                 try(nodes, 0, 1),
		"the smallest Node":                 try(least, 0, 1),
		"the greatest Node":                 try(huge, 0, 1),
		"an At of -1":                       try(0, -1, 1),
		"an At of -1 that ends at 0":        try(0, -1, 2),
		"an At a whole cycle before 0":      try(0, -10, 1),
		"an At of MaxTime + 1":              try(0, last+1, 1),
		"the smallest At":                   try(0, least, 1),
		"the greatest At":                   try(0, huge, 1),
		"the greatest At, the longest Long": try(0, huge, longest),
		"a Long of 0":                       try(0, 0, 0),
		"a Long of -1":                      try(0, 0, -1),
		"a Long of 2^20 + 1":                try(0, 0, longest+1),
		"the smallest Long":                 try(0, 0, least),
		"the greatest Long":                 try(0, 0, huge),
		"the greatest Long at MaxTime":      try(0, last, huge),
		"numbers that are right in 32 bits": try(1<<32, 1<<41, 1<<32+1),
		"a Node that is right in 32 bits":   try(1<<32, 0, 1),
		"a Long that is right in 32 bits":   try(0, 0, 1<<32+1),
		"all numbers too small":             try(least, least, least),
		"all numbers too great":             try(huge, huge, huge),
	}
}

// N1: single transmissions by hand; alone, a transmission is heard if it is let through.
func TestOneTransmission(t *testing.T) {
	again := schedule{10, []api.Slot{slot(1, 1, 2), slot(1, 3, 1), slot(0, 4, 2), slot(1, 8, 2)}}
	ends := schedule{10, []api.Slot{slot(0, 0, 2), slot(0, 8, 2)}}
	full := schedule{10, []api.Slot{slot(0, 0, 10)}}
	longer := schedule{20, []api.Slot{slot(4, 13, 3)}}
	long := schedule{longest, []api.Slot{slot(nodes-1, 0, longest)}}
	unit := schedule{1, []api.Slot{slot(3, 0, 1)}}
	edge := schedule{longest, []api.Slot{slot(3, 0, 1), slot(6, longest-1, 1)}}
	for _, c := range []struct {
		name string
		s    schedule
		try  api.Try
		want bool
	}{
		{"the example", longer, try(4, 13, 4), false},
		{"the example, one time shorter", longer, try(4, 13, 3), true},
		{"the example, one cycle later", longer, try(4, 33, 4), false},
		{"the example, one cycle later and one time shorter", longer, try(4, 33, 3), true},
		{"it fills its slot at 0", two(), try(0, 0, 3), true},
		{"it fills its slot", two(), try(1, 3, 3), true},
		{"it fills its slot of a later cycle", two(), try(1, 13, 3), true},
		{"the first time of a slot", two(), try(1, 3, 1), true},
		{"a time within a slot", two(), try(1, 4, 1), true},
		{"the last time of a slot", two(), try(1, 5, 1), true},
		{"the first times of a slot", two(), try(1, 3, 2), true},
		{"the last times of a slot", two(), try(1, 4, 2), true},
		{"it starts a time too early", two(), try(1, 2, 1), false},
		{"it starts a time too early and ends with its slot", two(), try(1, 2, 4), false},
		{"it starts in a gap a time too early", longer, try(4, 12, 4), false},
		{"it starts in a gap a time too early and is as long as its slot", longer, try(4, 12, 3), false},
		{"it ends a time too late, in a gap", two(), try(1, 3, 4), false},
		{"it ends a time too late, in a slot of another node", two(), try(0, 0, 4), false},
		{"it starts with the last time and ends too late", two(), try(1, 5, 2), false},
		{"it starts right after its slot", two(), try(1, 6, 1), false},
		{"it is around its slot", longer, try(4, 12, 5), false},
		{"in a gap", two(), try(0, 7, 1), false},
		{"in a slot of another node", two(), try(0, 3, 1), false},
		{"it fills a slot of another node", two(), try(0, 3, 3), false},
		{"in a slot of another, greater node", two(), try(1, 0, 1), false},
		{"a node without a slot", two(), try(2, 0, 1), false},
		{"over two neighbouring slots of its node", again, try(1, 1, 3), false},
		{"from one neighbouring slot into the other", again, try(1, 2, 2), false},
		{"in the first neighbouring slot", again, try(1, 1, 2), true},
		{"in the second neighbouring slot", again, try(1, 3, 1), true},
		{"in the last of several slots", again, try(1, 18, 2), true},
		{"from one slot of its node over another's to the next", again, try(1, 3, 7), false},
		{"from the end of a cycle into the next", ends, try(0, 9, 2), false},
		{"from the end of a later cycle into the next", ends, try(0, 48, 4), false},
		{"at the end of a cycle", ends, try(0, 8, 2), true},
		{"at the start of the next cycle", ends, try(0, 10, 2), true},
		{"from the end of a filled cycle into the next", full, try(0, 9, 2), false},
		{"as long as the period", full, try(0, 0, 10), true},
		{"as long as the period, in a later cycle", full, try(0, 70, 10), true},
		{"as long as the period, from its second time on", full, try(0, 1, 10), false},
		{"as long as the period, from its last time on", full, try(0, 9, 10), false},
		{"one longer than the period", full, try(0, 0, 11), false},
		{"twice as long as the period", full, try(0, 0, 20), false},
		{"one longer than the period, from within a slot", two(), try(0, 0, 11), false},
		{"as long as the period, from within a slot", two(), try(0, 1, 10), false},
		{"as long as the period and one slot", two(), try(0, 0, 13), false},
		{"much longer than the period", full, try(0, 0, longest), false},
		{"period 1", unit, try(3, 77, 1), true},
		{"period 1, longer", unit, try(3, 77, 2), false},
		{"period 1, another node", unit, try(2, 77, 1), false},
		{"period 1, latest time", unit, try(3, last, 1), true},
		{"the longest transmission", long, try(nodes-1, 0, longest), true},
		{"the longest transmission, a time later", long, try(nodes-1, 1, longest), false},
		{"the longest transmission, a time before a cycle", long, try(nodes-1, longest-1, longest), false},
		{"the longest transmission of the latest time", long, try(nodes-1, last, longest), true},
		{"the longest transmission, one before the latest time", long, try(nodes-1, last-1, longest), false},
		{"the latest time", edge, try(3, last, 1), true},
		{"the latest time, a time longer", edge, try(3, last, 2), false},
		{"the latest time, another node", edge, try(6, last, 1), false},
		{"one before the latest time", edge, try(6, last-1, 1), true},
		{"one before the latest time, a time longer", edge, try(6, last-1, 2), false},
		{"the latest time of a short period, in a gap", two(), try(0, last, 1), false}, // 2^40 is 6 modulo 10
		{"a time in a slot near the latest one", two(), try(1, last-3, 3), true},
		{"no slot", schedule{10, nil}, try(0, 0, 1), false},
		{"no slot, latest time", schedule{longest, nil}, try(nodes-1, last, longest), false},
	} {
		want := []bool{c.want}
		demand(t, c.name, c.s, []api.Try{c.try}, want, want)
	}
}

// N1: several transmissions by hand: y is heard, o is let through but not heard, n is blocked.
func TestSeveralTransmissions(t *testing.T) {
	five := schedule{20, []api.Slot{slot(0, 0, 5), slot(1, 5, 5), slot(0, 10, 5)}}
	for _, c := range []struct {
		name  string
		s     schedule
		tries []api.Try
		want  string
	}{
		{"no transmission", five, nil, ""},
		{"no transmission and no slot", schedule{1, nil}, nil, ""},
		{"no slot", schedule{20, nil}, []api.Try{try(0, 0, 1), try(1, 0, 1)}, "nn"},
		{"one after the other", two(), []api.Try{try(0, 0, 3), try(1, 3, 3)}, "yy"},
		{"let through and blocked", two(), []api.Try{try(1, 13, 3), try(1, 13, 4), try(0, 3, 1)}, "ynn"},
		{"equal", five, []api.Try{try(0, 1, 2), try(0, 1, 2)}, "oo"},
		{"three equal ones", five, []api.Try{try(0, 1, 2), try(0, 1, 2), try(0, 1, 2)}, "ooo"},
		{"equal ones of one time", five, []api.Try{try(1, 7, 1), try(1, 7, 1)}, "oo"},
		{"equal and blocked", five, []api.Try{try(1, 1, 2), try(1, 1, 2)}, "nn"},
		{"they touch", five, []api.Try{try(0, 0, 2), try(0, 2, 3)}, "yy"},
		{"they touch, the later one first", five, []api.Try{try(0, 2, 3), try(0, 0, 2)}, "yy"},
		{"they overlap by one time", five, []api.Try{try(0, 0, 3), try(0, 2, 3)}, "oo"},
		{"they overlap by one time, the later one first", five, []api.Try{try(0, 2, 3), try(0, 0, 3)}, "oo"},
		{"one within the other", five, []api.Try{try(0, 0, 5), try(0, 2, 1)}, "oo"},
		{"the other within the one", five, []api.Try{try(0, 2, 1), try(0, 0, 5)}, "oo"},
		{"the same start", five, []api.Try{try(0, 1, 1), try(0, 1, 4)}, "oo"},
		{"the same end", five, []api.Try{try(0, 1, 4), try(0, 4, 1)}, "oo"},
		{"a chain: the outer ones touch", five, []api.Try{try(0, 0, 2), try(0, 1, 2), try(0, 2, 3)}, "ooo"},
		{"an overlap and one apart", five, []api.Try{try(0, 0, 2), try(0, 3, 2), try(0, 1, 1)}, "oyo"},
		{"an overlap with a blocked one of another node", five, []api.Try{try(0, 0, 5), try(1, 0, 5)}, "yn"},
		{"an overlap with a blocked one of the same node", five, []api.Try{try(0, 0, 5), try(0, 4, 2)}, "yn"},
		{"a blocked one first", five, []api.Try{try(1, 4, 2), try(0, 0, 5), try(1, 5, 5)}, "nyy"},
		{"a blocked one over everything", five, []api.Try{try(0, 0, 5), try(0, 0, 20), try(1, 5, 5), try(0, 10, 5)}, "ynyy"},
		{"a blocked one between two that touch", five, []api.Try{try(0, 0, 2), try(0, 4, 2), try(0, 2, 3)}, "yny"},
		{"two that overlap only by a blocked one", five, []api.Try{try(0, 3, 2), try(1, 4, 2), try(1, 6, 2)}, "yny"},
		{"the same times of two cycles", five, []api.Try{try(0, 0, 5), try(0, 20, 5)}, "yy"},
		{"the same times of two slots of a node", five, []api.Try{try(0, 0, 5), try(0, 10, 5)}, "yy"},
		{"an overlap in one of two cycles", five, []api.Try{try(1, 5, 3), try(1, 25, 3), try(1, 27, 3)}, "yoo"},
		{"touching cycles", schedule{4, []api.Slot{slot(2, 0, 4)}}, []api.Try{try(2, 4, 4), try(2, 0, 4), try(2, 8, 4)}, "yyy"},
		{"the longest ones touch", schedule{longest, []api.Slot{slot(2, 0, longest)}}, []api.Try{try(2, 0, longest), try(2, longest, longest), try(2, last, longest)}, "yyy"},
		{"the longest one and its last time", schedule{longest, []api.Slot{slot(2, 0, longest)}}, []api.Try{try(2, last-longest, longest), try(2, last-1, 1), try(2, last, 1)}, "ooy"},
		{"the latest time twice", schedule{1, []api.Slot{slot(2, 0, 1)}}, []api.Try{try(2, last, 1), try(2, last-1, 1), try(2, last, 1)}, "oyo"},
	} {
		var may, heard []bool
		for _, mark := range c.want {
			may, heard = append(may, mark != 'n'), append(heard, mark == 'y')
		}
		demand(t, c.name, c.s, c.tries, may, heard)
	}
}

// N1: MaxOps transmissions are allowed, MaxOps slots too.
func TestMostTransmissions(t *testing.T) {
	yes, no := same(most, true), same(most, false)
	demand(t, "one in each slot", schedule{most, row(most)}, turns(most), yes, yes)
	demand(t, "one in each slot of a long period", schedule{longest, row(most)}, turns(most), yes, yes)
	demand(t, "all at once", two(), same(most, try(1, 3, 3)), yes, no)
	demand(t, "all blocked", two(), same(most, try(1, 3, 4)), no, no)
	demand(t, "no slot", schedule{10, nil}, turns(most), no, no)
	ends := turns(most)
	ends[most-1] = ends[0]
	heard := slices.Clone(yes)
	heard[0], heard[most-1] = false, false
	demand(t, "the first and the last are equal", schedule{most, row(most)}, ends, yes, heard)
	ends[most-1] = try(0, most-1, 1)
	other := slices.Clone(yes)
	other[most-1] = false
	demand(t, "the last is blocked", schedule{most, row(most)}, ends, other, other)
}

// N1: one more transmission than MaxOps, and one whose numbers are out of range, are ErrRange, wherever it stands.
func TestTransmissionsOutOfRange(t *testing.T) {
	checkError(t, "MaxOps + 1 transmissions", schedule{longest, row(most)}, turns(most+1), api.ErrRange)
	checkError(t, "MaxOps + 1 blocked transmissions", two(), same(most+1, try(2, 0, 1)), api.ErrRange)
	checkError(t, "MaxOps + 1 transmissions, no slot", schedule{10, nil}, turns(most+1), api.ErrRange)
	checkError(t, "very many transmissions", two(), same(100000, try(0, 0, 1)), api.ErrRange)
	for name, wrong := range wrongTries() {
		checkError(t, name, two(), []api.Try{wrong}, api.ErrRange)
		checkError(t, name+", no slot", schedule{1, nil}, []api.Try{wrong}, api.ErrRange)
		checkError(t, name+", first", two(), []api.Try{wrong, try(0, 0, 1), try(1, 0, 1)}, api.ErrRange)
		checkError(t, name+", in the middle", two(), []api.Try{try(0, 0, 1), wrong, try(1, 0, 1)}, api.ErrRange)
		checkError(t, name+", last", two(), []api.Try{try(0, 0, 1), try(1, 0, 1), wrong}, api.ErrRange)
		checkError(t, name+", last of MaxOps", two(), append(turns(most-1), wrong), api.ErrRange)
		checkError(t, name+", after MaxOps", two(), append(turns(most), wrong), api.ErrRange)
		checkError(t, name+", everywhere", two(), same(most+1, wrong), api.ErrRange)
	}
}

// N1: slots that are not valid are ErrForm, whatever is wrong with the transmissions.
func TestInvalidSlots(t *testing.T) {
	for name, s := range map[string]schedule{
		"a period of 0":                       {0, nil},
		"a period of 0 with a slot":           {0, []api.Slot{slot(0, 0, 1)}},
		"a period of -1":                      {-1, nil},
		"the smallest period":                 {least, two().l},
		"a period of 2^20 + 1":                {longest + 1, two().l},
		"the greatest period":                 {huge, two().l},
		"a period shorter than the slots":     {5, two().l},
		"one slot too many":                   {longest, row(most + 1)},
		"a node of -1":                        {10, []api.Slot{slot(-1, 0, 3)}},
		"a node of MaxNode":                   {10, []api.Slot{slot(0, 0, 3), slot(nodes, 3, 3)}},
		"a slot of no time":                   {10, []api.Slot{slot(0, 0, 0)}},
		"a slot before 0":                     {10, []api.Slot{slot(0, -1, 3)}},
		"overlapping slots":                   {10, []api.Slot{slot(0, 0, 3), slot(1, 2, 3)}},
		"overlapping slots of one node":       {10, []api.Slot{slot(0, 0, 3), slot(0, 2, 3)}},
		"the same slot twice":                 {10, []api.Slot{slot(0, 0, 3), slot(0, 0, 3)}},
		"slots in the wrong order":            {10, []api.Slot{slot(1, 3, 3), slot(0, 0, 3)}},
		"a slot that ends a time too late":    {10, []api.Slot{slot(0, 8, 3)}},
		"a slot from the end into a cycle":    {10, []api.Slot{slot(0, 9, 2)}},
		"a slot whose end overflows":          {10, []api.Slot{slot(0, 1, huge)}},
		"the smallest and the greatest start": {10, []api.Slot{slot(0, least, 1), slot(1, huge, 1)}},
	} {
		if slots.Right(s.period, s.l) {
			t.Errorf("%s: the schedule is valid", name)
		}
		checkError(t, name, s, nil, api.ErrForm)
		checkError(t, name+", a right transmission", s, []api.Try{try(0, 0, 1)}, api.ErrForm)
		checkError(t, name+", MaxOps + 1 transmissions", s, turns(most+1), api.ErrForm)
		for also, wrong := range wrongTries() {
			checkError(t, name+", "+also, s, []api.Try{try(0, 0, 1), wrong}, api.ErrForm)
			checkError(t, name+", very often "+also, s, same(most+1, wrong), api.ErrForm)
		}
	}
}

// N1: every combination of numbers around the limits, alone and beside a right transmission.
func TestNumbersNearLimits(t *testing.T) {
	owners := []int{least, -1 << 32, -1, 0, 1, nodes - 2, nodes - 1, nodes, nodes + 1, 1 << 32, huge}
	starts := []int{least, least + 1, -last, -10, -1, 0, 1, longest - 1, longest, last - longest, last - 1, last, last + 1, last + 10, 1 << 62, huge - longest, huge - 1, huge}
	lengths := []int{least, -longest, -1, 0, 1, 2, 3, longest - 1, longest, longest + 1, 1 << 32, 1<<32 + 1, huge - last, huge - 1, huge}
	right := try(1, 3, 1)
	for _, s := range []schedule{
		two(),
		{1, []api.Slot{slot(0, 0, 1)}},
		{2, []api.Slot{slot(0, 0, 1), slot(nodes-1, 1, 1)}},
		{longest, []api.Slot{slot(nodes-1, 0, longest)}},
		{longest, []api.Slot{slot(1, 0, longest-1), slot(0, longest-1, 1)}},
	} {
		cycle := painted(s)
		for _, node := range owners {
			for _, at := range starts {
				for _, long := range lengths {
					odd := try(node, at, long)
					if node < 0 || node > 15 || at < 0 || at > 1<<40 || long <= 0 || long > 1<<20 {
						checkError(t, "near the limits", s, []api.Try{odd}, api.ErrRange)
						checkError(t, "near the limits, behind another", s, []api.Try{right, odd}, api.ErrRange)
						continue
					}
					may := []bool{through(s, cycle, right), through(s, cycle, odd)}
					collide := may[0] && may[1] && meet(right, odd)
					demand(t, "near the limits", s, []api.Try{odd}, may[1:], may[1:])
					demand(t, "near the limits, behind another", s, []api.Try{right, odd}, may, []bool{may[0] && !collide, may[1] && !collide})
				}
			}
		}
	}
}

// smallSchedules returns all schedules of the period with slots of the nodes 0 and 1.
func smallSchedules(period int) []schedule {
	all := []schedule{{period, nil}}
	for done := 0; done < len(all); done++ {
		free := 0
		for _, s := range all[done].l {
			free = s.From + s.Long
		}
		for from := free; from < period; from++ {
			for long := 1; from+long <= period; long++ {
				for node := range 2 {
					l := append(slices.Clone(all[done].l), slot(node, from, long))
					all = append(all, schedule{period, l})
				}
			}
		}
	}
	return all
}

// N1: every short transmission in every schedule of a short period, all of them at once and each pair of them.
func TestAllSmallSchedules(t *testing.T) {
	for period := 1; period <= 4; period++ {
		var tries []api.Try
		for node := range 3 {
			for at := range 2*period + 1 {
				for long := 1; long <= period+1; long++ {
					tries = append(tries, try(node, at, long))
				}
			}
		}
		for _, s := range smallSchedules(period) {
			compare(t, s, tries)
			for a := range tries {
				for b := range a {
					if period <= 3 {
						compare(t, s, []api.Try{tries[a], tries[b]})
					}
				}
			}
		}
	}
}

// someSchedule returns a valid schedule: a few nodes, with and without gaps.
func someSchedule(r *rand.Rand, period int) schedule {
	s := schedule{period: period}
	owners, gap := 1+r.Intn(4), 1+r.Intn(6)
	for at := r.Intn(gap); at < period; {
		part := slot(r.Intn(owners), at, min(1+r.Intn(8), period-at))
		s.l = append(s.l, part)
		at += part.Long + r.Intn(gap)
	}
	return s
}

// someTries returns transmissions of which many stay in their slots, or nearly.
func someTries(r *rand.Rand, s schedule, n int) []api.Try {
	tries := make([]api.Try, n)
	first := r.Intn(3)
	if r.Intn(4) == 0 {
		first = last/s.period - 4
	}
	for k := range tries {
		cycle := (first + r.Intn(3)) * s.period
		tries[k] = try(r.Intn(4), cycle+r.Intn(s.period), 1+r.Intn(6))
		if len(s.l) > 0 && r.Intn(4) > 0 {
			part := s.l[r.Intn(len(s.l))]
			at := part.From + r.Intn(part.Long)
			long := 1 + r.Intn(part.From+part.Long-at+r.Intn(2))
			tries[k] = try(part.Node, cycle+at, long)
		}
	}
	return tries
}

// N1: many schedules and transmissions, also at the latest times.
func TestManyTransmissions(t *testing.T) {
	r := rand.New(rand.NewSource(1))
	for range 20000 {
		s := someSchedule(r, 1+r.Intn(40))
		compare(t, s, someTries(r, s, r.Intn(12)))
	}
	for range 20 {
		s := someSchedule(r, 300+r.Intn(200))
		compare(t, s, someTries(r, s, most))
	}
}

// N1: at every time of a transmission that is let through, the schedule names its node.
func TestOnlyOwnTimes(t *testing.T) {
	r := rand.New(rand.NewSource(2))
	for range 3000 {
		s := someSchedule(r, 1+r.Intn(40))
		tries := someTries(r, s, 10)
		may, _ := May(s.period, s.l, tries)
		for k, said := range tries {
			for at := said.At; may[k] && at < said.At+said.Long; at++ {
				if node, err := slots.Who(s.period, s.l, at); err != api.OK || node != said.Node {
					t.Fatalf("%v of %v is let through, but at %d Who = %d, %d", said, s, at, node, err)
				}
			}
		}
	}
}

// The property of the whole: whatever a babbling node transmits, the others are heard as they are without it.
func TestBabblerDoesNotDisturb(t *testing.T) {
	r := rand.New(rand.NewSource(3))
	for range 5000 {
		s := someSchedule(r, 1+r.Intn(40))
		var calm []api.Try
		for _, said := range someTries(r, s, 10) {
			if said.Node != 0 {
				calm = append(calm, said)
			}
		}
		noisy := slices.Clone(calm)
		for range 30 {
			noisy = append(noisy, try(0, r.Intn(5*s.period), 1+r.Intn(3*s.period)))
		}
		want, _ := Heard(s.period, s.l, calm)
		got, err := Heard(s.period, s.l, noisy)
		if err != api.OK || !slices.Equal(got[:len(calm)], want) {
			t.Fatalf("%v in %v: Heard = %v, %d; without the babbler %v", noisy, s, got, err, want)
		}
	}
}

// N1: the order of the transmissions changes no result of any of them.
func TestOrderDoesNotMatter(t *testing.T) {
	r := rand.New(rand.NewSource(4))
	for range 3000 {
		s := someSchedule(r, 1+r.Intn(40))
		tries := someTries(r, s, 12)
		may, heard := expected(s, tries)
		r.Shuffle(len(tries), func(a, b int) {
			tries[a], tries[b] = tries[b], tries[a]
			may[a], may[b] = may[b], may[a]
			heard[a], heard[b] = heard[b], heard[a]
		})
		demand(t, "in another order", s, tries, may, heard)
	}
}

// AA1: calls in between, also wrong ones, change no result.
func TestNoStateIsKept(t *testing.T) {
	tries := []api.Try{try(0, 0, 2), try(0, 1, 2), try(1, 3, 3), try(1, 13, 4)}
	for name, wrong := range wrongTries() {
		checkError(t, name, two(), []api.Try{wrong}, api.ErrRange)
		checkError(t, name, schedule{0, nil}, tries, api.ErrForm)
		demand(t, "after "+name, two(), tries, []bool{true, true, true, false}, []bool{false, false, true, false})
	}
}

// AA2: what lies behind the lengths of the arguments is neither read nor changed.
func TestSpareCapacityIsLeftAlone(t *testing.T) {
	allSlots := []api.Slot{slot(0, 0, 3), slot(1, 3, 3), slot(0, 6, 2), slot(-1, -1, -1)}
	allTries := []api.Try{try(0, 0, 2), try(0, 2, 1), try(1, 14, 2), try(0, 0, 3), try(-1, -1, -1)}
	l, tries := slices.Clone(allSlots), slices.Clone(allTries)
	for size := range len(l) {
		for many := range len(tries) {
			compare(t, schedule{10, l[:size]}, tries[:many])
			if !slices.Equal(l, allSlots) || !slices.Equal(tries, allTries) {
				t.Fatalf("with %d slots and %d transmissions the arguments have become %v, %v", size, many, l, tries)
			}
		}
	}
	checkError(t, "with the last transmission", schedule{10, l[:3]}, tries, api.ErrRange)
	checkError(t, "with the last slot", schedule{10, l}, tries, api.ErrForm)
}

// AA2: a result belongs to the caller: later calls do not change it, and it changes no later call.
func TestResultsAreNew(t *testing.T) {
	s, tries := two(), []api.Try{try(0, 0, 3), try(1, 3, 3)}
	for _, call := range []func(int, []api.Slot, []api.Try) ([]bool, api.Errno){May, Heard} {
		first, _ := call(s.period, s.l, tries)
		first[0] = false
		second, _ := call(s.period, s.l, tries)
		if !slices.Equal(first, []bool{false, true}) || !slices.Equal(second, []bool{true, true}) {
			t.Errorf("the results are %v and %v", first, second)
		}
	}
}

// AA3: nil and an empty slice are the same argument.
func TestNilAndEmpty(t *testing.T) {
	for _, none := range [][]api.Slot{nil, {}} {
		for _, silent := range [][]api.Try{nil, {}} {
			demand(t, "nothing at all", schedule{5, none}, silent, nil, nil)
			demand(t, "no transmission", two(), silent, nil, nil)
			checkError(t, "nothing and no period", schedule{0, none}, silent, api.ErrForm)
		}
		demand(t, "no slot", schedule{5, none}, []api.Try{try(0, 0, 1)}, []bool{false}, []bool{false})
		checkError(t, "no slot and a wrong transmission", schedule{5, none}, []api.Try{try(0, 0, 0)}, api.ErrRange)
	}
}
