package cobs

import (
	"bytes"
	"math/rand"
	"slices"
	"testing"

	"slotwright/api"
)

// row returns n nonzero bytes that are not all the same.
func row(n int) []byte {
	l := make([]byte, n)
	for k := range l {
		l[k] = byte(1 + k%255)
	}
	return l
}

func join(l ...[]byte) []byte { return slices.Concat(l...) }

// packed encodes by splitting b at its zero bytes first, and shares no code with the program.
func packed(b []byte) []byte {
	var out []byte
	pieces := bytes.Split(b, []byte{0})
	for k, piece := range pieces {
		last, began := k == len(pieces)-1, false
		for len(piece) >= 254 {
			out = join(out, []byte{255}, piece[:254])
			piece, began = piece[254:], true
		}
		if last && began && len(piece) == 0 {
			break
		}
		out = join(out, []byte{byte(len(piece) + 1)}, piece)
	}
	return out
}

// unpacked decodes byte by byte: left is what the present group still lacks, and owed tells whether a zero byte comes before the next group.
func unpacked(b []byte) ([]byte, api.Errno) {
	var out []byte
	left, owed := 0, false
	for k, c := range b {
		if left > 0 {
			if c == 0 {
				return nil, api.ErrForm
			}
			out, left = append(out, c), left-1
			continue
		}
		if c == 0 {
			return nil, api.ErrForm
		}
		if k+int(c) > len(b) {
			return nil, api.ErrShort
		}
		if owed {
			out = append(out, 0)
		}
		left, owed = int(c)-1, c != 255
	}
	if len(b) == 0 {
		return nil, api.ErrShort
	}
	return out, api.OK
}

// split decodes a stream byte by byte.
func split(b []byte) (parts [][]byte, good []bool) {
	var since []byte
	for _, c := range b {
		if c != 0 {
			since = append(since, c)
			continue
		}
		part, err := unpacked(since)
		parts, good, since = append(parts, part), append(good, err == api.OK), nil
	}
	return parts, good
}

// fewest returns the smallest number of groups that can stand for b, over all ways to divide it.
func fewest(b []byte) int {
	best := make([]int, len(b)+1)
	best[len(b)] = 1
	for from := len(b) - 1; from >= 0; from-- {
		best[from] = 1 << 30
		for n := 0; n <= 254; n++ {
			end := from + n
			if end == len(b) {
				best[from] = 1
				break
			}
			if n == 254 {
				best[from] = min(best[from], 1+best[end])
			} else if b[end] == 0 {
				best[from] = min(best[from], 1+best[end+1])
				break
			}
		}
	}
	return best[0]
}

// groups counts the groups of an encoding.
func groups(b []byte) int {
	n := 0
	for at := 0; at < len(b); at += int(b[at]) {
		n++
	}
	return n
}

// check compares Pack of one row of bytes with what the chapter says, and Unpack with it.
func check(t *testing.T, b []byte) {
	t.Helper()
	got := Pack(b)
	if !bytes.Equal(got, packed(b)) {
		t.Fatalf("Pack(%v) = %v; want %v", b, got, packed(b))
	}
	if bytes.IndexByte(got, 0) >= 0 {
		t.Fatalf("Pack(%v) = %v, with a zero byte", b, got)
	}
	if back, err := Unpack(got); !bytes.Equal(back, b) || err != api.OK {
		t.Fatalf("Unpack(%v) = %v, %d; want %v", got, back, err, b)
	}
}

// checkUnpack compares Unpack of any bytes with what the chapter says.
func checkUnpack(t *testing.T, b []byte) {
	t.Helper()
	want, wantErr := unpacked(b)
	if got, err := Unpack(b); !bytes.Equal(got, want) || err != wantErr {
		t.Fatalf("Unpack(%v) = %v, %d; want %v, %d", b, got, err, want, wantErr)
	}
}

// checkParts compares Parts of any bytes with what the chapter says.
func checkParts(t *testing.T, b []byte) {
	t.Helper()
	want, wantGood := split(b)
	if got, good := Parts(b); !slices.EqualFunc(got, want, bytes.Equal) || !slices.Equal(good, wantGood) {
		t.Fatalf("Parts(%v) = %v, %v; want %v, %v", b, got, good, want, wantGood)
	}
}

// rows calls f with all rows of up to most of the bytes from 0 to top.
func rows(most int, top byte, f func([]byte)) {
	var grow func(l []byte)
	grow = func(l []byte) {
		f(l)
		if len(l) == most {
			return
		}
		for c := range top + 1 {
			grow(join(l, []byte{c}))
		}
	}
	grow(nil)
}

// H1, H2: bytes and their encodings by hand.
func TestEncodings(t *testing.T) {
	for _, c := range []struct {
		name         string
		plain, coded []byte
	}{
		{"the example", []byte{7, 0, 0, 9}, []byte{2, 7, 1, 2, 9}},
		{"no byte", nil, []byte{1}},
		{"a byte", []byte{7}, []byte{2, 7}},
		{"the largest byte", []byte{255}, []byte{2, 255}},
		{"a zero byte", []byte{0}, []byte{1, 1}},
		{"only zero bytes", []byte{0, 0, 0}, []byte{1, 1, 1, 1}},
		{"a zero byte at the start", []byte{0, 5}, []byte{1, 2, 5}},
		{"a zero byte at the end", []byte{5, 0}, []byte{2, 5, 1}},
		{"zero bytes at the start and at the end", []byte{0, 0, 5, 6, 0, 0}, []byte{1, 1, 3, 5, 6, 1, 1}},
		{"a zero byte between others", []byte{17, 34, 0, 51}, []byte{3, 17, 34, 2, 51}},
		{"253", row(253), join([]byte{254}, row(253))},
		{"253 and a zero byte", join(row(253), []byte{0}), join([]byte{254}, row(253), []byte{1})},
		{"253, a zero byte and another", join(row(253), []byte{0, 3}), join([]byte{254}, row(253), []byte{2, 3})},
		{"254", row(254), join([]byte{255}, row(254))},
		{"254 and a zero byte", join(row(254), []byte{0}), join([]byte{255}, row(254), []byte{1, 1})},
		{"254 and two zero bytes", join(row(254), []byte{0, 0}), join([]byte{255}, row(254), []byte{1, 1, 1})},
		{"254, a zero byte and another", join(row(254), []byte{0, 3}), join([]byte{255}, row(254), []byte{1, 2, 3})},
		{"a zero byte and 254", join([]byte{0}, row(254)), join([]byte{1, 255}, row(254))},
		{"a byte, a zero byte and 254", join([]byte{3, 0}, row(254)), join([]byte{2, 3, 255}, row(254))},
		{"a zero byte, 254 and a zero byte", join([]byte{0}, row(254), []byte{0}), join([]byte{1, 255}, row(254), []byte{1, 1})},
		{"255", row(255), join([]byte{255}, row(254), []byte{2, 255})},
		{"255 and a zero byte", join(row(255), []byte{0}), join([]byte{255}, row(254), []byte{2, 255, 1})},
		{"256", row(256), join([]byte{255}, row(254), []byte{3, 255, 1})},
		{"twice 254", join(row(254), row(254)), join([]byte{255}, row(254), []byte{255}, row(254))},
		{"twice 254 and a zero byte", join(row(254), row(254), []byte{0}), join([]byte{255}, row(254), []byte{255}, row(254), []byte{1, 1})},
		{"254 twice, with a zero byte between", join(row(254), []byte{0}, row(254)), join([]byte{255}, row(254), []byte{1, 255}, row(254))},
	} {
		if got := Pack(c.plain); !bytes.Equal(got, c.coded) {
			t.Errorf("%s: Pack = %v; want %v", c.name, got, c.coded)
		}
		if got, err := Unpack(c.coded); !bytes.Equal(got, c.plain) || err != api.OK {
			t.Errorf("%s: Unpack = %v, %d; want %v", c.name, got, err, c.plain)
		}
	}
}

// H1: Unpack reads encodings too that Pack never returns.
func TestLongerEncodings(t *testing.T) {
	for _, c := range []struct {
		name         string
		coded, plain []byte
	}{
		{"an empty group after a full one", join([]byte{255}, row(254), []byte{1}), row(254)},
		{"such groups after another one", join([]byte{2, 9, 255}, row(254), []byte{1}), join([]byte{9, 0}, row(254))},
	} {
		if got, err := Unpack(c.coded); !bytes.Equal(got, c.plain) || err != api.OK {
			t.Errorf("%s: Unpack = %v, %d; want %v", c.name, got, err, c.plain)
		}
	}
}

// H1: the errors of Unpack; within a group ErrShort comes before a zero byte in it, and an earlier group before a later one.
func TestUnpackErrors(t *testing.T) {
	for _, c := range []struct {
		name string
		in   []byte
		err  api.Errno
	}{
		{"no byte", nil, api.ErrShort},
		{"a length byte of 0", []byte{0}, api.ErrForm},
		{"a length byte of 0 before others", []byte{0, 1, 1}, api.ErrForm},
		{"only zero bytes", []byte{0, 0, 0}, api.ErrForm},
		{"a later length byte of 0", []byte{2, 7, 0}, api.ErrForm},
		{"a length byte of 0 after an empty group", []byte{1, 0}, api.ErrForm},
		{"a length byte of 0 after a full group", join([]byte{255}, row(254), []byte{0}), api.ErrForm},
		{"a length byte alone", []byte{2}, api.ErrShort},
		{"the largest length byte alone", []byte{255}, api.ErrShort},
		{"a group cut short", []byte{3, 1}, api.ErrShort},
		{"a full group that lacks a byte", join([]byte{255}, row(253)), api.ErrShort},
		{"a later group cut short", []byte{2, 7, 1, 3, 9}, api.ErrShort},
		{"a zero byte in a group", []byte{2, 0}, api.ErrForm},
		{"a zero byte in the middle of a group", []byte{4, 1, 0, 1}, api.ErrForm},
		{"a zero byte at the end of a group", []byte{4, 1, 1, 0, 1}, api.ErrForm},
		{"a zero byte at the start of a later group", []byte{1, 3, 0, 1}, api.ErrForm},
		{"a zero byte at the end of a full group", join([]byte{255}, row(253), []byte{0}), api.ErrForm},
		{"a group cut short with a zero byte in it", []byte{3, 0}, api.ErrShort},
		{"a full group cut short with zero bytes in it", join([]byte{255}, make([]byte, 253)), api.ErrShort},
		{"a zero byte in a group, then a group cut short", []byte{2, 0, 9, 1}, api.ErrForm},
		{"a zero byte in a group, then a length byte of 0", []byte{2, 0, 0}, api.ErrForm},
		{"a length byte of 0, then a group cut short", []byte{1, 0, 9}, api.ErrForm},
		{"a group cut short that would reach over a length byte of 0", []byte{2, 7, 5, 1, 0}, api.ErrShort},
	} {
		if got, err := Unpack(c.in); len(got) != 0 || err != c.err {
			t.Errorf("%s: Unpack = %v, %d; want the error %d", c.name, got, err, c.err)
		}
	}
}

// H2: streams by hand.
func TestParts(t *testing.T) {
	for _, c := range []struct {
		name string
		in   []byte
		want [][]byte
		good []bool
	}{
		{"no byte", nil, nil, nil},
		{"no zero byte", []byte{2, 7}, nil, nil},
		{"one encoding", []byte{2, 7, 0}, [][]byte{{7}}, []bool{true}},
		{"an encoding of no byte", []byte{1, 0}, [][]byte{{}}, []bool{true}},
		{"an encoding with a zero byte", []byte{2, 7, 1, 2, 9, 0}, [][]byte{{7, 0, 0, 9}}, []bool{true}},
		{"two encodings", []byte{2, 7, 0, 1, 1, 0}, [][]byte{{7}, {0}}, []bool{true, true}},
		{"bytes after the last zero byte", []byte{2, 7, 0, 5}, [][]byte{{7}}, []bool{true}},
		{"a good encoding after the last zero byte", []byte{2, 7, 0, 2, 8}, [][]byte{{7}}, []bool{true}},
		{"a zero byte alone", []byte{0}, [][]byte{{}}, []bool{false}},
		{"nothing between two zero bytes", []byte{2, 7, 0, 0, 2, 8, 0}, [][]byte{{7}, {}, {8}}, []bool{true, false, true}},
		{"a zero byte at the start", []byte{0, 2, 7, 0}, [][]byte{{}, {7}}, []bool{false, true}},
		{"only zero bytes", []byte{0, 0, 0}, [][]byte{{}, {}, {}}, []bool{false, false, false}},
		{"an encoding cut short", []byte{3, 7, 0}, [][]byte{{}}, []bool{false}},
		{"good and bad encodings", []byte{3, 1, 2, 0, 2, 7, 9, 0, 1, 0, 5, 0, 2, 4, 0, 6}, [][]byte{{1, 2}, {}, {}, {}, {4}}, []bool{true, false, true, false, true}},
		{"a full group", join([]byte{255}, row(254), []byte{0, 2, 7, 0}), [][]byte{row(254), {7}}, []bool{true, true}},
		{"a full group that lacks a byte", join([]byte{255}, row(253), []byte{0, 2, 7, 0}), [][]byte{{}, {7}}, []bool{false, true}},
	} {
		if got, good := Parts(c.in); !slices.EqualFunc(got, c.want, bytes.Equal) || !slices.Equal(good, c.good) {
			t.Errorf("%s: Parts = %v, %v; want %v, %v", c.name, got, good, c.want, c.good)
		}
	}
}

// H1, H2: all short rows of small bytes.
func TestAllShortRows(t *testing.T) {
	rows(7, 3, func(b []byte) {
		check(t, b)
		checkUnpack(t, b)
		checkParts(t, b)
	})
}

// H2: rows of nonzero bytes of all sizes up to more than three full groups, alone and with zero bytes around them.
func TestAllSizes(t *testing.T) {
	zero := []byte{0}
	for size := range 3*254 + 4 {
		check(t, row(size))
		check(t, make([]byte, size))
		check(t, join(row(size), zero))
		check(t, join(row(size), zero, zero))
		check(t, join(zero, row(size)))
		check(t, join(row(size), zero, row(size)))
	}
}

// H2: no encoding has fewer groups.
func TestFewestGroups(t *testing.T) {
	r := rand.New(rand.NewSource(11))
	for range 300 {
		b := some(r)
		if got, want := groups(Pack(b)), fewest(b); got != want {
			t.Fatalf("Pack(%v) has %d groups; want %d", b, got, want)
		}
	}
}

// some returns a few rows of nonzero bytes, most of them about as long as full groups, with zero bytes between them.
func some(r *rand.Rand) []byte {
	var b []byte
	for range r.Intn(5) {
		size := r.Intn(6)
		if r.Intn(2) == 0 {
			size += 254*(1+r.Intn(2)) - 3
		}
		for range size {
			b = append(b, byte(1+r.Intn(255)))
		}
		b = append(b, make([]byte, r.Intn(3))...)
	}
	return b
}

// H1: encodings in which bytes have been changed, removed or added.
func TestDamagedEncodings(t *testing.T) {
	r := rand.New(rand.NewSource(12))
	for range 3000 {
		plain := some(r)
		check(t, plain)
		b := Pack(plain)
		for range 1 + r.Intn(2) {
			damage(r, &b)
		}
		checkUnpack(t, b)
	}
}

func damage(r *rand.Rand, b *[]byte) {
	if len(*b) == 0 {
		return
	}
	at := r.Intn(len(*b))
	c := byte(r.Intn(256) * r.Intn(2))
	switch r.Intn(4) {
	case 0:
		(*b)[at] = c
	case 1:
		*b = slices.Delete(*b, at, at+1)
	case 2:
		*b = slices.Insert(*b, at, c)
	case 3:
		*b = (*b)[:at]
	}
}

// H2: a receiver that has lost its place finds it again at the next zero byte.
func TestResynchronization(t *testing.T) {
	r := rand.New(rand.NewSource(13))
	for range 300 {
		var stream []byte
		var sent [][]byte
		for range 1 + r.Intn(5) {
			b := some(r)
			sent = append(sent, b)
			stream = join(stream, Pack(b), []byte{0})
		}
		got, good := Parts(stream)
		if !slices.EqualFunc(got, sent, bytes.Equal) || slices.Contains(good, false) || len(good) != len(sent) {
			t.Fatalf("Parts(%v) = %v, %v; want %v", stream, got, good, sent)
		}
		rest := stream[r.Intn(len(Pack(sent[0]))+1):]
		got, _ = Parts(rest)
		if !slices.EqualFunc(got[1:], sent[1:], bytes.Equal) {
			t.Fatalf("Parts(%v) = %v; want %v after the first", rest, got, sent[1:])
		}
		damage(r, &stream)
		checkParts(t, stream)
	}
}

// AA1: many bytes, which take no more than a moment.
func TestManyBytes(t *testing.T) {
	const many = 1 << 22
	for _, b := range [][]byte{make([]byte, many), row(many), bytes.Repeat([]byte{1, 0}, many/2)} {
		if got, err := Unpack(Pack(b)); !bytes.Equal(got, b) || err != api.OK {
			t.Errorf("%d bytes that begin with %v do not come back", many, b[:2])
		}
	}
	if got, good := Parts(make([]byte, many)); len(got) != many || len(good) != many || slices.Contains(good, true) {
		t.Errorf("Parts of %d zero bytes has %d and %d elements", many, len(got), len(good))
	}
	if got, good := Parts(bytes.Repeat([]byte{1, 0}, many/2)); len(got) != many/2 || len(good) != many/2 || slices.Contains(good, false) {
		t.Errorf("Parts of %d encodings has %d and %d elements", many/2, len(got), len(good))
	}
}

// AA2: arguments and their spare capacity stay as they are and are not read beyond their length; results are new memory.
func TestArgumentsAreLeftAlone(t *testing.T) {
	all := join([]byte{2, 7, 1, 3, 8, 9, 0, 4, 1, 0, 0, 255}, row(254), []byte{0, 2, 5, 0, 1, 2})
	arg := slices.Clone(all)
	for size := range len(all) + 1 {
		part := arg[:size]
		check(t, part)
		checkUnpack(t, part)
		checkParts(t, part)
		flip(Pack(part))
		plain, _ := Unpack(part)
		flip(plain)
		parts, _ := Parts(part)
		for _, p := range parts {
			flip(p)
		}
		if !bytes.Equal(arg, all) {
			t.Fatalf("with %d bytes the argument has become %v", size, arg)
		}
	}
	good := []byte{3, 8, 9, 1, 2, 5}
	arg = slices.Clone(good)
	plain, _ := Unpack(arg)
	flip(plain)
	if !bytes.Equal(arg, good) {
		t.Errorf("the argument of Unpack has become %v", arg)
	}
}

// AA2: results stay as they are when the argument changes.
func TestNoReferenceIsKept(t *testing.T) {
	b := []byte{3, 8, 9}
	coded := Pack(b)
	plain, _ := Unpack(b)
	flip(b)
	if !bytes.Equal(coded, []byte{4, 3, 8, 9}) || !bytes.Equal(plain, []byte{8, 9}) {
		t.Errorf("the results have become %v and %v", coded, plain)
	}
	stream := []byte{3, 8, 9, 0, 2, 4, 0}
	parts, _ := Parts(stream)
	flip(stream)
	if !slices.EqualFunc(parts, [][]byte{{8, 9}, {4}}, bytes.Equal) {
		t.Errorf("the parts have become %v", parts)
	}
}

// AA2: the parts of a stream share no memory with each other.
func TestPartsAreApart(t *testing.T) {
	parts, _ := Parts([]byte{3, 8, 9, 0, 1, 0, 2, 4, 0, 0, 2, 4, 0})
	for k := range parts {
		flip(parts[k])
		for other, want := range [][]byte{{8, 9}, {}, {4}, {}, {4}} {
			if other != k && !bytes.Equal(parts[other], want) {
				t.Errorf("a change of part %d has changed part %d to %v", k, other, parts[other])
			}
		}
		flip(parts[k])
	}
}

// flip changes all memory of a slice, its spare capacity too.
func flip(s []byte) {
	for k := range s[:cap(s)] {
		s[:cap(s)][k] ^= 255
	}
}

// AA3: nil and an empty slice are the same argument.
func TestNilAndEmpty(t *testing.T) {
	for _, none := range [][]byte{nil, {}} {
		if got := Pack(none); !bytes.Equal(got, []byte{1}) {
			t.Errorf("Pack of no byte = %v", got)
		}
		if got, err := Unpack(none); len(got) != 0 || err != api.ErrShort {
			t.Errorf("Unpack of no byte = %v, %d", got, err)
		}
		if got, good := Parts(none); len(got) != 0 || len(good) != 0 {
			t.Errorf("Parts of no byte = %v, %v", got, good)
		}
	}
}
