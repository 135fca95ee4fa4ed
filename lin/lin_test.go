package lin

import (
	"bytes"
	"math"
	"math/rand"
	"slices"
	"strconv"
	"testing"

	"slotwright/api"
)

// table returns the protected identifiers of 0 to 63, written out. TestParityBits derives the same parity bits from the words of the chapter.
func table() []byte {
	return []byte{
		0x80, 0xc1, 0x42, 0x03, 0xc4, 0x85, 0x06, 0x47,
		0x08, 0x49, 0xca, 0x8b, 0x4c, 0x0d, 0x8e, 0xcf,
		0x50, 0x11, 0x92, 0xd3, 0x14, 0x55, 0xd6, 0x97,
		0xd8, 0x99, 0x1a, 0x5b, 0x9c, 0xdd, 0x5e, 0x1f,
		0x20, 0x61, 0xe2, 0xa3, 0x64, 0x25, 0xa6, 0xe7,
		0xa8, 0xe9, 0x6a, 0x2b, 0xec, 0xad, 0x2e, 0x6f,
		0xf0, 0xb1, 0x32, 0x73, 0xb4, 0xf5, 0x76, 0x37,
		0x78, 0x39, 0xba, 0xfb, 0x3c, 0x7d, 0xfe, 0xbf,
	}
}

// inverted computes the checksum from the whole sum: taking away 255 after each carry leaves a remainder by 255, but for a sum that is not 0 it is never 0.
func inverted(l []byte) byte {
	total := 0
	for _, b := range l {
		total += int(b)
	}
	if total == 0 {
		return 255
	}
	return byte(254 - (total-1)%255)
}

// written encodes a frame and shares no code with the program.
func written(f api.Frame, newer bool) ([]byte, api.Errno) {
	if f.Id < 0 || f.Id >= 64 {
		return nil, api.ErrRange
	}
	if n := len(f.Data); n < 1 || n > 8 {
		return nil, api.ErrForm
	}
	covered := f.Data
	if newer {
		covered = slices.Concat([]byte{table()[f.Id]}, f.Data)
	}
	return slices.Concat([]byte{table()[f.Id]}, f.Data, []byte{inverted(covered)}), api.OK
}

// decoded reads a frame by looking for the identifier that leads to the same bytes.
func decoded(b []byte, newer bool) (api.Frame, api.Errno) {
	if len(b) < 3 {
		return api.Frame{}, api.ErrShort
	}
	if len(b) > 10 {
		return api.Frame{}, api.ErrForm
	}
	f := api.Frame{Id: slices.Index(table(), b[0]), Data: b[1 : len(b)-1]}
	if want, err := written(f, newer); err != api.OK || !bytes.Equal(want, b) {
		return api.Frame{}, api.ErrSum
	}
	return f, api.OK
}

func same(a, b api.Frame) bool { return a.Id == b.Id && bytes.Equal(a.Data, b.Data) }

// check compares Write and Read of one frame with what the chapter says.
func check(t *testing.T, f api.Frame, newer bool) {
	t.Helper()
	want, wantErr := written(f, newer)
	got, err := Write(f, newer)
	if !bytes.Equal(got, want) || err != wantErr {
		t.Fatalf("Write(%v, %v) = %v, %d; want %v, %d", f, newer, got, err, want, wantErr)
	}
	if err != api.OK {
		return
	}
	if back, err := Read(got, newer); !same(back, f) || err != api.OK {
		t.Fatalf("Read(%v, %v) = %v, %d; want %v", got, newer, back, err, f)
	}
	checkRead(t, got, !newer)
}

// checkRead compares Read of any bytes with what the chapter says.
func checkRead(t *testing.T, b []byte, newer bool) {
	t.Helper()
	want, wantErr := decoded(b, newer)
	if got, err := Read(b, newer); !same(got, want) || err != wantErr {
		t.Fatalf("Read(%v, %v) = %v, %d; want %v, %d", b, newer, got, err, want, wantErr)
	}
}

// G1: the protected identifiers of all 64 identifiers.
func TestGuard(t *testing.T) {
	for id, want := range table() {
		if got, err := Guard(id); got != want || err != api.OK {
			t.Errorf("Guard(%#x) = %#x, %d; want %#x", id, got, err, want)
		}
	}
}

// G1: no other number has a protected identifier, not even one whose lowest bits are an identifier.
func TestGuardRange(t *testing.T) {
	for _, id := range []int{-1, 64, -2, -64, -63, 65, 127, 128, 255, 256, 320, 1 << 32, 1<<32 + 5, math.MinInt, math.MinInt + 1, math.MaxInt} {
		if got, err := Guard(id); got != 0 || err != api.ErrRange {
			t.Errorf("Guard(%d) = %d, %d; want the error %d", id, got, err, api.ErrRange)
		}
	}
}

// G1: Number of all 256 bytes.
func TestNumber(t *testing.T) {
	for b := range 256 {
		want, wantErr := slices.Index(table(), byte(b)), api.OK
		if want < 0 {
			want, wantErr = 0, api.ErrSum
		}
		if got, err := Number(byte(b)); got != want || err != wantErr {
			t.Errorf("Number(%#x) = %d, %d; want %d, %d", b, got, err, want, wantErr)
		}
	}
}

// G1: a single wrong bit of a protected identifier is always found.
func TestOneWrongBit(t *testing.T) {
	for id := range 64 {
		for k := range 8 {
			b, _ := Guard(id)
			if got, err := Number(b ^ 1<<k); got != 0 || err != api.ErrSum {
				t.Errorf("Number of identifier %d with bit %d changed = %d, %d; want the error %d", id, k, got, err, api.ErrSum)
			}
		}
	}
}

// G1: checksums by hand.
func TestSum(t *testing.T) {
	for _, c := range []struct {
		name string
		in   []byte
		want byte
	}{
		{"no byte", nil, 255},
		{"a zero", []byte{0}, 255},
		{"many zeros", make([]byte, 1000), 255},
		{"one", []byte{1}, 254},
		{"the largest byte", []byte{255}, 0},
		{"a sum of 255", []byte{254, 1}, 0},
		{"a sum of 255, then a zero", []byte{100, 155, 0}, 0},
		{"a sum of 256", []byte{255, 1}, 254},
		{"a sum of 257", []byte{128, 129}, 253},
		{"a sum of 300", []byte{200, 100}, 210},
		{"the largest byte twice", []byte{255, 255}, 0},
		{"a sum of 255 after a carry", []byte{255, 128, 127}, 0},
		{"two carries", []byte{255, 255, 1}, 254},
		{"a carry in the middle", []byte{200, 100, 3}, 207},
		{"two carries in four bytes", []byte{0x4a, 0x55, 0x93, 0xe5}, 0xe6},
		{"many of the largest bytes", bytes.Repeat([]byte{255}, 1000), 0},
		{"many ones", bytes.Repeat([]byte{1}, 256), 254},
	} {
		if got := Sum(c.in); got != c.want {
			t.Errorf("%s: Sum = %d; want %d", c.name, got, c.want)
		}
	}
}

// G1: all pairs of bytes, and then rows of bytes of any size.
func TestSumOfAnything(t *testing.T) {
	for a := range 256 {
		for b := range 256 {
			l := []byte{byte(a), byte(b)}
			if got := Sum(l); got != inverted(l) {
				t.Fatalf("Sum(%v) = %d; want %d", l, got, inverted(l))
			}
		}
	}
	r := rand.New(rand.NewSource(7))
	for range 500 {
		l := make([]byte, r.Intn(600))
		for k := range l {
			l[k] = byte(r.Intn(1 + r.Intn(256)))
		}
		if got := Sum(l); got != inverted(l) {
			t.Fatalf("Sum(%v) = %d; want %d", l, got, inverted(l))
		}
	}
}

// G1: many bytes.
func TestLongSum(t *testing.T) {
	l := bytes.Repeat([]byte{255, 254}, 1<<20)
	if got := Sum(l); got != inverted(l) {
		t.Errorf("Sum = %d; want %d", got, inverted(l))
	}
}

// G2: frames by hand.
func TestFrames(t *testing.T) {
	for _, c := range []struct {
		name  string
		frame api.Frame
		newer bool
		want  []byte
	}{
		{"one byte", api.Frame{Data: []byte{1}}, false, []byte{128, 1, 254}},
		{"one byte, newer", api.Frame{Data: []byte{1}}, true, []byte{128, 1, 126}},
		{"a zero", api.Frame{Id: 3, Data: []byte{0}}, false, []byte{3, 0, 255}},
		{"a zero, newer", api.Frame{Id: 3, Data: []byte{0}}, true, []byte{3, 0, 252}},
		{"the largest identifier", api.Frame{Id: 63, Data: []byte{0x40, 0x41}}, false, []byte{0xbf, 0x40, 0x41, 0x7e}},
		{"a sum of 255, newer", api.Frame{Id: 63, Data: []byte{0x40}}, true, []byte{0xbf, 0x40, 0}},
		{"a sum above 255, newer", api.Frame{Id: 63, Data: []byte{0x41}}, true, []byte{0xbf, 0x41, 254}},
		{"a diagnostic frame", api.Frame{Id: 0x3c, Data: []byte{1, 2, 3, 4, 5, 6, 7, 8}}, false, []byte{0x3c, 1, 2, 3, 4, 5, 6, 7, 8, 219}},
		{"a diagnostic frame, newer", api.Frame{Id: 0x3c, Data: []byte{1, 2, 3, 4, 5, 6, 7, 8}}, true, []byte{0x3c, 1, 2, 3, 4, 5, 6, 7, 8, 159}},
	} {
		if got, err := Write(c.frame, c.newer); !bytes.Equal(got, c.want) || err != api.OK {
			t.Errorf("%s: Write = %v, %d; want %v", c.name, got, err, c.want)
		}
		if got, err := Read(c.want, c.newer); !same(got, c.frame) || err != api.OK {
			t.Errorf("%s: Read = %v, %d; want %v", c.name, got, err, c.frame)
		}
	}
}

// G2: the errors of Write; a wrong identifier comes before a wrong number of bytes.
func TestWriteErrors(t *testing.T) {
	for _, c := range []struct {
		name string
		id   int
		size int
		err  api.Errno
	}{
		{"identifier below 0", -1, 1, api.ErrRange},
		{"identifier above 63", 64, 1, api.ErrRange},
		{"identifier 256", 256, 1, api.ErrRange},
		{"the smallest number", math.MinInt, 1, api.ErrRange},
		{"the largest number", math.MaxInt, 8, api.ErrRange},
		{"no byte", 0, 0, api.ErrForm},
		{"no byte, largest identifier", 63, 0, api.ErrForm},
		{"one byte too many", 0, api.MaxData + 1, api.ErrForm},
		{"many bytes", 63, 1000, api.ErrForm},
		{"identifier below 0 and no byte", -1, 0, api.ErrRange},
		{"identifier above 63 and too many bytes", 64, api.MaxData + 1, api.ErrRange},
	} {
		for _, newer := range []bool{false, true} {
			if got, err := Write(api.Frame{Id: c.id, Data: make([]byte, c.size)}, newer); len(got) != 0 || err != c.err {
				t.Errorf("%s, newer %v: Write = %v, %d; want the error %d", c.name, newer, got, err, c.err)
			}
		}
	}
}

// G2: the errors of Read in their order, with both values of newer.
func TestReadErrors(t *testing.T) {
	for _, c := range []struct {
		name string
		in   []byte
		err  api.Errno
	}{
		{"no byte", nil, api.ErrShort},
		{"one byte", []byte{128}, api.ErrShort},
		{"no data byte", []byte{128, 255}, api.ErrShort},
		{"no data byte, wrong identifier", []byte{0, 255}, api.ErrShort},
		{"no data byte, wrong checksum", []byte{128, 0}, api.ErrShort},
		{"one byte too many", append([]byte{3}, make([]byte, 10)...), api.ErrForm},
		{"one byte too many, wrong identifier", make([]byte, 11), api.ErrForm},
		{"many bytes", make([]byte, 1000), api.ErrForm},
		{"wrong identifier", []byte{0, 1, 254}, api.ErrSum},
		{"wrong upper parity", []byte{0x01 | 0x40, 1, 254}, api.ErrSum},
		{"wrong lower parity", []byte{0x01 | 0x80, 1, 254}, api.ErrSum},
		{"wrong checksum", []byte{128, 1, 255}, api.ErrSum},
		{"wrong checksum of as many bytes as allowed", make([]byte, 10), api.ErrSum},
		{"another wrong checksum", []byte{3, 255, 255}, api.ErrSum},
	} {
		for _, newer := range []bool{false, true} {
			if got, err := Read(c.in, newer); !same(got, api.Frame{}) || err != c.err {
				t.Errorf("%s, newer %v: Read = %v, %d; want the error %d", c.name, newer, got, err, c.err)
			}
		}
	}
}

// G2: a checksum of the other kind is an error.
func TestOtherChecksum(t *testing.T) {
	if got, err := Read([]byte{128, 1, 254}, true); !same(got, api.Frame{}) || err != api.ErrSum {
		t.Errorf("Read of a classic frame as a newer one = %v, %d", got, err)
	}
	if got, err := Read([]byte{128, 1, 126}, false); !same(got, api.Frame{}) || err != api.ErrSum {
		t.Errorf("Read of a newer frame as a classic one = %v, %d", got, err)
	}
}

// G2: all identifiers and the numbers around them with all sizes of data.
func TestAllIdentifiers(t *testing.T) {
	r := rand.New(rand.NewSource(8))
	for id := -2; id < 67; id++ {
		for size := range 11 {
			data := make([]byte, size)
			for k := range data {
				data[k] = byte(r.Intn(1 + r.Intn(256)))
			}
			check(t, api.Frame{Id: id, Data: data}, false)
			check(t, api.Frame{Id: id, Data: data}, true)
		}
	}
}

// G2: Read of all frames with one data byte for some identifiers, which finds every checksum that is not the right one.
func TestAllShortFrames(t *testing.T) {
	for _, first := range []byte{0x80, 0x03, 0xbf, 0x3c, 0x00, 0x43} {
		for second := range 256 {
			for third := range 256 {
				b := []byte{first, byte(second), byte(third)}
				checkRead(t, b, false)
				checkRead(t, b, true)
			}
		}
	}
}

// G2: Read of frames in which a byte has been changed, removed or added.
func TestDamagedFrames(t *testing.T) {
	r := rand.New(rand.NewSource(9))
	for range 3000 {
		newer := r.Intn(2) == 0
		data := make([]byte, 1+r.Intn(8))
		r.Read(data)
		b, _ := Write(api.Frame{Id: r.Intn(64), Data: data}, newer)
		at := r.Intn(len(b))
		switch r.Intn(3) {
		case 0:
			b[at] = byte(r.Intn(256))
		case 1:
			b = slices.Delete(b, at, at+1)
		case 2:
			b = slices.Insert(b, at, byte(r.Intn(256)))
		}
		checkRead(t, b, newer)
	}
}

// AA2: arguments and their spare capacity stay as they are and are not read beyond their length; results are new memory.
func TestArgumentsAreLeftAlone(t *testing.T) {
	all := []byte{0x3c, 0xc3, 0x3c, 17, 255, 0, 18, 52, 86, 120, 154, 188}
	arg := slices.Clone(all)
	for size := range len(all) + 1 {
		part := arg[:size]
		if got := Sum(part); got != inverted(all[:size]) {
			t.Fatalf("Sum(%v) = %d; want %d", all[:size], got, inverted(all[:size]))
		}
		for _, newer := range []bool{false, true} {
			check(t, api.Frame{Id: 5, Data: part}, newer)
			checkRead(t, part, newer)
			sent, _ := Write(api.Frame{Id: 5, Data: part}, newer)
			flip(sent)
			read, _ := Read(part, newer)
			flip(read.Data)
		}
		if !bytes.Equal(arg, all) {
			t.Fatalf("with %d bytes the argument has become %v", size, arg)
		}
	}
}

// AA2: what Read returns stays as it is when its argument changes.
func TestReadKeepsNoReference(t *testing.T) {
	b, _ := Write(api.Frame{Id: 9, Data: []byte{1, 2, 3}}, true)
	f, _ := Read(b, true)
	flip(b)
	if !bytes.Equal(f.Data, []byte{1, 2, 3}) {
		t.Errorf("the data has become %v", f.Data)
	}
}

// flip changes all memory of a slice, its spare capacity too.
func flip(s []byte) {
	for k := range s[:cap(s)] {
		s[:cap(s)][k] ^= 255
	}
}

// AA3: nil and an empty slice are the same argument.
func TestNilAndEmpty(t *testing.T) {
	for _, none := range [][]byte{nil, {}} {
		if got := Sum(none); got != 255 {
			t.Errorf("Sum of no byte = %d", got)
		}
		for _, newer := range []bool{false, true} {
			if got, err := Write(api.Frame{Data: none}, newer); len(got) != 0 || err != api.ErrForm {
				t.Errorf("Write of no data byte = %v, %d", got, err)
			}
			if got, err := Read(none, newer); !same(got, api.Frame{}) || err != api.ErrShort {
				t.Errorf("Read of no byte = %v, %d", got, err)
			}
		}
	}
}

// G1: the parity bits as the chapter describes them, from the binary digits of the identifier.
func TestParityBits(t *testing.T) {
	for id := range 64 {
		digits := strconv.FormatInt(int64(64+id), 2) // digits[6-k] is bit k
		ones := func(at ...int) (n int) {
			for _, k := range at {
				n += int(digits[6-k] - '0')
			}
			return n
		}
		b, _ := Guard(id)
		if got, want := int(b>>6&1), ones(0, 1, 2, 4)%2; got != want {
			t.Errorf("bit 6 of Guard(%d) is %d; want %d", id, got, want)
		}
		if got, want := int(b>>7&1), 1-ones(1, 3, 4, 5)%2; got != want {
			t.Errorf("bit 7 of Guard(%d) is %d; want %d", id, got, want)
		}
	}
}
