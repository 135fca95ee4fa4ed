package frame

import (
	"fmt"
	"math"
	"math/rand"
	"slices"
	"strconv"
	"strings"
	"testing"

	"slotwright/api"
)

// row reads a row of bits written with the digits 0 and 1; spaces separate the parts.
func row(digits string) []bool {
	var out []bool
	for _, c := range []byte(strings.ReplaceAll(digits, " ", "")) {
		out = append(out, c == '1')
	}
	return out
}

// digits is the inverse of row.
func digits(b []bool) string {
	var out strings.Builder
	for _, bit := range b {
		if bit {
			out.WriteByte('1')
		} else {
			out.WriteByte('0')
		}
	}
	return out.String()
}

// The functions from here to sent encode frames with rows of digits and share no code with the program.

func plain(f api.Frame) string {
	out := fmt.Sprintf("0%011b000%04b", f.Id, len(f.Data))
	for _, c := range f.Data {
		out += fmt.Sprintf("%08b", c)
	}
	return out
}

// remainder divides the row, followed by 15 zeros, by the generator polynomial.
func remainder(s string) string {
	const divisor = "1100010110011001" // x^15 and the terms of 0x4599
	rest := []byte(s + strings.Repeat("0", 15))
	for i := range len(s) {
		if rest[i] == '0' {
			continue
		}
		for k := range divisor {
			rest[i+k] ^= divisor[k] ^ '0'
		}
	}
	return string(rest[len(s):])
}

func stuffed(s string) string {
	out := ""
	for _, c := range s {
		out += string(c)
		switch {
		case strings.HasSuffix(out, "00000"):
			out += "1"
		case strings.HasSuffix(out, "11111"):
			out += "0"
		}
	}
	return out
}

// sent protects any row as Write protects a frame.
func sent(plain string) string {
	plain = strings.ReplaceAll(plain, " ", "")
	return stuffed(plain + remainder(plain))
}

func endsWithFive(s string) bool {
	return strings.HasSuffix(s, "00000") || strings.HasSuffix(s, "11111")
}

// unstuffed is the row without its inserted bits, which are those that follow five equal bits.
func unstuffed(s string) (string, api.Errno) {
	if strings.Contains(s, "000000") || strings.Contains(s, "111111") {
		return "", api.ErrForm
	}
	if endsWithFive(s) {
		return "", api.ErrShort
	}
	out := ""
	for i := range s {
		if !endsWithFive(s[:i]) {
			out += s[i : i+1]
		}
	}
	return out, api.OK
}

// decoded reads the transmitted digits of a frame as the chapter describes it.
func decoded(s string) (api.Frame, api.Errno) {
	s, err := unstuffed(s)
	if err != api.OK {
		return api.Frame{}, err
	}
	if len(s) < 15 {
		return api.Frame{}, api.ErrShort
	}
	body := s[:len(s)-15]
	if body+remainder(body) != s {
		return api.Frame{}, api.ErrSum
	}
	if len(body) < 19 {
		return api.Frame{}, api.ErrShort
	}
	count, _ := strconv.ParseInt(body[15:19], 2, 64)
	if body[0] != '0' || body[12:15] != "000" || count > 8 {
		return api.Frame{}, api.ErrForm
	}
	rest := body[19:]
	if len(rest) < 8*int(count) {
		return api.Frame{}, api.ErrShort
	}
	if len(rest) > 8*int(count) {
		return api.Frame{}, api.ErrForm
	}
	id, _ := strconv.ParseInt(body[1:12], 2, 64)
	f := api.Frame{Id: int(id)}
	for ; rest != ""; rest = rest[8:] {
		c, _ := strconv.ParseUint(rest[:8], 2, 8)
		f.Data = append(f.Data, byte(c))
	}
	return f, api.OK
}

func same(a, b api.Frame) bool { return a.Id == b.Id && slices.Equal(a.Data, b.Data) }

func randomFrame(r *rand.Rand) api.Frame {
	f := api.Frame{Id: r.Intn(2048)}
	for range r.Intn(9) {
		// Bytes without any change of bit lead to many inserted bits.
		f.Data = append(f.Data, []byte{0, 255, byte(r.Intn(256))}[r.Intn(3)])
	}
	return f
}

// check compares Read with what the chapter says, for any row.
func check(t *testing.T, s string) {
	t.Helper()
	want, err := decoded(s)
	got, e := Read(row(s))
	if !same(got, want) || e != err {
		t.Fatalf("Read(%s) = %v, %d; want %v, %d", s, got, e, want, err)
	}
}

// D1: Wrong, at the limits and beyond them; Plain and Write have the same error and then no bits.
func TestWrong(t *testing.T) {
	for _, c := range []struct {
		name string
		id   int
		size int
		err  api.Errno
	}{
		{"the smallest identifier", 0, 1, api.OK},
		{"the greatest identifier", 2047, 1, api.OK},
		{"an identifier below the smallest", -1, 1, api.ErrRange},
		{"an identifier above the greatest", 2048, 1, api.ErrRange},
		{"the greatest int", math.MaxInt, 1, api.ErrRange},
		{"the smallest int", math.MinInt, 1, api.ErrRange},
		{"the lowest bits alone would fit", 1 << 32, 1, api.ErrRange},
		{"no data", 5, 0, api.OK},
		{"the most data", 5, 8, api.OK},
		{"one byte too many", 5, 9, api.ErrRange},
		{"16 bytes, whose number needs five bits", 5, 16, api.ErrRange},
		{"many bytes", 5, 100000, api.ErrRange},
		{"the greatest frame", 2047, 8, api.OK},
		{"both out of range", 2048, 9, api.ErrRange},
	} {
		f := api.Frame{Id: c.id, Data: make([]byte, c.size)}
		if err := Wrong(f); err != c.err {
			t.Errorf("%s: Wrong = %d; want %d", c.name, err, c.err)
		}
		for name, encode := range map[string]func(api.Frame) ([]bool, api.Errno){"Plain": Plain, "Write": Write} {
			b, err := encode(f)
			if err != c.err || (len(b) == 0) != (err != api.OK) {
				t.Errorf("%s: %s = %s, %d; want the error %d", c.name, name, digits(b), err, c.err)
			}
		}
	}
}

// D1: Plain, with rows written by hand.
func TestPlain(t *testing.T) {
	for _, c := range []struct {
		name string
		f    api.Frame
		want string
	}{
		{"no data", api.Frame{Id: 5}, "0 00000000101 000 0000"},
		{"the smallest identifier", api.Frame{Id: 0}, "0 00000000000 000 0000"},
		{"the greatest identifier", api.Frame{Id: 2047}, "0 11111111111 000 0000"},
		{"the first bit of the identifier", api.Frame{Id: 1024}, "0 10000000000 000 0000"},
		{"one byte", api.Frame{Id: 1, Data: []byte{0xa3}}, "0 00000000001 000 0001 10100011"},
		{"bytes of zeros", api.Frame{Id: 2, Data: []byte{0, 0}}, "0 00000000010 000 0010 00000000 00000000"},
		{"the most data", api.Frame{Id: 1000, Data: []byte{1, 2, 4, 8, 16, 32, 64, 128}},
			"0 01111101000 000 1000 00000001 00000010 00000100 00001000 00010000 00100000 01000000 10000000"},
	} {
		got, err := Plain(c.f)
		if want := digits(row(c.want)); digits(got) != want || err != api.OK {
			t.Errorf("%s: Plain(%v) = %s, %d; want %s", c.name, c.f, digits(got), err, want)
		}
	}
}

// D1 and D2: the transmitted bits of frames, in both directions.
func TestWriteAndRead(t *testing.T) {
	for _, c := range []struct {
		name string
		f    api.Frame
		want string
	}{
		// 34 zeros, as the checksum of zeros is 0.
		{"zeros only", api.Frame{}, "000001 000001 000001 000001 000001 000001 0000"},
		{"no data", api.Frame{Id: 5}, sent("0 00000000101 000 0000")},
		{"an identifier of ones", api.Frame{Id: 2047, Data: []byte{255}}, sent("0 11111111111 000 0001 11111111")},
		{"the most data", api.Frame{Id: 1000, Data: []byte{1, 2, 4, 8, 16, 32, 64, 128}},
			sent("0 01111101000 000 1000 00000001 00000010 00000100 00001000 00010000 00100000 01000000 10000000")},
	} {
		b, err := Write(c.f)
		if want := digits(row(c.want)); digits(b) != want || err != api.OK {
			t.Errorf("%s: Write(%v) = %s, %d; want %s", c.name, c.f, digits(b), err, want)
		}
		f, err := Read(row(c.want))
		if !same(f, c.f) || err != api.OK {
			t.Errorf("%s: Read = %v, %d; want %v", c.name, f, err, c.f)
		}
	}
}

// D1 and D2: every identifier with every number of bytes comes back.
func TestEveryIdentifierAndLength(t *testing.T) {
	r := rand.New(rand.NewSource(4))
	for id := range 2048 {
		for size := range 9 {
			f := api.Frame{Id: id, Data: make([]byte, size)}
			r.Read(f.Data)
			if got, err := Plain(f); digits(got) != plain(f) || err != api.OK {
				t.Fatalf("Plain(%v) = %s, %d; want %s", f, digits(got), err, plain(f))
			}
			b, err := Write(f)
			if err != api.OK {
				t.Fatalf("Write(%v): error %d", f, err)
			}
			if back, err := Read(b); !same(back, f) || err != api.OK {
				t.Fatalf("Read(Write(%v)) = %v, %d", f, back, err)
			}
		}
	}
}

// D1: frames with long runs of equal bits, against a division of polynomials on digits.
func TestWriteOfRandomFrames(t *testing.T) {
	r := rand.New(rand.NewSource(5))
	for range 1000 {
		f := randomFrame(r)
		if b, err := Write(f); digits(b) != sent(plain(f)) || err != api.OK {
			t.Fatalf("Write(%v) = %s, %d; want %s", f, digits(b), err, sent(plain(f)))
		}
	}
}

// D2: each error of Read, and which of two comes first.
func TestReadErrors(t *testing.T) {
	valid := sent("0 00000000101 000 0001 10101010")
	zeros := sent(strings.Repeat("0", 19))
	for _, c := range []struct {
		name, b string
		err     api.Errno
	}{
		{"empty", "", api.ErrShort},
		{"six equal bits", "000000", api.ErrForm},
		{"five equal bits at the end", "00000", api.ErrShort},
		{"six equal bits after a valid frame", valid + "0111111", api.ErrForm},
		{"five equal bits after a valid frame", valid + "011111", api.ErrShort},
		{"six equal bits, then five at the end", "11111100000", api.ErrForm},
		{"a wrong sum that ends with five equal bits", "0101010101010101010111110101011111", api.ErrShort},
		{"four bits", "0101", api.ErrShort},
		{"14 bits", "01010101010101", api.ErrShort},
		{"15 bits with a wrong sum", "010101010101010", api.ErrSum},
		{"a wrong sum, too short for a frame", "0101010101010101", api.ErrSum},
		{"a wrong sum, no start bit", "1" + sent("0 00000000101 000 0000"), api.ErrSum},
		{"a wrong last bit", zeros[:len(zeros)-1] + "1", api.ErrSum},
		{"nothing but a checksum", sent(""), api.ErrShort},
		{"a header of one bit", sent("0"), api.ErrShort},
		{"a header of 18 bits", sent("0 00000000101 000 000"), api.ErrShort},
		{"a header of 18 bits without a start bit", sent("1 00000000101 000 000"), api.ErrShort},
		{"a header of 18 bits with a reserved bit", sent("0 00000000101 100 000"), api.ErrShort},
		{"no start bit", sent("1 00000000101 000 0000"), api.ErrForm},
		{"the first reserved bit", sent("0 00000000101 100 0000"), api.ErrForm},
		{"the second reserved bit", sent("0 00000000101 010 0000"), api.ErrForm},
		{"the third reserved bit", sent("0 00000000101 001 0000"), api.ErrForm},
		{"nine bytes, all of them there", sent("0 00000000101 000 1001" + strings.Repeat(" 10101010", 9)), api.ErrForm},
		{"15 bytes, all of them there", sent("0 00000000101 000 1111" + strings.Repeat(" 10101010", 15)), api.ErrForm},
		{"nine bytes, none of them there", sent("0 00000000101 000 1001"), api.ErrForm},
		{"no start bit and no data", sent("1 00000000101 000 0010"), api.ErrForm},
		{"a reserved bit and no data", sent("0 00000000101 010 0010"), api.ErrForm},
		{"one byte, none there", sent("0 00000000101 000 0001"), api.ErrShort},
		{"one byte, a bit is missing", sent("0 00000000101 000 0001 1010101"), api.ErrShort},
		{"one byte and a bit", sent("0 00000000101 000 0001 10101010 0"), api.ErrForm},
		{"no byte and a bit", sent("0 00000000101 000 0000 0"), api.ErrForm},
		{"no byte and a whole byte", sent("0 00000000101 000 0000 00000000"), api.ErrForm},
		{"eight bytes, a bit is missing", sent("0 00000000101 000 1000" + strings.Repeat(" 10101010", 7) + "1010101"), api.ErrShort},
		{"eight bytes and one more", sent("0 00000000101 000 1000" + strings.Repeat(" 10101010", 9)), api.ErrForm},
		{"eight bytes, one is missing", sent("0 00000000101 000 1000" + strings.Repeat(" 10101010", 7)), api.ErrShort},
	} {
		f, err := Read(row(c.b))
		if !same(f, api.Frame{}) || err != c.err {
			t.Errorf("%s: Read(%s) = %v, %d; want no frame, %d", c.name, c.b, f, err, c.err)
		}
	}
}

// D2: every header of 19 bits, with no data, with just enough data, and with one bit more or less.
func TestEveryHeader(t *testing.T) {
	for n := range 1 << 19 {
		if n>>7%128 != 21 { // a few identifiers are enough
			continue
		}
		header := fmt.Sprintf("%019b", n)
		need := n % 16 * 8
		for _, bits := range []int{0, need - 1, need, need + 1} {
			if bits >= 0 {
				check(t, sent(header+strings.Repeat("01", 64)[:bits]))
			}
		}
	}
}

// D2: frames that are cut off, extended, or have a wrong bit at any place.
func TestReadOfDamagedFrames(t *testing.T) {
	r := rand.New(rand.NewSource(6))
	for range 40 {
		s := sent(plain(randomFrame(r)))
		check(t, s+"0")
		check(t, s+"1")
		for i := range s {
			check(t, s[:i])
			check(t, s[i:])
			check(t, s[:i]+s[i+1:])
			check(t, s[:i]+string(s[i]^1)+s[i+1:])
		}
	}
}

// D2: rows of any bits with a right checksum.
func TestReadOfSealedRows(t *testing.T) {
	r := rand.New(rand.NewSource(7))
	for range 2000 {
		s := ""
		for range r.Intn(40) {
			s += string("01"[r.Intn(2)])
		}
		check(t, sent(s))
		check(t, sent("0"+s))
	}
}

// AA2: arguments and their spare capacity stay as they are and are not read beyond their length; results are new memory.
func TestArgumentsAreLeftAlone(t *testing.T) {
	all := []byte{1, 2, 3, 4, 5, 6, 7, 8, 9, 10}
	for size := range 9 {
		f := api.Frame{Id: 77, Data: all[:size]}
		bits, _ := Plain(f)
		if digits(bits) != plain(f) {
			t.Errorf("Plain(%v) = %s", f, digits(bits))
		}
		written, _ := Write(f)
		long := append(slices.Clone(written), row("0110100110010110")...)
		before := slices.Clone(long)
		back, err := Read(long[:len(written)])
		if !same(back, f) || err != api.OK {
			t.Errorf("Read with spare capacity = %v, %d; want %v", back, err, f)
		}
		for i := range back.Data[:cap(back.Data)] {
			back.Data[:cap(back.Data)][i] ^= 255
		}
		if !slices.Equal(long, before) {
			t.Errorf("Read has changed its argument")
		}
		for _, b := range [][]bool{bits, written} {
			for i := range b[:cap(b)] {
				b[:cap(b)][i] = !b[:cap(b)][i]
			}
		}
		if !slices.Equal(all, []byte{1, 2, 3, 4, 5, 6, 7, 8, 9, 10}) {
			t.Fatalf("the data have become %v", all)
		}
	}
}

// AA3: nil and an empty slice are the same argument.
func TestNilAndEmpty(t *testing.T) {
	for _, data := range [][]byte{nil, {}} {
		f := api.Frame{Id: 5, Data: data}
		if err := Wrong(f); err != api.OK {
			t.Errorf("Wrong without data = %d", err)
		}
		if got, err := Plain(f); digits(got) != "0000000001010000000" || err != api.OK {
			t.Errorf("Plain without data = %s, %d", digits(got), err)
		}
		if got, err := Write(f); digits(got) != sent("0000000001010000000") || err != api.OK {
			t.Errorf("Write without data = %s, %d", digits(got), err)
		}
	}
	for _, b := range [][]bool{nil, {}} {
		if f, err := Read(b); !same(f, api.Frame{}) || err != api.ErrShort {
			t.Errorf("Read of no bits = %v, %d", f, err)
		}
	}
}
