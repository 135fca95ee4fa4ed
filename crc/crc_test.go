package crc

import (
	"math/rand"
	"slices"
	"strconv"
	"strings"
	"testing"

	"slotwright/api"
)

// row reads a row of bits written with the digits 0 and 1.
func row(digits string) []bool {
	var out []bool
	for _, c := range []byte(digits) {
		out = append(out, c == '1')
	}
	return out
}

// digits is the inverse of row.
func digits(b []bool) string {
	var out strings.Builder
	for _, bit := range b {
		if bit {
			out.WriteByte('1')
		} else {
			out.WriteByte('0')
		}
	}
	return out.String()
}

// rows calls do with every row of fewer than limit bits.
func rows(limit int, do func(digits string)) {
	level := []string{""}
	for range limit {
		var next []string
		for _, s := range level {
			do(s)
			next = append(next, s+"0", s+"1")
		}
		level = next
	}
}

// remainder divides the row, followed by 15 zeros, by the generator polynomial on paper: it shares no code with the package.
func remainder(s string) string {
	const divisor = "1100010110011001" // x^15 and the terms of 0x4599
	rest := []byte(s + strings.Repeat("0", 15))
	for i := range len(s) {
		if rest[i] == '0' {
			continue
		}
		for k := range divisor {
			rest[i+k] ^= divisor[k] ^ '0'
		}
	}
	return string(rest[len(s):])
}

func value(digits string) int {
	n, _ := strconv.ParseInt(digits, 2, 64)
	return int(n)
}

func randomBits(r *rand.Rand, length int) []bool {
	b := make([]bool, length)
	for i := range b {
		b[i] = r.Intn(2) == 1
	}
	return b
}

// C1: Sum, with values computed by hand and published ones.
func TestSum(t *testing.T) {
	for _, c := range []struct {
		name, b string
		want    int
	}{
		{"empty", "", 0},
		{"a single 1", "1", 0x4599},
		{"a single 0", "0", 0},
		{"zeros only", strings.Repeat("0", 100), 0},
		{"zeros before the first 1 do not count", strings.Repeat("0", 40) + "1", 0x4599},
		{"a doubled sum with the top bit", "10", 0x4eab},
		{"a bit that equals the top bit", "11", 0x0b32},
		{"doubled without the top bit", "110", 0x1664},
		{"doubled without the top bit, then a 1", "111", 0x1664 ^ 0x4599},
		{"the sum of its own checksum", "1" + "100010110011001", 0},
		// The check value of CRC-15/CAN in the usual catalogue of checksums.
		{"the bytes 123456789", "001100010011001000110011001101000011010100110110001101110011100000111001", 0x059e},
	} {
		if got := Sum(row(c.b)); got != c.want {
			t.Errorf("%s: Sum(%s) = %#x; want %#x", c.name, c.b, got, c.want)
		}
	}
}

// C1: Seal and Open, in both directions.
func TestSealAndOpen(t *testing.T) {
	for _, c := range []struct{ name, plain, sealed string }{
		{"empty", "", "000000000000000"},
		{"a single 0", "0", "0000000000000000"},
		{"a single 1", "1", "1100010110011001"},
		{"the sum has leading zeros", "11", "11000101100110010"},
		{"the sum has a leading 1", "10", "10100111010101011"},
		{"a row whose checksum is 0", "1100010110011001", "1100010110011001000000000000000"},
	} {
		if got := digits(Seal(row(c.plain))); got != c.sealed {
			t.Errorf("%s: Seal(%s) = %s; want %s", c.name, c.plain, got, c.sealed)
		}
		got, err := Open(row(c.sealed))
		if digits(got) != c.plain || err != api.OK {
			t.Errorf("%s: Open(%s) = %s, %d; want %s", c.name, c.sealed, digits(got), err, c.plain)
		}
	}
}

// C1: the errors of Open and their order: a row that is too short has no checksum, whatever its bits.
func TestOpenErrors(t *testing.T) {
	for _, c := range []struct {
		name, b string
		err     api.Errno
	}{
		{"empty", "", api.ErrShort},
		{"a single 0", "0", api.ErrShort},
		{"a single 1", "1", api.ErrShort},
		{"three ones", "111", api.ErrShort},
		{"14 zeros, whose sum is 0", strings.Repeat("0", 14), api.ErrShort},
		{"14 ones, whose sum is not 0", strings.Repeat("1", 14), api.ErrShort},
		{"15 ones", strings.Repeat("1", 15), api.ErrSum},
		{"15 bits, the last one is wrong", "000000000000001", api.ErrSum},
		{"15 bits, the first one is wrong", "100000000000000", api.ErrSum},
		{"the sum of another bit", "0100010110011001", api.ErrSum},
		{"a wrong last bit", "1100010110011000", api.ErrSum},
		{"a bit is missing", "110001011001100", api.ErrSum},
		{"a bit too many", "11000101100110011", api.ErrSum},
	} {
		got, err := Open(row(c.b))
		if len(got) != 0 || err != c.err {
			t.Errorf("%s: Open(%s) = %s, %d; want an empty row, %d", c.name, c.b, digits(got), err, c.err)
		}
	}
}

// C1: all short rows, against a division of polynomials.
func TestAllShortRows(t *testing.T) {
	rows(14, func(s string) {
		sum := remainder(s)
		if got := Sum(row(s)); got != value(sum) {
			t.Fatalf("Sum(%s) = %#x; want %#x", s, got, value(sum))
		}
		if got := digits(Seal(row(s))); got != s+sum {
			t.Fatalf("Seal(%s) = %s; want %s", s, got, s+sum)
		}
		if got, err := Open(row(s + sum)); digits(got) != s || err != api.OK {
			t.Fatalf("Open(%s) = %s, %d; want %s", s+sum, digits(got), err, s)
		}
	})
}

// C1: of all rows of up to 17 bits, Open accepts exactly those that end with the checksum of what is before it.
func TestOpenOfAllShortRows(t *testing.T) {
	rows(18, func(s string) {
		want, err := "", api.OK
		switch {
		case len(s) < 15:
			err = api.ErrShort
		case remainder(s[:len(s)-15]) != s[len(s)-15:]:
			err = api.ErrSum
		default:
			want = s[:len(s)-15]
		}
		if got, e := Open(row(s)); digits(got) != want || e != err {
			t.Fatalf("Open(%s) = %s, %d; want %s, %d", s, digits(got), e, want, err)
		}
	})
}

// C1: long rows come back.
func TestLongRows(t *testing.T) {
	r := rand.New(rand.NewSource(3))
	for range 300 {
		b := randomBits(r, r.Intn(1000))
		sum := remainder(digits(b))
		if got := Sum(b); got != value(sum) {
			t.Fatalf("Sum(%s) = %#x; want %#x", digits(b), got, value(sum))
		}
		sealed := Seal(b)
		if digits(sealed) != digits(b)+sum {
			t.Fatalf("Seal(%s) = %s", digits(b), digits(sealed))
		}
		back, err := Open(sealed)
		if !slices.Equal(back, b) || err != api.OK {
			t.Fatalf("Open(%s) = %s, %d; want %s", digits(sealed), digits(back), err, digits(b))
		}
	}
}

// C1: every burst of up to 15 bit errors is detected, wherever it begins.
func TestBurstsAreDetected(t *testing.T) {
	sealed := Seal(row("101100111000"))
	for burst := 1; burst < 1<<15; burst += 2 { // a burst begins with an error
		for from := range sealed {
			damaged := slices.Clone(sealed)
			for i := from; i < len(damaged); i++ {
				damaged[i] = damaged[i] != (burst>>(i-from)&1 == 1)
			}
			if got, err := Open(damaged); len(got) != 0 || err != api.ErrSum {
				t.Fatalf("burst %b at %d: Open = %s, %d; want an empty row, %d", burst, from, digits(got), err, api.ErrSum)
			}
		}
	}
}

// AA2: arguments and their spare capacity stay as they are and are not read beyond their length; results are new memory.
func TestArgumentsAreLeftAlone(t *testing.T) {
	for _, s := range []string{"1100010110011001000000000000000", strings.Repeat("0", 40), strings.Repeat("10", 20)} {
		b := row(s)
		for length := range len(b) + 1 {
			part := b[:length]
			sealed := Seal(part)
			if want := s[:length] + remainder(s[:length]); digits(sealed) != want {
				t.Errorf("Seal of the first %d bits of %s = %s; want %s", length, s, digits(sealed), want)
			}
			if got := Sum(part); got != value(remainder(s[:length])) {
				t.Errorf("Sum of the first %d bits of %s = %#x", length, s, got)
			}
			opened, _ := Open(part)
			for _, result := range [][]bool{sealed, opened} {
				result = result[:cap(result)]
				for i := range result {
					result[i] = !result[i]
				}
			}
			if digits(b) != s {
				t.Fatalf("the first %d bits of %s: the argument has become %s", length, s, digits(b))
			}
		}
	}
}

// AA3: nil and an empty slice are the same argument.
func TestNilAndEmpty(t *testing.T) {
	for _, b := range [][]bool{nil, {}} {
		if got := Sum(b); got != 0 {
			t.Errorf("Sum of no bits = %#x", got)
		}
		if got := digits(Seal(b)); got != "000000000000000" {
			t.Errorf("Seal of no bits = %s", got)
		}
		if got, err := Open(b); len(got) != 0 || err != api.ErrShort {
			t.Errorf("Open of no bits = %s, %d", digits(got), err)
		}
	}
}
