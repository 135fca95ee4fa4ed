package line

import (
	"math/rand"
	"slices"
	"strings"
	"testing"

	"slotwright/api"
)

// row reads a row of bits or levels, written with the digits 0 (low) and 1 (high).
func row(digits string) []bool {
	var out []bool
	for _, d := range digits {
		out = append(out, d == '1')
	}
	return out
}

// digits writes a row of bits or levels with the digits 0 and 1.
func digits(b []bool) string {
	var out strings.Builder
	for _, bit := range b {
		if bit {
			out.WriteByte('1')
		} else {
			out.WriteByte('0')
		}
	}
	return out.String()
}

// rows calls use with every row of up to most digits.
func rows(most int, use func(digits string)) {
	var extend func(digits string)
	extend = func(digits string) {
		use(digits)
		if len(digits) < most {
			extend(digits + "0")
			extend(digits + "1")
		}
	}
	extend("")
}

// doubled encodes bits in Manchester code by replacing their digits. It shares no code with the program.
func doubled(digits string) string {
	return strings.NewReplacer("0", "10", "1", "01").Replace(digits)
}

// undoubled decodes levels: it looks for equal levels in all pairs before it asks whether one is left over.
func undoubled(levels string) (string, api.Errno) {
	var out strings.Builder
	rest := levels
	for len(rest) >= 2 {
		switch rest[:2] {
		case "01":
			out.WriteByte('1')
		case "10":
			out.WriteByte('0')
		default:
			return "", api.ErrForm
		}
		rest = rest[2:]
	}
	if rest != "" {
		return "", api.ErrShort
	}
	return out.String(), api.OK
}

// turned encodes bits by counting: the level after some bits is the first one if an even number of them is 0.
func turned(from bool, digits string) string {
	var out strings.Builder
	for k := range digits {
		changes := strings.Count(digits[:k+1], "0")
		if from == (changes%2 == 0) {
			out.WriteByte('1')
		} else {
			out.WriteByte('0')
		}
	}
	return out.String()
}

// balanced counts the levels of every prefix anew.
func balanced(levels string) (sum, farthest int) {
	for k := range len(levels) + 1 {
		sum = strings.Count(levels[:k], "1") - strings.Count(levels[:k], "0")
		farthest = max(farthest, max(sum, -sum))
	}
	return sum, farthest
}

// F1: Both and Unboth by hand.
func TestBoth(t *testing.T) {
	for _, c := range []struct{ name, bits, levels string }{
		{"no bit", "", ""},
		{"a 1", "1", "01"},
		{"a 0", "0", "10"},
		{"the chapter's example", "10", "0110"},
		{"equal bits", "1100", "01011010"},
		{"a change at every bit", "010101", "100110011001"},
	} {
		if got := digits(Both(row(c.bits))); got != c.levels {
			t.Errorf("%s: Both(%s) = %s; want %s", c.name, c.bits, got, c.levels)
		}
		if got, err := Unboth(row(c.levels)); digits(got) != c.bits || err != api.OK {
			t.Errorf("%s: Unboth(%s) = %s, %d; want %s", c.name, c.levels, digits(got), err, c.bits)
		}
	}
}

// F1: the errors of Unboth; equal levels come before an odd number of levels, wherever they are.
func TestUnbothErrors(t *testing.T) {
	for _, c := range []struct {
		name, levels string
		err          api.Errno
	}{
		{"equal low levels", "00", api.ErrForm},
		{"equal high levels", "11", api.ErrForm},
		{"equal levels of the first bit", "110110", api.ErrForm},
		{"equal levels of a middle bit", "010010", api.ErrForm},
		{"equal levels of the last bit", "011011", api.ErrForm},
		{"one low level", "0", api.ErrShort},
		{"one high level", "1", api.ErrShort},
		{"a low level left over", "010", api.ErrShort},
		{"a high level left over", "011", api.ErrShort},
		{"a level left over that equals the one before", "100", api.ErrShort},
		{"a level left over after several bits", "0110011", api.ErrShort},
		{"equal levels of the only bit, an odd number", "000", api.ErrForm},
		{"equal levels of the first bit, an odd number", "11010", api.ErrForm},
		{"equal levels of the last bit, an odd number", "0110001", api.ErrForm},
	} {
		if got, err := Unboth(row(c.levels)); len(got) != 0 || err != c.err {
			t.Errorf("%s: Unboth(%s) = %s, %d; want the error %d", c.name, c.levels, digits(got), err, c.err)
		}
	}
}

// F2: Turn and Unturn by hand, from both levels.
func TestTurn(t *testing.T) {
	for _, c := range []struct {
		name         string
		from         bool
		bits, levels string
	}{
		{"no bit from low", false, "", ""},
		{"no bit from high", true, "", ""},
		{"a 0 from low", false, "0", "1"},
		{"a 0 from high", true, "0", "0"},
		{"a 1 from low", false, "1", "0"},
		{"a 1 from high", true, "1", "1"},
		{"a change, then none, from low", false, "01", "11"},
		{"a change, then none, from high", true, "01", "00"},
		{"always a change, from low", false, "00000", "10101"},
		{"always a change, from high", true, "00000", "01010"},
		{"never a change, from low", false, "11111", "00000"},
		{"never a change, from high", true, "11111", "11111"},
		{"several bits from low", false, "1001101", "0100011"},
		{"several bits from high", true, "1001101", "1011100"},
	} {
		if got := digits(Turn(c.from, row(c.bits))); got != c.levels {
			t.Errorf("%s: Turn(%v, %s) = %s; want %s", c.name, c.from, c.bits, got, c.levels)
		}
		if got := digits(Unturn(c.from, row(c.levels))); got != c.bits {
			t.Errorf("%s: Unturn(%v, %s) = %s; want %s", c.name, c.from, c.levels, got, c.bits)
		}
	}
}

// F2: Balance by hand.
func TestBalance(t *testing.T) {
	for _, c := range []struct {
		name, levels  string
		sum, farthest int
	}{
		{"no level", "", 0, 0},
		{"one high level", "1", 1, 1},
		{"one low level", "0", -1, 1},
		{"back to zero from above", "10", 0, 1},
		{"back to zero from below", "01", 0, 1},
		{"farthest before the end", "110", 1, 2},
		{"farthest before the end, below zero", "001", -1, 2},
		{"farthest at the end", "1011", 2, 2},
		{"farthest at the end, below zero", "0100", -2, 2},
		{"farthest below zero, ends above", "0001111", 1, 3},
		{"farthest above zero, ends below", "1110000", -1, 3},
		{"only high levels", "11111", 5, 5},
		{"only low levels", "00000", -5, 5},
	} {
		if sum, farthest := Balance(row(c.levels)); sum != c.sum || farthest != c.farthest {
			t.Errorf("%s: Balance(%s) = %d, %d; want %d, %d", c.name, c.levels, sum, farthest, c.sum, c.farthest)
		}
	}
}

// check compares all functions of one row of bits or levels with what the chapter says.
func check(t *testing.T, in string) {
	t.Helper()
	if got := digits(Both(row(in))); got != doubled(in) {
		t.Fatalf("Both(%s) = %s; want %s", in, got, doubled(in))
	}
	if got, err := Unboth(row(doubled(in))); digits(got) != in || err != api.OK {
		t.Fatalf("Unboth(%s) = %s, %d; want %s", doubled(in), digits(got), err, in)
	}
	bits, wantErr := undoubled(in)
	if got, err := Unboth(row(in)); digits(got) != bits || err != wantErr {
		t.Fatalf("Unboth(%s) = %s, %d; want %s, %d", in, digits(got), err, bits, wantErr)
	}
	for _, from := range []bool{false, true} {
		levels := turned(from, in)
		if got := digits(Turn(from, row(in))); got != levels {
			t.Fatalf("Turn(%v, %s) = %s; want %s", from, in, got, levels)
		}
		if got := digits(Unturn(from, row(levels))); got != in {
			t.Fatalf("Unturn(%v, %s) = %s; want %s", from, levels, got, in)
		}
	}
	sum, farthest := balanced(in)
	if gotSum, gotFarthest := Balance(row(in)); gotSum != sum || gotFarthest != farthest {
		t.Fatalf("Balance(%s) = %d, %d; want %d, %d", in, gotSum, gotFarthest, sum, farthest)
	}
}

// F1 and F2: all short rows.
func TestShortRows(t *testing.T) {
	rows(11, func(in string) { check(t, in) })
}

// F1 and F2: longer rows, of mixed digits and mostly of one digit.
func TestRandomRows(t *testing.T) {
	r := rand.New(rand.NewSource(6))
	for range 200 {
		ones := r.Intn(101)
		in := make([]byte, r.Intn(300))
		for k := range in {
			in[k] = '0'
			if r.Intn(100) < ones {
				in[k] = '1'
			}
		}
		check(t, string(in))
	}
}

// F1: one wrong level among many is always found.
func TestOneWrongLevel(t *testing.T) {
	rows(7, func(in string) {
		levels := Both(row(in))
		for k := range levels {
			wrong := slices.Clone(levels)
			wrong[k] = !wrong[k]
			if got, err := Unboth(wrong); len(got) != 0 || err != api.ErrForm {
				t.Fatalf("Unboth(%s) = %s, %d; want the error %d", digits(wrong), digits(got), err, api.ErrForm)
			}
		}
	})
}

// F1 and F2: a line in Manchester code is balanced after every bit.
func TestBothIsBalanced(t *testing.T) {
	rows(7, func(in string) {
		if sum, farthest := Balance(Both(row(in))); sum != 0 || farthest > 1 {
			t.Fatalf("Balance(Both(%s)) = %d, %d", in, sum, farthest)
		}
	})
}

// F1 and F2: a long row.
func TestLongRow(t *testing.T) {
	const size = 1000000
	low := make([]bool, size)
	if sum, farthest := Balance(low); sum != -size || farthest != size {
		t.Errorf("Balance of low levels = %d, %d", sum, farthest)
	}
	if got, err := Unboth(Both(low)); !slices.Equal(got, low) || err != api.OK {
		t.Errorf("Unboth does not undo Both: error %d", err)
	}
	if got := Unturn(true, Turn(true, low)); !slices.Equal(got, low) {
		t.Error("Unturn does not undo Turn")
	}
}

// flip changes all memory of a slice, its spare capacity too.
func flip(s []bool) {
	for i := range s[:cap(s)] {
		s[:cap(s)][i] = !s[:cap(s)][i]
	}
}

// AA2: arguments and their spare capacity stay as they are and are not read beyond their length; results are new memory.
func TestArgumentsAreLeftAlone(t *testing.T) {
	const all = "1001011010110000111"
	arg := row(all)
	for size := range len(all) + 1 {
		part := arg[:size]
		bits, err := Unboth(part)
		wantBits, wantErr := undoubled(all[:size])
		if digits(bits) != wantBits || err != wantErr {
			t.Fatalf("Unboth(%s) = %s, %d; want %s, %d", all[:size], digits(bits), err, wantBits, wantErr)
		}
		sum, farthest := Balance(part)
		wantSum, wantFarthest := balanced(all[:size])
		if sum != wantSum || farthest != wantFarthest {
			t.Fatalf("Balance(%s) = %d, %d; want %d, %d", all[:size], sum, farthest, wantSum, wantFarthest)
		}
		results := [][]bool{Both(part), bits, Turn(false, part), Turn(true, part), Unturn(false, part), Unturn(true, part)}
		if digits(results[0]) != doubled(all[:size]) || digits(results[2]) != turned(false, all[:size]) || digits(Unturn(true, results[3])) != all[:size] {
			t.Fatalf("a result of %s depends on what follows it", all[:size])
		}
		for _, result := range results {
			flip(result)
		}
		if digits(arg) != all {
			t.Fatalf("the argument has become %s", digits(arg))
		}
	}
}

// F1, F2 and AA3: nil and an empty slice are the same argument, and have an empty result.
func TestNilAndEmpty(t *testing.T) {
	for _, none := range [][]bool{nil, {}} {
		if got := Both(none); len(got) != 0 {
			t.Errorf("Both of no bit = %s", digits(got))
		}
		if got, err := Unboth(none); len(got) != 0 || err != api.OK {
			t.Errorf("Unboth of no level = %s, %d", digits(got), err)
		}
		for _, from := range []bool{false, true} {
			if got := Turn(from, none); len(got) != 0 {
				t.Errorf("Turn(%v) of no bit = %s", from, digits(got))
			}
			if got := Unturn(from, none); len(got) != 0 {
				t.Errorf("Unturn(%v) of no level = %s", from, digits(got))
			}
		}
		if sum, farthest := Balance(none); sum != 0 || farthest != 0 {
			t.Errorf("Balance of no level = %d, %d", sum, farthest)
		}
	}
}
