package stuff

import (
	"math/rand"
	"slices"
	"strings"
	"testing"

	"slotwright/api"
)

// row reads a row of bits written with the digits 0 and 1.
func row(digits string) []bool {
	var out []bool
	for _, c := range []byte(digits) {
		out = append(out, c == '1')
	}
	return out
}

// digits is the inverse of row.
func digits(b []bool) string {
	var out strings.Builder
	for _, bit := range b {
		if bit {
			out.WriteByte('1')
		} else {
			out.WriteByte('0')
		}
	}
	return out.String()
}

// rows calls do with every row of fewer than limit bits.
func rows(limit int, do func(digits string)) {
	level := []string{""}
	for range limit {
		var next []string
		for _, s := range level {
			do(s)
			next = append(next, s+"0", s+"1")
		}
		level = next
	}
}

// stuffed rewrites rows of digits, which shares no code with the package.
func stuffed(s string) string {
	out := ""
	for _, c := range s {
		out += string(c)
		switch {
		case strings.HasSuffix(out, "00000"):
			out += "1"
		case strings.HasSuffix(out, "11111"):
			out += "0"
		}
	}
	return out
}

func hasSix(s string) bool {
	return strings.Contains(s, "000000") || strings.Contains(s, "111111")
}

func endsWithFive(s string) bool {
	return strings.HasSuffix(s, "00000") || strings.HasSuffix(s, "11111")
}

func randomBits(r *rand.Rand, length int) []bool {
	b := make([]bool, length)
	for i := range b {
		// Repeating the previous bit most of the time gives many long runs.
		b[i] = r.Intn(5) == 0
		if i > 0 {
			b[i] = b[i] != b[i-1]
		}
	}
	return b
}

// B1 and B2: pairs of a sequence and the stuffed one, in both directions.
func TestStuffAndUnstuff(t *testing.T) {
	for _, c := range []struct{ name, plain, stuffed string }{
		{"empty", "", ""},
		{"one 0", "0", "0"},
		{"one 1", "1", "1"},
		{"no long run", "0101100111", "0101100111"},
		{"four equal bits", "11110000", "11110000"},
		{"five ones at the end", "11111", "111110"},
		{"five zeros at the end", "00000", "000001"},
		{"five ones and their complement", "111110", "1111100"},
		{"six ones", "111111", "1111101"},
		{"inserted 0 counts in the next run, at the end", "111110000", "11111000001"},
		{"inserted 1 counts in the next run, at the end", "000001111", "00000111110"},
		{"inserted 0 counts in the next run, in the middle", "1111100001", "111110000011"},
		{"an inserted 0 and three more are one too few", "1111100010", "11111000010"},
		{"every inserted bit counts", "0000011110000", "0000011111000001"},
		{"ten ones", "1111111111", "111110111110"},
		{"ten zeros", "0000000000", "000001000001"},
		{"a run after another bit", "0111110", "01111100"},
	} {
		if got := digits(Stuff(row(c.plain))); got != c.stuffed {
			t.Errorf("%s: Stuff(%s) = %s; want %s", c.name, c.plain, got, c.stuffed)
		}
		got, err := Unstuff(row(c.stuffed))
		if digits(got) != c.plain || err != api.OK {
			t.Errorf("%s: Unstuff(%s) = %s, %d; want %s", c.name, c.stuffed, digits(got), err, c.plain)
		}
	}
}

// B2: the errors of Unstuff and their order.
func TestUnstuffErrors(t *testing.T) {
	for _, c := range []struct {
		name, b string
		err     api.Errno
	}{
		{"six ones", "111111", api.ErrForm},
		{"six zeros", "000000", api.ErrForm},
		{"six ones in the middle", "01111110", api.ErrForm},
		{"six equal bits with an inserted one", "11111000000", api.ErrForm},
		{"six equal bits with an inserted one, then more", "000001111110", api.ErrForm},
		{"ten ones", "1111111111", api.ErrForm},
		{"five ones at the end", "11111", api.ErrShort},
		{"five zeros at the end", "00000", api.ErrShort},
		{"five equal bits after others", "0100000", api.ErrShort},
		{"five equal bits with an inserted one at the end", "1111100000", api.ErrShort},
		{"five equal bits with an inserted one of a long row", "000001111100000", api.ErrShort},
		{"six equal bits before a missing bit", "11111100000", api.ErrForm},
		{"the same run twice", "000000100000", api.ErrForm},
	} {
		got, err := Unstuff(row(c.b))
		if len(got) != 0 || err != c.err {
			t.Errorf("%s: Unstuff(%s) = %s, %d; want an empty row, %d", c.name, c.b, digits(got), err, c.err)
		}
	}
}

// B1: Longest, with runs of either bit at the start, in the middle and at the end.
func TestLongest(t *testing.T) {
	for _, c := range []struct {
		b    string
		want int
	}{
		{"", 0},
		{"0", 1},
		{"1", 1},
		{"01", 1},
		{"10101", 1},
		{"00", 2},
		{"11", 2},
		{"1100010", 3},
		{"0011101", 3},
		{"1111010", 4},
		{"0000101", 4},
		{"0101111", 4},
		{"1010000", 4},
		{"111000111", 3},
		{"011111100", 6},
		{strings.Repeat("0", 1000), 1000},
		{"0" + strings.Repeat("1", 999), 999},
	} {
		if got := Longest(row(c.b)); got != c.want {
			t.Errorf("Longest(%s) = %d; want %d", c.b, got, c.want)
		}
	}
}

// B1: all short rows, against the definition of Stuff and of a run.
func TestStuffOfAllShortRows(t *testing.T) {
	rows(15, func(s string) {
		if got := digits(Stuff(row(s))); got != stuffed(s) {
			t.Fatalf("Stuff(%s) = %s; want %s", s, got, stuffed(s))
		}
		longest := 0
		for n := 1; n <= len(s); n++ {
			if strings.Contains(s, strings.Repeat("0", n)) || strings.Contains(s, strings.Repeat("1", n)) {
				longest = n
			}
		}
		if got := Longest(row(s)); got != longest {
			t.Fatalf("Longest(%s) = %d; want %d", s, got, longest)
		}
	})
}

// B2: all short rows: exactly the rows that Stuff returns can be unstuffed, and the others have the right error.
func TestUnstuffOfAllShortRows(t *testing.T) {
	plain := map[string]string{}
	rows(15, func(s string) { plain[stuffed(s)] = s })
	rows(15, func(s string) {
		want, err := plain[s], api.OK
		switch {
		case hasSix(s):
			err = api.ErrForm
		case endsWithFive(s):
			err = api.ErrShort
		}
		if _, ok := plain[s]; ok != (err == api.OK) {
			t.Fatalf("%s: returned by Stuff: %t, error of Unstuff: %d", s, ok, err)
		}
		if got, e := Unstuff(row(s)); digits(got) != want || e != err {
			t.Fatalf("Unstuff(%s) = %s, %d; want %s, %d", s, digits(got), e, want, err)
		}
	})
}

// B1 and B2: long rows come back, and stuffed ones have no run of six equal bits.
func TestLongRows(t *testing.T) {
	r := rand.New(rand.NewSource(4))
	for range 300 {
		b := randomBits(r, r.Intn(1000))
		s := Stuff(b)
		if n := Longest(s); n > 5 {
			t.Fatalf("Stuff(%s) has a run of %d bits", digits(b), n)
		}
		if digits(s) != stuffed(digits(b)) {
			t.Fatalf("Stuff(%s) = %s", digits(b), digits(s))
		}
		back, err := Unstuff(s)
		if !slices.Equal(back, b) || err != api.OK {
			t.Fatalf("Unstuff(%s) = %s, %d; want %s", digits(s), digits(back), err, digits(b))
		}
	}
}

// AA2: arguments and their spare capacity stay as they are and are not read beyond their length; results are new memory.
func TestArgumentsAreLeftAlone(t *testing.T) {
	for _, s := range []string{"1111100001010", "0101010101010", "0000011111000"} {
		b := row(s)
		for length := range len(b) + 1 {
			part := b[:length]
			out := Stuff(part)
			if digits(out) != stuffed(s[:length]) {
				t.Errorf("Stuff of the first %d bits of %s = %s", length, s, digits(out))
			}
			back, _ := Unstuff(part)
			Longest(part)
			for _, result := range [][]bool{out, back} {
				result = result[:cap(result)]
				for i := range result {
					result[i] = !result[i]
				}
			}
			if digits(b) != s {
				t.Fatalf("the first %d bits of %s: the argument has become %s", length, s, digits(b))
			}
		}
	}
}

// AA3: nil and an empty slice are the same argument.
func TestNilAndEmpty(t *testing.T) {
	for _, b := range [][]bool{nil, {}} {
		if got := Stuff(b); len(got) != 0 {
			t.Errorf("Stuff of no bits = %s", digits(got))
		}
		if got, err := Unstuff(b); len(got) != 0 || err != api.OK {
			t.Errorf("Unstuff of no bits = %s, %d", digits(got), err)
		}
		if got := Longest(b); got != 0 {
			t.Errorf("Longest of no bits = %d", got)
		}
	}
}
