package bitrow

import (
	"math"
	"math/rand"
	"slices"
	"strconv"
	"strings"
	"testing"

	"slotwright/api"
)

// row reads a row of bits written with the digits 0 and 1.
func row(digits string) []bool {
	var out []bool
	for _, c := range []byte(digits) {
		out = append(out, c == '1')
	}
	return out
}

// digits is the inverse of row.
func digits(b []bool) string {
	var out strings.Builder
	for _, bit := range b {
		if bit {
			out.WriteByte('1')
		} else {
			out.WriteByte('0')
		}
	}
	return out.String()
}

// padded writes n in binary, an encoding that shares no code with the package.
func padded(width, n int) string {
	if width == 0 {
		return ""
	}
	s := strconv.FormatInt(int64(n), 2)
	return strings.Repeat("0", width-len(s)) + s
}

const top = 1<<62 - 1 // the greatest number that Put takes

// A1: Put, ordinary numbers, the edges of both ranges, and what is outside them.
func TestPut(t *testing.T) {
	for _, c := range []struct {
		width, n int
		want     string
		err      api.Errno
	}{
		{4, 5, "0101", api.OK},
		{4, 0, "0000", api.OK},
		{4, 15, "1111", api.OK},
		{4, 8, "1000", api.OK},
		{1, 1, "1", api.OK},
		{0, 0, "", api.OK},
		{62, 0, strings.Repeat("0", 62), api.OK},
		{62, 1, strings.Repeat("0", 61) + "1", api.OK},
		{62, top, strings.Repeat("1", 62), api.OK},
		{61, top >> 1, strings.Repeat("1", 61), api.OK},
		{0, 1, "", api.ErrRange},
		{2, 4, "", api.ErrRange},
		{4, 16, "", api.ErrRange},
		{61, top, "", api.ErrRange},
		{62, top + 1, "", api.ErrRange},
		{62, math.MaxInt, "", api.ErrRange},
		{4, -1, "", api.ErrRange},
		{0, -1, "", api.ErrRange},
		{62, -1, "", api.ErrRange},
		{62, math.MinInt, "", api.ErrRange},
		{-1, 0, "", api.ErrRange},
		{63, 0, "", api.ErrRange},
		{64, 1, "", api.ErrRange},
		{math.MinInt, 0, "", api.ErrRange},
		{math.MaxInt, 0, "", api.ErrRange},
	} {
		got, err := Put(c.width, c.n)
		if digits(got) != c.want || err != c.err {
			t.Errorf("Put(%d, %d) = %s, %d; want %s, %d", c.width, c.n, digits(got), err, c.want, c.err)
		}
	}
}

// A1: Put of every width agrees with strconv at the edges and the inside of its range.
func TestPutOfEveryWidth(t *testing.T) {
	r := rand.New(rand.NewSource(1))
	for width := 0; width <= 62; width++ {
		bound := 1 << width
		for _, n := range []int{0, bound / 2, bound - 1, r.Intn(bound), r.Intn(bound)} {
			got, err := Put(width, n)
			if digits(got) != padded(width, n) || err != api.OK {
				t.Errorf("Put(%d, %d) = %s, %d", width, n, digits(got), err)
			}
			back, err := Get(got)
			if back != n || err != api.OK {
				t.Errorf("Get(%s) = %d, %d; want %d", digits(got), back, err, n)
			}
		}
		if got, err := Put(width, bound); len(got) != 0 || err != api.ErrRange {
			t.Errorf("Put(%d, %d) = %s, %d; want ErrRange", width, bound, digits(got), err)
		}
	}
}

// A1: Get, with the empty row, leading zeros, the longest rows and longer ones.
func TestGet(t *testing.T) {
	for _, c := range []struct {
		b    string
		want int
		err  api.Errno
	}{
		{"", 0, api.OK},
		{"0", 0, api.OK},
		{"1", 1, api.OK},
		{"101", 5, api.OK},
		{"110", 6, api.OK},
		{"000101", 5, api.OK},
		{strings.Repeat("1", 62), top, api.OK},
		{"1" + strings.Repeat("0", 61), 1 << 61, api.OK},
		{strings.Repeat("0", 62), 0, api.OK},
		{strings.Repeat("0", 63), 0, api.ErrRange},
		{strings.Repeat("1", 63), 0, api.ErrRange},
		{strings.Repeat("1", 64), 0, api.ErrRange},
		{strings.Repeat("01", 500), 0, api.ErrRange},
	} {
		got, err := Get(row(c.b))
		if got != c.want || err != c.err {
			t.Errorf("Get(%s) = %d, %d; want %d, %d", c.b, got, err, c.want, c.err)
		}
	}
}

// A1: Of gives the bits of every byte, in the order of the bytes.
func TestOf(t *testing.T) {
	var all []byte
	want := ""
	for n := range 256 {
		all = append(all, byte(n))
		want += padded(8, n)
		if got := digits(Of([]byte{byte(n)})); got != padded(8, n) {
			t.Errorf("Of(%d) = %s", n, got)
		}
	}
	if got := digits(Of(all)); got != want {
		t.Errorf("Of of all bytes = %s", got)
	}
	if got := digits(Of([]byte{1, 128, 5})); got != "000000011000000000000101" {
		t.Errorf("Of(1, 128, 5) = %s", got)
	}
}

// A1: Bytes completes the last byte, and only that, with zero bits.
func TestBytes(t *testing.T) {
	for _, c := range []struct {
		b    string
		want []byte
	}{
		{"", nil},
		{"0", []byte{0}},
		{"1", []byte{128}},
		{"01", []byte{64}},
		{"1010101", []byte{170}},
		{"00000101", []byte{5}},
		{"11111111", []byte{255}},
		{"111111111", []byte{255, 128}},
		{"000000000", []byte{0, 0}},
		{"0000000110000000", []byte{1, 128}},
		{"00000001100000000000001", []byte{1, 128, 2}},
	} {
		if got := Bytes(row(c.b)); !slices.Equal(got, c.want) {
			t.Errorf("Bytes(%s) = %v; want %v", c.b, got, c.want)
		}
	}
}

// A1: Of undoes Bytes but for the zero bits at the end, and Bytes undoes Of.
func TestBytesAndOf(t *testing.T) {
	r := rand.New(rand.NewSource(2))
	for length := range 70 {
		b := make([]bool, length)
		for i := range b {
			b[i] = r.Intn(2) == 1
		}
		bytes := Bytes(b)
		want := digits(b) + strings.Repeat("0", (8-length%8)%8)
		if got := digits(Of(bytes)); got != want {
			t.Errorf("Of(Bytes(%s)) = %s; want %s", digits(b), got, want)
		}
		if got := Bytes(Of(bytes)); !slices.Equal(got, bytes) {
			t.Errorf("Bytes(Of(%v)) = %v", bytes, got)
		}
	}
}

// A2: Pack, and the order of its errors.
func TestPack(t *testing.T) {
	for _, c := range []struct {
		name         string
		widths, nums []int
		want         string
		err          api.Errno
	}{
		{"two numbers", []int{3, 2}, []int{5, 1}, "10101", api.OK},
		{"no numbers", nil, nil, "", api.OK},
		{"empty widths", []int{}, nil, "", api.OK},
		{"width 0", []int{0}, []int{0}, "", api.OK},
		{"width 0 between others", []int{2, 0, 3}, []int{2, 0, 1}, "10001", api.OK},
		{"greatest width", []int{62, 1, 62}, []int{top, 0, top}, strings.Repeat("1", 62) + "0" + strings.Repeat("1", 62), api.OK},
		{"number missing", []int{3, 2}, []int{5}, "", api.ErrForm},
		{"width missing", []int{3}, []int{5, 1}, "", api.ErrForm},
		{"no widths", nil, []int{0}, "", api.ErrForm},
		{"no numbers for widths", []int{0}, nil, "", api.ErrForm},
		{"lengths before widths", []int{-1, 63}, []int{-1}, "", api.ErrForm},
		{"number too great", []int{3, 2}, []int{5, 4}, "", api.ErrRange},
		{"first number too great", []int{3, 2}, []int{8, 1}, "", api.ErrRange},
		{"negative number", []int{3, 2}, []int{5, -1}, "", api.ErrRange},
		{"negative width", []int{3, -1}, []int{5, 0}, "", api.ErrRange},
		{"width too great", []int{63, 2}, []int{0, 1}, "", api.ErrRange},
		{"number for width 0", []int{3, 0}, []int{5, 1}, "", api.ErrRange},
	} {
		got, err := Pack(c.widths, c.nums)
		if digits(got) != c.want || err != c.err {
			t.Errorf("%s: Pack(%v, %v) = %s, %d; want %s, %d", c.name, c.widths, c.nums, digits(got), err, c.want, c.err)
		}
	}
}

// A2: Unpack, and the order of its errors.
func TestUnpack(t *testing.T) {
	for _, c := range []struct {
		name   string
		widths []int
		b      string
		want   []int
		err    api.Errno
	}{
		{"two numbers", []int{3, 2}, "10101", []int{5, 1}, api.OK},
		{"nothing", nil, "", nil, api.OK},
		{"width 0", []int{0}, "", []int{0}, api.OK},
		{"width 0 between others", []int{2, 0, 3}, "10001", []int{2, 0, 1}, api.OK},
		{"width 0 at the end", []int{1, 0, 0}, "1", []int{1, 0, 0}, api.OK},
		{"greatest width", []int{62, 1, 62}, strings.Repeat("1", 62) + "0" + strings.Repeat("1", 62), []int{top, 0, top}, api.OK},
		{"bits left", []int{3}, "10101", nil, api.ErrForm},
		{"bits left without widths", nil, "0", nil, api.ErrForm},
		{"bits left after width 0", []int{0}, "0", nil, api.ErrForm},
		{"short", []int{3, 3}, "10101", nil, api.ErrShort},
		{"short at the first width", []int{6}, "10101", nil, api.ErrShort},
		{"short of every bit", []int{1}, "", nil, api.ErrShort},
		{"width too great", []int{63}, strings.Repeat("0", 63), nil, api.ErrRange},
		{"width too great before short", []int{63}, "", nil, api.ErrRange},
		{"negative width", []int{-1}, "10101", nil, api.ErrRange},
		{"least width", []int{math.MinInt}, "1", nil, api.ErrRange},
		{"greatest int as width", []int{math.MaxInt}, "1", nil, api.ErrRange},
		{"short before a later bad width", []int{6, 63}, "10101", nil, api.ErrShort},
		{"bad width before a later short", []int{3, -1, 6}, "10101", nil, api.ErrRange},
		{"bad width before bits left", []int{1, 63}, strings.Repeat("1", 90), nil, api.ErrRange},
	} {
		got, err := Unpack(c.widths, row(c.b))
		if !slices.Equal(got, c.want) || err != c.err {
			t.Errorf("%s: Unpack(%v, %s) = %v, %d; want %v, %d", c.name, c.widths, c.b, got, err, c.want, c.err)
		}
	}
}

// A2: Unpack undoes Pack, whatever the widths.
func TestPackAndUnpack(t *testing.T) {
	r := rand.New(rand.NewSource(3))
	for range 300 {
		var widths, nums []int
		want := ""
		for range r.Intn(20) {
			width := r.Intn(63)
			n := r.Intn(1 << width)
			widths, nums = append(widths, width), append(nums, n)
			want += padded(width, n)
		}
		b, err := Pack(widths, nums)
		if digits(b) != want || err != api.OK {
			t.Fatalf("Pack(%v, %v) = %s, %d; want %s", widths, nums, digits(b), err, want)
		}
		back, err := Unpack(widths, b)
		if !slices.Equal(back, nums) || err != api.OK {
			t.Fatalf("Unpack(%v, %s) = %v, %d; want %v", widths, want, back, err, nums)
		}
	}
}

// AA2: arguments and their spare capacity stay as they are, and no result shares memory with them or with another result.
func TestArgumentsAreLeftAlone(t *testing.T) {
	bits := row("1010111100001")
	bytes := []byte{1, 2, 3, 4}
	widths := []int{3, 2, 9}
	nums := []int{5, 1, 7}
	bits2, bytes2, widths2, nums2 := slices.Clone(bits), slices.Clone(bytes), slices.Clone(widths), slices.Clone(nums)

	Get(bits[:7])
	Bytes(bits[:7])
	Unpack(widths[:2], bits[:5])
	packed, _ := Pack(widths[:2], nums[:2])
	of := Of(bytes[:3])
	for _, out := range [][]bool{packed, of} {
		for i := range out {
			out[i] = !out[i]
		}
	}
	if !slices.Equal(bits, bits2) || !slices.Equal(bytes, bytes2) || !slices.Equal(widths, widths2) || !slices.Equal(nums, nums2) {
		t.Errorf("an argument has changed: %v %v %v %v", bits, bytes, widths, nums)
	}
	if again, _ := Pack(widths[:2], nums[:2]); digits(again) != "10101" {
		t.Errorf("Pack depends on an earlier result: %s", digits(again))
	}
}

// AA3: nil and an empty slice are the same argument.
func TestNilAndEmpty(t *testing.T) {
	for _, b := range [][]bool{nil, {}} {
		if n, err := Get(b); n != 0 || err != api.OK {
			t.Errorf("Get of no bits = %d, %d", n, err)
		}
		if got := Bytes(b); len(got) != 0 {
			t.Errorf("Bytes of no bits = %v", got)
		}
		for _, widths := range [][]int{nil, {}} {
			if got, err := Unpack(widths, b); len(got) != 0 || err != api.OK {
				t.Errorf("Unpack of nothing = %v, %d", got, err)
			}
			for _, nums := range [][]int{nil, {}} {
				if got, err := Pack(widths, nums); len(got) != 0 || err != api.OK {
					t.Errorf("Pack of nothing = %v, %d", got, err)
				}
			}
		}
	}
	for _, l := range [][]byte{nil, {}} {
		if got := Of(l); len(got) != 0 {
			t.Errorf("Of no bytes = %v", got)
		}
	}
}
