package field

import (
	"math"
	"math/big"
	"math/rand"
	"slices"
	"testing"

	"slotwright/api"
)

const (
	huge  = math.MaxInt
	least = math.MinInt
	most  = api.MaxOps
	full  = 8 * most // the bits of the longest buffer
)

// numbers are values of each number around the limits, and such as only a narrower type or a sum that does not fit takes for valid.
var numbers = []int{least, least + 1, least + 61, -1 << 62, -1 << 32, -1<<32 + 1, -1<<32 + 8, -full, -most, -256, -255, -63, -62, -8, -2, -1, 0, 1, 2, 7, 8, 9, 15, 16, 17, 55, 56, 57, 61, 62, 63, 64, 65, 255, 256, 257, most - 1, most, most + 1, full - 63, full - 62, full - 61, full - 1, full, full + 1, 1 << 16, 1<<16 + 1, 1 << 29, 1<<31 - 1, 1 << 31, 1 << 32, 1<<32 + 1, 1<<32 + 8, 1 << 60, 1 << 61, 1<<61 + 1, 1 << 62, huge - 63, huge - 62, huge - 61, huge - 1, huge}

// high returns a field with Big true.
func high(from, wide int) api.Field { return api.Field{From: from, Wide: wide, Big: true} }

// low returns a field with Big false.
func low(from, wide int) api.Field { return api.Field{From: from, Wide: wide} }

// same returns n bytes v.
func same(n int, v byte) []byte { return slices.Repeat([]byte{v}, n) }

// someBytes returns n bytes of any values.
func someBytes(r *rand.Rand, n int) []byte {
	b := make([]byte, n)
	r.Read(b)
	return b
}

// allFields returns all valid fields of so many bytes.
func allFields(bytes int) []api.Field {
	var list []api.Field
	for wide := 1; wide <= min(62, 8*bytes); wide++ {
		for from := range 8*bytes - wide + 1 {
			list = append(list, high(from, wide), low(from, wide))
		}
	}
	return list
}

// someField returns a valid field of so many bytes, at least one.
func someField(r *rand.Rand, bytes int) api.Field {
	wide := 1 + r.Intn(min(62, 8*bytes))
	return api.Field{From: r.Intn(8*bytes - wide + 1), Wide: wide, Big: r.Intn(2) == 0}
}

// greatest returns the greatest value of a field.
func greatest(f api.Field) int { return int(uint64(math.MaxUint64) >> (64 - f.Wide)) }

// wrong tells what Wrong must return.
func wrong(f api.Field, bytes int) api.Errno {
	if bytes < 0 || bytes > 400 || f.Wide <= 0 || f.Wide >= 63 || f.From < 0 {
		return api.ErrRange
	}
	if uint64(f.From)+uint64(f.Wide) > uint64(bytes)*8 {
		return api.ErrShort
	}
	return api.OK
}

// whole returns the buffer as one number, in which a field with this Big is one row of digits.
func whole(b []byte, isBig bool) *big.Int {
	b = slices.Clone(b)
	if !isBig {
		slices.Reverse(b)
	}
	return new(big.Int).SetBytes(b)
}

// below tells how many digits of that number are below the field.
func below(f api.Field, bytes int) uint {
	if f.Big {
		return uint(8*bytes - f.From - f.Wide)
	}
	return uint(f.From)
}

// expectedGet tells what Get must return, from the buffer as one number.
func expectedGet(b []byte, f api.Field) (int, api.Errno) {
	if err := wrong(f, len(b)); err != api.OK {
		return 0, err
	}
	upper := new(big.Int).Rsh(whole(b, f.Big), below(f, len(b)))
	n := new(big.Int).Mod(upper, new(big.Int).Lsh(big.NewInt(1), uint(f.Wide)))
	return int(n.Int64()), api.OK
}

// expectedSet tells what Set must return: it adds to the buffer as one number what the value of the field changes by.
func expectedSet(b []byte, f api.Field, n int) ([]byte, api.Errno) {
	before, err := expectedGet(b, f)
	if err != api.OK {
		return nil, err
	}
	if n < 0 || big.NewInt(int64(n)).BitLen() > f.Wide {
		return nil, api.ErrRange
	}
	change := new(big.Int).Lsh(big.NewInt(int64(n-before)), below(f, len(b)))
	result := change.Add(change, whole(b, f.Big)).FillBytes(make([]byte, len(b)))
	if !f.Big {
		slices.Reverse(result)
	}
	return result, api.OK
}

// ones returns a buffer in which just the bits of the field are 1.
func ones(f api.Field, bytes int) []byte {
	b, _ := expectedSet(make([]byte, bytes), f, greatest(f))
	return b
}

// meet tells whether two buffers both have a 1 somewhere.
func meet(a, b []byte) bool {
	for at := range a {
		if a[at]&b[at] != 0 {
			return true
		}
	}
	return false
}

// expectedApart tells what Apart must return, from buffers with just the bits of one of the fields.
func expectedApart(a, b api.Field, bytes int) (bool, api.Errno) {
	if err := wrong(a, bytes); err != api.OK {
		return false, err
	}
	if err := wrong(b, bytes); err != api.OK {
		return false, err
	}
	return !meet(ones(a, bytes), ones(b, bytes)), api.OK
}

// expectedMove tells what Move must return.
func expectedMove(from []byte, a []api.Field, to []byte, b []api.Field) ([]byte, api.Errno) {
	if len(a) != len(b) {
		return nil, api.ErrForm
	}
	for index, f := range a {
		n, err := expectedGet(from, f)
		if err == api.OK {
			to, err = expectedSet(to, b[index], n)
		}
		if err != api.OK {
			return nil, err
		}
	}
	return to, api.OK
}

// get calls Get, and demands that the buffer stays as it was.
func get(t *testing.T, b []byte, f api.Field) (int, api.Errno) {
	t.Helper()
	before := slices.Clone(b)
	n, err := Get(b, f)
	if !slices.Equal(b, before) {
		t.Fatalf("Get(%v, %v) changes the buffer to %v", before, f, b)
	}
	return n, err
}

// set calls Set, and demands that the buffer stays as it was, also when the result changes.
func set(t *testing.T, b []byte, f api.Field, n int) ([]byte, api.Errno) {
	t.Helper()
	before := slices.Clone(b)
	result, err := Set(b, f, n)
	copied := slices.Clone(result)
	invert(result[:cap(result)])
	if !slices.Equal(b, before) {
		t.Fatalf("Set(%v, %v, %d) changes the buffer to %v", before, f, n, b)
	}
	return copied, err
}

// invert turns all bits of a buffer over.
func invert(b []byte) {
	for at := range b {
		b[at] ^= 255
	}
}

// move calls Move, and demands that the arguments stay as they were, also when the result changes.
func move(t *testing.T, from []byte, a []api.Field, to []byte, b []api.Field) ([]byte, api.Errno) {
	t.Helper()
	fromBefore, aBefore, toBefore, bBefore := slices.Clone(from), slices.Clone(a), slices.Clone(to), slices.Clone(b)
	result, err := Move(from, a, to, b)
	copied := slices.Clone(result)
	invert(result[:cap(result)])
	if !slices.Equal(from, fromBefore) || !slices.Equal(a, aBefore) || !slices.Equal(to, toBefore) || !slices.Equal(b, bBefore) {
		t.Fatalf("Move(%v, %v, %v, %v) changes the arguments to %v, %v, %v, %v", fromBefore, aBefore, toBefore, bBefore, from, a, to, b)
	}
	return copied, err
}

// checkWrong demands this result of Wrong, of the reference, and of the other functions as far as an error of the field decides.
func checkWrong(t *testing.T, name string, f api.Field, bytes int, want api.Errno) {
	t.Helper()
	if got := Wrong(f, bytes); got != want {
		t.Fatalf("%s: Wrong(%v, %d) = %d; want %d", name, f, bytes, got, want)
	}
	if got := wrong(f, bytes); got != want {
		t.Fatalf("%s: the reference finds the error %d for %v, %d; want %d", name, got, f, bytes, want)
	}
	if isApart, err := Apart(f, f, bytes); isApart || err != want {
		t.Fatalf("%s: Apart(%v, %v, %d) = %v, %d; want false, %d", name, f, f, bytes, isApart, err, want)
	}
	if bytes >= 0 && bytes <= 1000 {
		checkWithBuffer(t, name, f, bytes, want)
	}
}

// checkWithBuffer demands this error of the functions that have a buffer.
func checkWithBuffer(t *testing.T, name string, f api.Field, bytes int, want api.Errno) {
	t.Helper()
	b := same(bytes, 0)
	if n, err := get(t, b, f); n != 0 || err != want {
		t.Fatalf("%s: Get of %v in %d bytes 0 = %d, %d; want 0, %d", name, f, bytes, n, err, want)
	}
	result, err := set(t, b, f, 0)
	if err != want || want == api.OK && !slices.Equal(result, b) || want != api.OK && len(result) != 0 {
		t.Fatalf("%s: Set of %v in %d bytes 0 to 0 = %v, %d; want the error %d", name, f, bytes, result, err, want)
	}
	result, err = move(t, b, []api.Field{f}, b, []api.Field{f})
	if err != want || want == api.OK && !slices.Equal(result, b) || want != api.OK && len(result) != 0 {
		t.Fatalf("%s: Move of %v in %d bytes 0 = %v, %d; want the error %d", name, f, bytes, result, err, want)
	}
}

// checkGet demands this result of Get and of the reference.
func checkGet(t *testing.T, name string, b []byte, f api.Field, want int, wantErr api.Errno) {
	t.Helper()
	if got, err := get(t, b, f); got != want || err != wantErr {
		t.Fatalf("%s: Get(%v, %v) = %d, %d; want %d, %d", name, b, f, got, err, want, wantErr)
	}
	if got, err := expectedGet(b, f); got != want || err != wantErr {
		t.Fatalf("%s: the reference gets %d, %d from %v, %v; want %d, %d", name, got, err, b, f, want, wantErr)
	}
}

// checkSet demands this result of Set and of the reference, and that Get returns what has been set.
func checkSet(t *testing.T, name string, b []byte, f api.Field, n int, want []byte, wantErr api.Errno) {
	t.Helper()
	if got, err := set(t, b, f, n); !slices.Equal(got, want) || err != wantErr {
		t.Fatalf("%s: Set(%v, %v, %d) = %v, %d; want %v, %d", name, b, f, n, got, err, want, wantErr)
	}
	if got, err := expectedSet(b, f, n); !slices.Equal(got, want) || err != wantErr {
		t.Fatalf("%s: the reference sets %v, %v to %d as %v, %d; want %v, %d", name, b, f, n, got, err, want, wantErr)
	}
	if wantErr == api.OK {
		checkGet(t, name, want, f, n, api.OK)
	}
}

// checkApart demands this result of Apart and of the reference, and without an error also with the fields changed over.
func checkApart(t *testing.T, name string, a, b api.Field, bytes int, want bool, wantErr api.Errno) {
	t.Helper()
	if got, err := Apart(a, b, bytes); got != want || err != wantErr {
		t.Fatalf("%s: Apart(%v, %v, %d) = %v, %d; want %v, %d", name, a, b, bytes, got, err, want, wantErr)
	}
	if got, err := expectedApart(a, b, bytes); got != want || err != wantErr {
		t.Fatalf("%s: the reference finds %v, %d for %v, %v, %d; want %v, %d", name, got, err, a, b, bytes, want, wantErr)
	}
	if got, err := Apart(b, a, bytes); wantErr == api.OK && (got != want || err != api.OK) {
		t.Fatalf("%s: Apart(%v, %v, %d) = %v, %d; want %v, 0", name, b, a, bytes, got, err, want)
	}
}

// checkMove demands this result of Move and of the reference.
func checkMove(t *testing.T, name string, from []byte, a []api.Field, to []byte, b []api.Field, want []byte, wantErr api.Errno) {
	t.Helper()
	if got, err := move(t, from, a, to, b); !slices.Equal(got, want) || err != wantErr {
		t.Fatalf("%s: Move(%v, %v, %v, %v) = %v, %d; want %v, %d", name, from, a, to, b, got, err, want, wantErr)
	}
	if got, err := expectedMove(from, a, to, b); !slices.Equal(got, want) || err != wantErr {
		t.Fatalf("%s: the reference moves %v, %v, %v, %v to %v, %d; want %v, %d", name, from, a, to, b, got, err, want, wantErr)
	}
}

// compareSet demands of Set and Get what the references find.
func compareSet(t *testing.T, b []byte, f api.Field, n int) {
	t.Helper()
	want, err := expectedSet(b, f, n)
	checkSet(t, "against the reference", b, f, n, want, err)
}

// compareMove demands of Move what the reference finds, and returns its error.
func compareMove(t *testing.T, from []byte, a []api.Field, to []byte, b []api.Field) api.Errno {
	t.Helper()
	want, err := expectedMove(from, a, to, b)
	checkMove(t, "against the reference", from, a, to, b, want, err)
	return err
}

// W1: fields by hand.
func TestWrong(t *testing.T) {
	for _, c := range []struct {
		name              string
		from, wide, bytes int
		want              api.Errno
	}{
		{"-1 bytes", 0, 1, -1, api.ErrRange},
		{"no byte", 0, 1, 0, api.ErrShort},
		{"no byte, the widest field", 0, 62, 0, api.ErrShort},
		{"one byte", 0, 1, 1, api.OK},
		{"one byte, whole", 0, 8, 1, api.OK},
		{"one byte, one bit too many", 0, 9, 1, api.ErrShort},
		{"one byte, from 1, one bit too many", 1, 8, 1, api.ErrShort},
		{"one byte, from 1 to the end", 1, 7, 1, api.OK},
		{"one byte, from 1, one bit less", 1, 6, 1, api.OK},
		{"one byte, the last bit", 7, 1, 1, api.OK},
		{"one byte, beyond the last bit", 7, 2, 1, api.ErrShort},
		{"one byte, behind the last bit", 8, 1, 1, api.ErrShort},
		{"MaxOps bytes", 0, 1, most, api.OK},
		{"MaxOps bytes, the last bit", full - 1, 1, most, api.OK},
		{"MaxOps bytes, behind the last bit", full, 1, most, api.ErrShort},
		{"MaxOps bytes, the last 62 bits", full - 62, 62, most, api.OK},
		{"MaxOps bytes, one bit before the end", full - 63, 62, most, api.OK},
		{"MaxOps bytes, one bit too many", full - 61, 62, most, api.ErrShort},
		{"MaxOps + 1 bytes", 0, 1, most + 1, api.ErrRange},
		{"MaxOps + 1 bytes, the last bit", full + 7, 1, most + 1, api.ErrRange},
		{"Wide 0", 0, 0, 1, api.ErrRange},
		{"Wide 0, behind the last bit", 8, 0, 1, api.ErrRange},
		{"Wide 1", 3, 1, 1, api.OK},
		{"Wide 62", 0, 62, 8, api.OK},
		{"Wide 62, to the end", 2, 62, 8, api.OK},
		{"Wide 62, one bit too many", 3, 62, 8, api.ErrShort},
		{"Wide 63", 0, 63, 8, api.ErrRange},
		{"Wide 64", 0, 64, 8, api.ErrRange},
		{"Wide 65", 0, 65, 16, api.ErrRange},
		{"Wide -1", 0, -1, 1, api.ErrRange},
		{"Wide -1, from 9", 9, -1, 1, api.ErrRange},
		{"the least Wide", 0, least, 1, api.ErrRange},
		{"From -1", -1, 1, 1, api.ErrRange},
		{"From -1, to the end", -1, 9, 1, api.ErrRange},
		{"the least From", least, 1, 1, api.ErrRange},
		{"the greatest From", huge, 1, 1, api.ErrShort},
		{"the greatest From, the widest field", huge, 62, 1, api.ErrShort},
		{"the greatest From, MaxOps bytes", huge, 62, most, api.ErrShort},
		{"the greatest sum that fits", huge - 62, 62, most, api.ErrShort},
		{"the least sum that does not fit", huge - 61, 62, most, api.ErrShort},
		{"the greatest From, no byte", huge, 1, 0, api.ErrShort},
	} {
		checkWrong(t, c.name, high(c.from, c.wide), c.bytes, c.want)
		checkWrong(t, c.name, low(c.from, c.wide), c.bytes, c.want)
	}
}

// W1: two errors at once.
func TestWrongTwice(t *testing.T) {
	for _, c := range []struct {
		name              string
		from, wide, bytes int
	}{
		{"Wide 63, too short", 0, 63, 1},
		{"Wide 63, no byte", 0, 63, 0},
		{"Wide 63, the greatest From", huge, 63, 1},
		{"the greatest Wide, the greatest From", huge, huge, 1},
		{"the greatest Wide, too short", 0, huge, most},
		{"From -1, too short", -1, 62, 1},
		{"From -1, no byte", -1, 2, 0},
		{"From -1, Wide 0", -1, 0, 1},
		{"From -1, Wide 63", -1, 63, 8},
		{"-1 bytes, Wide 0", 0, 0, -1},
		{"-1 bytes, From -8", -9, 1, -1},
		{"-1 bytes, the greatest From", huge, 1, -1},
		{"too many bytes, Wide 63", 0, 63, most + 1},
		{"too many bytes, too short", 8*(most+1) - 1, 2, most + 1},
		{"too many bytes, the greatest From", huge, 62, most + 1},
		{"the greatest number of bytes, the greatest From", huge, 62, huge},
		{"a number of bytes whose bits do not fit", 0, 1, 1 << 61},
		{"the least number of bytes", 0, 1, least},
	} {
		checkWrong(t, c.name, high(c.from, c.wide), c.bytes, api.ErrRange)
		checkWrong(t, c.name, low(c.from, c.wide), c.bytes, api.ErrRange)
	}
}

// W1: all combinations of numbers around the limits.
func TestWrongAgainstReference(t *testing.T) {
	count := map[api.Errno]int{}
	for _, bytes := range numbers {
		for _, wide := range numbers {
			for _, from := range numbers {
				for _, isBig := range []bool{false, true} {
					f := api.Field{From: from, Wide: wide, Big: isBig}
					want := wrong(f, bytes)
					if got := Wrong(f, bytes); got != want {
						t.Fatalf("Wrong(%v, %d) = %d; want %d", f, bytes, got, want)
					}
					count[want]++
				}
			}
		}
	}
	if count[api.OK] < 1000 || count[api.ErrRange] < 1000 || count[api.ErrShort] < 1000 {
		t.Errorf("the results: %v", count)
	}
}

// W1: all fields around the end of each buffer.
func TestEnds(t *testing.T) {
	for bytes := range most + 1 {
		for wide := 1; wide <= 62; wide++ {
			for _, f := range []api.Field{high(8*bytes-wide, wide), low(8*bytes-wide, wide)} {
				for apart := -1; apart <= 1; apart++ {
					moved, want := f, api.OK
					moved.From += apart
					if moved.From < 0 {
						want = api.ErrRange
					} else if apart == 1 {
						want = api.ErrShort
					}
					if got := Wrong(moved, bytes); got != want {
						t.Fatalf("Wrong(%v, %d) = %d; want %d", moved, bytes, got, want)
					}
				}
			}
		}
	}
}

// W2: values by hand: at the borders of bytes, and within one byte and two bytes.
func TestGetOfTwoBytes(t *testing.T) {
	b := []byte{0x12, 0x34} // 00010010 00110100
	for _, c := range []struct {
		name       string
		from, wide int
		high, low  int
	}{
		{"the example", 4, 8, 0x23, 0x41},
		{"the first byte", 0, 8, 0x12, 0x12},
		{"the second byte", 8, 8, 0x34, 0x34},
		{"both bytes", 0, 16, 0x1234, 0x3412},
		{"the first half of a byte", 0, 4, 1, 2},
		{"the second half of a byte", 4, 4, 2, 1},
		{"the first half of the second byte", 8, 4, 3, 4},
		{"the second half of the second byte", 12, 4, 4, 3},
		{"bit 0", 0, 1, 0, 0},
		{"bit 1", 1, 1, 0, 1},
		{"bit 3", 3, 1, 1, 0},
		{"bit 4", 4, 1, 0, 1},
		{"bit 6", 6, 1, 1, 0},
		{"bit 7", 7, 1, 0, 0},
		{"bit 8", 8, 1, 0, 0},
		{"bit 10", 10, 1, 1, 1},
		{"bit 12", 12, 1, 0, 1},
		{"bit 13", 13, 1, 1, 1},
		{"bit 15", 15, 1, 0, 0},
		{"in the middle of a byte", 2, 3, 2, 4},
		{"in the middle of a byte, of four bits", 1, 4, 2, 9},
		{"over the border", 6, 5, 17, 16},
		{"two bits over the border", 7, 2, 0, 0},
		{"from the first bit over the border", 0, 9, 0x24, 0x12},
		{"over the border to the last bit", 7, 9, 0x34, 0x68},
		{"from a border on", 8, 3, 1, 4},
		{"to a border", 3, 5, 18, 2},
		{"all but the ends", 1, 14, 0x91a, 0x1a09},
	} {
		checkGet(t, c.name, b, high(c.from, c.wide), c.high, api.OK)
		checkGet(t, c.name, b, low(c.from, c.wide), c.low, api.OK)
	}
}

// W2: values by hand that reach over several bytes.
func TestGetOfSeveralBytes(t *testing.T) {
	b := []byte{0x01, 0x23, 0x45, 0x67, 0x89, 0xab, 0xcd, 0xef, 0xfe}
	for _, c := range []struct {
		name       string
		from, wide int
		high, low  int
	}{
		{"three bytes", 8, 24, 0x234567, 0x674523},
		{"four bytes, from the middle", 4, 28, 0x1234567, 0x6745230},
		{"four bytes, between borders", 8, 32, 0x23456789, 0x89674523},
		{"five bytes, from a middle to a middle", 12, 32, 0x3456789a, 0xb8967452},
		{"eight bytes, from the start", 0, 60, 0x0123456789abcde, 0xfcdab8967452301},
		{"eight bytes, to a border", 4, 60, 0x123456789abcdef, 0xefcdab896745230},
		{"eight bytes, 62 bits from the start", 0, 62, 0x0123456789abcdef >> 2, 0x2fcdab8967452301},
		{"eight bytes, 62 bits to the border", 2, 62, 0x0123456789abcdef, 0x3bf36ae259d148c0},
		{"nine bytes, from the middle", 4, 62, 0x123456789abcdef<<2 | 3, 2<<60 | 0xefcdab896745230},
		{"nine bytes, from the last bit of a byte", 7, 62, 1<<61 | 0x23456789abcdef<<5 | 31, 30<<57 | 0xefcdab89674523<<1},
		{"nine bytes, 61 bits", 6, 61, 1<<59 | 0x23456789abcdef<<3 | 7, 6<<58 | 0xefcdab89674523<<2},
		{"nine bytes, as few bits as they can have", 7, 58, 1<<57 | 0x23456789abcdef<<1 | 1, 0xefcdab89674523 << 1},
		{"the last byte", 64, 8, 0xfe, 0xfe},
	} {
		checkGet(t, c.name, b, high(c.from, c.wide), c.high, api.OK)
		checkGet(t, c.name, b, low(c.from, c.wide), c.low, api.OK)
	}
}

// W2: the field of all bits of a short buffer.
func TestFieldOfAllBits(t *testing.T) {
	for _, c := range []struct {
		b         []byte
		high, low int
	}{
		{[]byte{0x9a}, 0x9a, 0x9a},
		{[]byte{0x9a, 0xbc}, 0x9abc, 0xbc9a},
		{[]byte{0x9a, 0xbc, 0xde}, 0x9abcde, 0xdebc9a},
		{[]byte{1, 2, 3, 4}, 0x01020304, 0x04030201},
		{[]byte{0xff, 0, 0, 0, 0xfe}, 0xff000000fe, 0xfe000000ff},
		{[]byte{0x80, 0, 0, 0, 0, 0}, 0x800000000000, 0x80},
		{[]byte{0x81, 1, 2, 3, 4, 5, 0xc0}, 0x810102030405c0, 0xc0050403020181},
	} {
		size := len(c.b)
		checkGet(t, "all bits", c.b, high(0, 8*size), c.high, api.OK)
		checkGet(t, "all bits", c.b, low(0, 8*size), c.low, api.OK)
		for _, before := range []byte{0, 255, 0x5a} {
			checkSet(t, "all bits", same(size, before), high(0, 8*size), c.high, c.b, api.OK)
			checkSet(t, "all bits", same(size, before), low(0, 8*size), c.low, c.b, api.OK)
		}
	}
}

// W2: buffers by hand.
func TestSet(t *testing.T) {
	for _, c := range []struct {
		name string
		b    []byte
		f    api.Field
		n    int
		want []byte
	}{
		{"the example", []byte{0, 0}, high(4, 8), 0x23, []byte{0x02, 0x30}},
		{"the example, Big false", []byte{0, 0}, low(4, 8), 0x41, []byte{0x10, 0x04}},
		{"between ones", []byte{255, 255}, high(4, 8), 0x23, []byte{0xf2, 0x3f}},
		{"between ones, Big false", []byte{255, 255}, low(4, 8), 0x41, []byte{0x1f, 0xf4}},
		{"between others", []byte{0x9a, 0xbc}, high(4, 8), 0x23, []byte{0x92, 0x3c}},
		{"between others, Big false", []byte{0x9a, 0xbc}, low(4, 8), 0x41, []byte{0x1a, 0xb4}},
		{"one bit", []byte{0}, high(0, 1), 1, []byte{0x80}},
		{"one bit, Big false", []byte{0}, low(0, 1), 1, []byte{1}},
		{"one bit, to 0", []byte{255}, high(1, 1), 0, []byte{0xbf}},
		{"one bit, to 0, Big false", []byte{255}, low(1, 1), 0, []byte{0xfd}},
		{"within one byte", []byte{0x81, 0x81}, high(9, 6), 0x2d, []byte{0x81, 0xdb}},
		{"within one byte, Big false", []byte{0x81, 0x81}, low(9, 6), 0x2d, []byte{0x81, 0xdb}},
		{"a byte", []byte{1, 2, 3}, high(8, 8), 200, []byte{1, 200, 3}},
		{"a byte, Big false", []byte{1, 2, 3}, low(8, 8), 200, []byte{1, 200, 3}},
		{"three bytes", []byte{0xff, 0xff, 0xff}, high(6, 12), 0x801, []byte{0xfe, 0x00, 0x7f}},
		{"three bytes, Big false", []byte{0xff, 0xff, 0xff}, low(6, 12), 0x801, []byte{0x7f, 0x00, 0xfe}},
		{"nine bytes", same(9, 0), high(7, 62), 1<<61 | 1, []byte{1, 0, 0, 0, 0, 0, 0, 0, 8}},
		{"nine bytes, Big false", same(9, 0), low(7, 62), 1<<61 | 1, []byte{0x80, 0, 0, 0, 0, 0, 0, 0, 0x10}},
		{"nine bytes between ones", same(9, 255), high(5, 62), 2, []byte{0xf8, 0, 0, 0, 0, 0, 0, 0, 0x5f}},
		{"nine bytes between ones, Big false", same(9, 255), low(5, 62), 2, []byte{0x5f, 0, 0, 0, 0, 0, 0, 0, 0xf8}},
		{"as it is", []byte{0x12, 0x34}, high(4, 8), 0x23, []byte{0x12, 0x34}},
		{"as it is, Big false", []byte{0x12, 0x34}, low(4, 8), 0x41, []byte{0x12, 0x34}},
	} {
		checkSet(t, c.name, c.b, c.f, c.n, c.want, api.OK)
	}
}

// W2: every field of nine bytes with a Wide of 1, 8, 61 and 62, set to the numbers around its limits.
func TestSetToLimits(t *testing.T) {
	r := rand.New(rand.NewSource(1))
	for _, f := range allFields(9) {
		if !slices.Contains([]int{1, 8, 61, 62}, f.Wide) {
			continue
		}
		for _, b := range [][]byte{same(9, 0), same(9, 255), someBytes(r, 9)} {
			for _, n := range []int{0, 1<<f.Wide - 1} {
				compareSet(t, b, f, n)
				checkOutside(t, b, f, n)
			}
			for _, n := range []int{1 << f.Wide, -1, 1<<f.Wide + 1, -1 << f.Wide, 1<<32 + 1<<f.Wide, 1 << 62, -1 << 62, huge, least} {
				checkSet(t, "beyond the limits", b, f, n, nil, api.ErrRange)
			}
		}
	}
}

// checkOutside demands that Set leaves every bit outside the field as it was, and makes every bit within it that of n.
func checkOutside(t *testing.T, b []byte, f api.Field, n int) {
	t.Helper()
	after, err := set(t, b, f, n)
	if err != api.OK || len(after) != len(b) {
		t.Fatalf("Set(%v, %v, %d) = %v, %d", b, f, n, after, err)
	}
	for number := range 8 * len(b) {
		at, exponent := number/8, number%8
		weight := number - f.From
		if f.Big {
			exponent, weight = 7-exponent, f.From+f.Wide-1-number
		}
		want := int(b[at]) >> exponent & 1
		if number >= f.From && number < f.From+f.Wide {
			want = n >> weight & 1
		}
		if int(after[at])>>exponent&1 != want {
			t.Fatalf("Set(%v, %v, %d) = %v; the bit %d is not %d", b, f, n, after, number, want)
		}
	}
}

// W2: a wrong field, set to a wrong number.
func TestSetOfWrongFieldToWrongNumber(t *testing.T) {
	for _, n := range []int{-1, 2, 256, 1 << 62, least, huge, 0, 1} {
		for _, f := range []api.Field{high(16, 1), low(16, 1), high(15, 2), low(15, 2), high(huge, 62), low(huge, 62), high(0, 17), low(0, 17)} {
			checkSet(t, "too short", []byte{1, 2}, f, n, nil, api.ErrShort)
			checkSet(t, "no byte", nil, f, n, nil, api.ErrShort)
			checkSet(t, "no byte, not nil", []byte{}, f, n, nil, api.ErrShort)
			checkSet(t, "too many bytes", same(most+1, 1), f, n, nil, api.ErrRange)
		}
		for _, f := range []api.Field{high(0, 0), low(0, 0), high(-1, 1), low(-1, 1), high(0, 63), low(0, 63), high(0, -1), low(0, least)} {
			checkSet(t, "out of range", same(8, 1), f, n, nil, api.ErrRange)
			checkSet(t, "out of range, too short", nil, f, n, nil, api.ErrRange)
		}
	}
}

// W2: all fields of a byte, in all bytes, set to all numbers.
func TestAllFieldsOfAByte(t *testing.T) {
	for _, f := range allFields(1) {
		for b := range 256 {
			buffer := []byte{byte(b)}
			want, err := expectedGet(buffer, f)
			checkGet(t, "against the reference", buffer, f, want, err)
			if b%17 == 0 || b == 0x5a || b == 0xa5 {
				for n := -2; n <= 257; n++ {
					compareSet(t, buffer, f, n)
				}
			}
		}
	}
}

// W2: all fields of buffers of up to nine bytes.
func TestAllFields(t *testing.T) {
	r := rand.New(rand.NewSource(2))
	for bytes := 1; bytes <= 9; bytes++ {
		for _, f := range allFields(bytes) {
			b := someBytes(r, bytes)
			want, err := expectedGet(b, f)
			checkGet(t, "against the reference", b, f, want, err)
			checkSet(t, "to its value", b, f, want, b, api.OK)
			compareSet(t, b, f, r.Intn(1<<f.Wide))
			compareSet(t, b, f, greatest(f))
		}
	}
}

// W2: any fields of buffers of any length.
func TestLongBuffers(t *testing.T) {
	r := rand.New(rand.NewSource(3))
	for range 3000 {
		b := someBytes(r, 1+r.Intn(most))
		f := someField(r, len(b))
		compareSet(t, b, f, r.Intn(1<<f.Wide))
		compareSet(t, b, f, 1<<f.Wide)
		f.From = 8*len(b) - r.Intn(2*f.Wide)
		compareSet(t, b, f, 0)
	}
	last := same(most, 0)
	last[most-1] = 0x40
	checkSet(t, "the last bits of the longest buffer", same(most, 0), high(full-7, 7), 0x40, last, api.OK)
	checkSet(t, "the last bits of the longest buffer, Big false", same(most, 0), low(full-2, 2), 1, last, api.OK)
}

// W2: two fields of the same kind.
func TestApartOfOneKind(t *testing.T) {
	for _, c := range []struct {
		name                         string
		oneFrom, oneWide, from, wide int
		want                         bool
	}{
		{"equal", 3, 5, 3, 5, false},
		{"equal, one bit", 9, 1, 9, 1, false},
		{"equal, over a border", 5, 10, 5, 10, false},
		{"one bit in common", 0, 5, 4, 5, false},
		{"one bit in common, at a border", 0, 9, 8, 8, false},
		{"one bit in common, before a border", 0, 8, 7, 8, false},
		{"several bits in common", 0, 12, 4, 12, false},
		{"touching", 0, 5, 5, 5, true},
		{"touching at a border", 0, 8, 8, 8, true},
		{"touching before a border", 3, 4, 7, 9, true},
		{"touching bits", 3, 1, 4, 1, true},
		{"touching bits at a border", 7, 1, 8, 1, true},
		{"apart", 0, 3, 10, 4, true},
		{"apart in one byte", 0, 3, 4, 4, true},
		{"the ends", 0, 1, 15, 1, true},
		{"one within the other", 2, 10, 4, 3, false},
		{"one within the other, from its start", 2, 10, 2, 3, false},
		{"one within the other, to its end", 2, 10, 9, 3, false},
		{"one bit within the other", 0, 16, 7, 1, false},
	} {
		checkApart(t, c.name, high(c.oneFrom, c.oneWide), high(c.from, c.wide), 2, c.want, api.OK)
		checkApart(t, c.name, low(c.oneFrom, c.oneWide), low(c.from, c.wide), 2, c.want, api.OK)
	}
	for _, wide := range []int{61, 62} {
		checkApart(t, "wide, touching", high(5, wide), high(5+wide, wide), most, true, api.OK)
		checkApart(t, "wide, touching", low(5, wide), low(5+wide, wide), most, true, api.OK)
		checkApart(t, "wide, one bit in common", high(5, wide), high(4+wide, wide), most, false, api.OK)
		checkApart(t, "wide, one bit in common", low(5, wide), low(4+wide, wide), most, false, api.OK)
	}
	checkApart(t, "the ends of the longest buffer", high(0, 62), high(full-62, 62), most, true, api.OK)
	checkApart(t, "the ends of the longest buffer", low(0, 62), low(full-62, 62), most, true, api.OK)
}

// W2: two fields of different kinds.
func TestApartOfTwoKinds(t *testing.T) {
	for _, c := range []struct {
		name  string
		high  api.Field
		low   api.Field
		bytes int
		want  bool
	}{
		{"the same numbers, different bits", high(0, 1), low(0, 1), 1, true},
		{"different numbers, the same bit", high(0, 1), low(7, 1), 1, false},
		{"different numbers, the same bit, at the other end", high(7, 1), low(0, 1), 1, false},
		{"different numbers, the same bit, in the middle", high(3, 1), low(4, 1), 1, false},
		{"the same number in the middle", high(3, 1), low(3, 1), 1, true},
		{"the same numbers, different halves", high(0, 4), low(0, 4), 1, true},
		{"different numbers, the same half", high(0, 4), low(4, 4), 1, false},
		{"one bit more than half", high(0, 5), low(0, 4), 1, false},
		{"one bit more than half, the other one", high(0, 4), low(0, 5), 1, false},
		{"the other halves", high(4, 4), low(4, 4), 1, true},
		{"the other halves, one bit more", high(3, 5), low(4, 4), 1, false},
		{"the same numbers in the middle", high(2, 3), low(2, 3), 1, false},
		{"the middle, touching", high(1, 2), low(2, 3), 1, true},
		{"a whole byte", high(0, 8), low(0, 8), 1, false},
		{"a bit of a whole byte", high(0, 8), low(3, 1), 1, false},
		{"different bytes", high(0, 8), low(8, 8), 2, true},
		{"different bytes, the other way round", high(8, 8), low(0, 8), 2, true},
		{"different bytes, neighbouring numbers", high(7, 1), low(8, 1), 2, true},
		{"different numbers, the same bit of the second byte", high(8, 1), low(15, 1), 2, false},
		{"the same numbers in the second byte", high(8, 1), low(8, 1), 2, true},
		{"the same numbers over a border", high(4, 8), low(4, 8), 2, true},
		{"the same numbers over a border, one bit more", high(4, 8), low(4, 9), 2, false},
		{"the same numbers over a border, one bit before", high(4, 8), low(3, 8), 2, false},
		{"over a border, half of the first byte", high(4, 8), low(0, 4), 2, false},
		{"over a border, half of the second byte", high(4, 8), low(8, 4), 2, true},
		{"over a border, the other half of the second byte", high(4, 8), low(12, 4), 2, false},
		{"two whole bytes", high(0, 16), low(0, 16), 2, false},
		{"nine bytes, the rest of the first one", high(7, 62), low(1, 7), 9, true},
		{"nine bytes, their bit of the first one", high(7, 62), low(0, 1), 9, false},
		{"nine bytes, the rest of the last one", high(7, 62), low(64, 3), 9, true},
		{"nine bytes, one bit more of the last one", high(7, 62), low(64, 4), 9, false},
		{"nine bytes, one in the middle", high(7, 62), low(40, 1), 9, false},
		{"nine bytes and nine bytes", high(7, 62), low(5, 62), 9, false},
		{"the ends of the longest buffer", high(0, 62), low(full-62, 62), most, true},
		{"the last bit of the longest buffer", high(full-1, 1), low(full-8, 1), most, false},
	} {
		checkApart(t, c.name, c.high, c.low, c.bytes, c.want, api.OK)
	}
}

// W2: the errors of both fields, and which one comes first.
func TestApartOfWrongFields(t *testing.T) {
	good := []api.Field{high(0, 4), low(4, 4), high(8, 8)}
	short := []api.Field{high(16, 1), low(16, 1), high(15, 2), low(0, 17), high(huge, 1), low(huge, 62)}
	outside := []api.Field{high(0, 0), low(0, 0), high(0, -1), high(-1, 1), low(-1, 2), high(0, 63), low(huge, 63), high(least, least)}
	for _, g := range good {
		for _, s := range short {
			checkApart(t, "a too short", s, g, 2, false, api.ErrShort)
			checkApart(t, "b too short", g, s, 2, false, api.ErrShort)
			for _, o := range outside {
				checkApart(t, "a out of range", o, g, 2, false, api.ErrRange)
				checkApart(t, "b out of range", g, o, 2, false, api.ErrRange)
				checkApart(t, "a too short, b out of range", s, o, 2, false, api.ErrShort)
				checkApart(t, "a out of range, b too short", o, s, 2, false, api.ErrRange)
			}
		}
		for _, bytes := range []int{-1, most + 1, least, huge, 1 << 61} {
			checkApart(t, "the number of bytes", g, g, bytes, false, api.ErrRange)
			checkApart(t, "the number of bytes, two fields", g, low(0, 1), bytes, false, api.ErrRange)
		}
		checkApart(t, "no byte", g, g, 0, false, api.ErrShort)
	}
}

// W2: all pairs of fields of up to three bytes, and of fields of nine bytes.
func TestApartAgainstReference(t *testing.T) {
	r := rand.New(rand.NewSource(4))
	for bytes := 1; bytes <= 3; bytes++ {
		comparePairs(t, allFields(bytes), bytes)
	}
	var some []api.Field
	for range 400 {
		some = append(some, someField(r, 9))
	}
	comparePairs(t, some, 9)
}

// comparePairs demands the right result of Apart for all pairs of fields.
func comparePairs(t *testing.T, list []api.Field, bytes int) {
	t.Helper()
	var bits [][]byte
	for _, f := range list {
		bits = append(bits, ones(f, bytes))
	}
	for one, a := range list {
		for other, b := range list {
			want := !meet(bits[one], bits[other])
			if got, err := Apart(a, b, bytes); got != want || err != api.OK {
				t.Fatalf("Apart(%v, %v, %d) = %v, %d; want %v, 0", a, b, bytes, got, err, want)
			}
		}
	}
}

// fields returns its arguments.
func fields(list ...api.Field) []api.Field { return list }

// W2: moves by hand, without an error.
func TestMove(t *testing.T) {
	from := []byte{0x12, 0x34}
	for _, c := range []struct {
		name     string
		from     []byte
		a        []api.Field
		to       []byte
		b        []api.Field
		want     []byte
		reversed []byte // with both lists in the opposite order
	}{
		{"one field", from, fields(high(4, 8)), []byte{0, 0, 0}, fields(low(4, 8)), []byte{0x30, 2, 0}, []byte{0x30, 2, 0}},
		{"one field, the other way round", from, fields(low(4, 8)), []byte{255, 255}, fields(high(4, 8)), []byte{0xf4, 0x1f}, []byte{0xf4, 0x1f}},
		{"the same place", from, fields(high(4, 8)), []byte{255, 255}, fields(high(4, 8)), []byte{0xf2, 0x3f}, []byte{0xf2, 0x3f}},
		{"one bit", []byte{0x80}, fields(high(0, 1)), []byte{0}, fields(low(3, 1)), []byte{8}, []byte{8}},
		{"bytes changed over", from, fields(high(0, 8), high(8, 8)), []byte{0, 0}, fields(high(8, 8), high(0, 8)), []byte{0x34, 0x12}, []byte{0x34, 0x12}},
		{"three fields", from, fields(high(0, 4), high(4, 4), high(12, 4)), []byte{0xff, 0xff}, fields(high(12, 4), high(8, 4), high(0, 4)), []byte{0x4f, 0x21}, []byte{0x4f, 0x21}},
		{"one field to two places", from, fields(high(4, 4), high(4, 4)), []byte{0}, fields(high(0, 4), high(4, 4)), []byte{0x22}, []byte{0x22}},
		{"a wider field", []byte{0xff}, fields(high(0, 4)), []byte{0xff, 0xff}, fields(high(0, 12)), []byte{0, 0xff}, []byte{0, 0xff}},
		{"a narrower field that is wide enough", []byte{0x0f}, fields(high(0, 8)), []byte{0}, fields(high(0, 4)), []byte{0xf0}, []byte{0xf0}},
		{"a narrower field, 0", []byte{0, 0}, fields(high(0, 16)), []byte{255}, fields(low(3, 1)), []byte{0xf7}, []byte{0xf7}},
		{"overlapping in two bits", []byte{0xf0}, fields(high(0, 4), high(4, 4)), []byte{0}, fields(high(0, 4), high(2, 4)), []byte{0xc0}, []byte{0xf0}},
		{"two fields to the same place", from, fields(high(0, 8), high(8, 8)), []byte{9}, fields(high(0, 8), high(0, 8)), []byte{0x34}, []byte{0x12}},
		{"two fields to the same place, Big differs", from, fields(high(0, 4), low(4, 4), high(8, 4)), []byte{0xff}, fields(high(4, 4), low(0, 4), high(4, 4)), []byte{0xf3}, []byte{0xf1}},
		{"a field that hides an earlier one", from, fields(high(0, 4), high(0, 8)), []byte{0xff}, fields(high(2, 3), low(0, 8)), []byte{0x12}, []byte{0x0a}},
		{"a short buffer to a longer one", []byte{7}, fields(low(0, 3)), same(9, 0), fields(low(69, 3)), append(same(8, 0), 0xe0), append(same(8, 0), 0xe0)},
		{"a long buffer to a shorter one", append(same(8, 0), 0xe0), fields(low(69, 3)), []byte{0}, fields(high(0, 3)), []byte{0xe0}, []byte{0xe0}},
	} {
		checkMove(t, c.name, c.from, c.a, c.to, c.b, c.want, api.OK)
		a, b := slices.Clone(c.a), slices.Clone(c.b)
		slices.Reverse(a)
		slices.Reverse(b)
		checkMove(t, c.name+", in the opposite order", c.from, a, c.to, b, c.reversed, api.OK)
	}
}

// W2: no field.
func TestMoveOfNoField(t *testing.T) {
	none := fields()
	for _, n := range []int{0, 1, 2, 9, most, most + 1, 1 << 16} {
		to := same(n, 0x5a)
		for _, from := range [][]byte{nil, {}, {1}, same(most+1, 1)} {
			checkMove(t, "no field", from, nil, to, nil, to, api.OK)
			checkMove(t, "no field, lists not nil", from, none, to, none, to, api.OK)
			checkMove(t, "no field, one list nil", from, nil, to, none, to, api.OK)
		}
	}
	checkMove(t, "no field, no buffers", nil, nil, nil, nil, nil, api.OK)
}

// W2: many fields, one after the other in the same buffer.
func TestMoveOfManyFields(t *testing.T) {
	r := rand.New(rand.NewSource(5))
	from, want := someBytes(r, most), same(most, 0)
	var a, b []api.Field
	for bit := range full {
		a, b = append(a, high(bit, 1)), append(b, high(full-1-bit, 1))
		if from[bit/8]>>(7-bit%8)&1 == 1 {
			want[most-1-bit/8] |= 1 << (bit % 8)
		}
	}
	checkMove(t, "all bits in the opposite order", from, a, same(most, 255), b, want, api.OK)
	before := want
	for range 20 {
		a, b = append(a, low(0, 8)), append(b, high(8, 8))
	}
	want = slices.Clone(before)
	want[1] = from[0]
	checkMove(t, "a byte many times", from, a, same(most, 0), b, want, api.OK)
}

// W2: lists of different lengths, alone and with every other error.
func TestMoveOfDifferentLengths(t *testing.T) {
	for one := range 5 {
		for other := range 5 {
			if one == other {
				continue
			}
			for _, f := range []api.Field{high(0, 1), high(0, 8), high(8, 1), high(0, 0), low(-1, 1), low(huge, 62)} {
				for _, g := range []api.Field{low(0, 1), high(8, 1), high(0, 63)} {
					a, b := slices.Repeat(fields(f), one), slices.Repeat(fields(g), other)
					checkMove(t, "different lengths", []byte{255}, a, []byte{0}, b, nil, api.ErrForm)
					checkMove(t, "different lengths, no buffers", nil, a, nil, b, nil, api.ErrForm)
					checkMove(t, "different lengths, long buffers", same(most+1, 0), a, same(most+1, 0), b, nil, api.ErrForm)
				}
			}
		}
	}
}

// W2: a value that does not fit the narrower field, for all pairs of Wide.
func TestMoveToNarrowerField(t *testing.T) {
	for one := 1; one <= 62; one++ {
		for other := 1; other <= 62; other++ {
			for _, from := range [][]byte{ones(high(3, one), 9), ones(high(2+one, 1), 9), ones(high(max(3, 3+one-other), min(one, other)), 9)} {
				n, _ := expectedGet(from, high(3, one))
				want := api.OK
				if n > greatest(high(0, other)) {
					want = api.ErrRange
				}
				for _, f := range []api.Field{high(4, other), low(4, other)} {
					if got := compareMove(t, from, fields(high(3, one)), same(9, 255), fields(f)); got != want {
						t.Fatalf("Move of %d to %v has the error %d; want %d", n, f, got, want)
					}
				}
			}
		}
	}
	checkMove(t, "one bit too narrow", []byte{0x13}, fields(high(0, 8)), []byte{0}, fields(high(0, 4)), nil, api.ErrRange)
	checkMove(t, "just wide enough", []byte{0x13}, fields(high(0, 8)), []byte{0}, fields(high(0, 5)), []byte{0x98}, api.OK)
}

// W2: an error of Get, of Set and of both at each index, of lists of up to five fields.
func TestMoveWithErrors(t *testing.T) {
	from, to := []byte{255, 255}, []byte{0, 0, 0}
	good, short, outside := high(3, 4), high(huge, 4), high(3, 63)
	for n := 1; n <= 5; n++ {
		for at := range n {
			for _, c := range []struct {
				name string
				f, g api.Field
				want api.Errno
			}{
				{"Get too short", short, good, api.ErrShort},
				{"Get out of range", outside, good, api.ErrRange},
				{"Get too short, Set out of range", short, outside, api.ErrShort},
				{"Get out of range, Set too short", outside, short, api.ErrRange},
				{"Get too short, the value too great", short, low(0, 1), api.ErrShort},
				{"Set too short", good, short, api.ErrShort},
				{"Set out of range", good, outside, api.ErrRange},
				{"the value too great", good, high(3, 3), api.ErrRange},
				{"the value too great, Set too short", good, low(24, 3), api.ErrShort},
				{"only from is too short", high(16, 4), high(16, 4), api.ErrShort},
				{"the last bit of from", high(15, 1), high(23, 1), api.OK},
			} {
				a, b := slices.Repeat(fields(good), n), slices.Repeat(fields(low(1, 4)), n)
				a[at], b[at] = c.f, c.g
				if got := compareMove(t, from, a, to, b); got != c.want {
					t.Fatalf("%s at %d of %d: the error %d; want %d", c.name, at, n, got, c.want)
				}
				checkLaterErrors(t, c.want, at, from, a, to, b)
			}
		}
	}
}

// checkLaterErrors demands that errors at indices after the first one with an error change nothing.
func checkLaterErrors(t *testing.T, want api.Errno, at int, from []byte, a []api.Field, to []byte, b []api.Field) {
	t.Helper()
	for _, f := range fields(high(0, 0), low(16, 1), high(0, 16)) {
		for _, g := range fields(high(0, 0), low(24, 1), high(0, 16)) {
			for later := at + 1; want != api.OK && later < len(a); later++ {
				a, b := slices.Clone(a), slices.Clone(b)
				a[later], b[later] = f, g
				checkMove(t, "a later error", from, a, to, b, nil, want)
			}
		}
	}
}

// W2: errors of Get and of Set by hand.
func TestMoveErrorsByHand(t *testing.T) {
	from, to := []byte{0x12, 0x34}, []byte{0, 0}
	good, short, outside := high(0, 4), high(16, 1), high(0, 0)
	for _, c := range []struct {
		name string
		a, b []api.Field
		want api.Errno
	}{
		{"Set before Get of the next index", fields(good, outside), fields(short, good), api.ErrShort},
		{"Set before Get of the next index, the other way round", fields(good, short), fields(outside, good), api.ErrRange},
		{"the value too great, before Get of the next index", fields(high(4, 4), short), fields(high(0, 1), good), api.ErrRange},
		{"Get before Set", fields(short), fields(outside), api.ErrShort},
		{"Get before Set, the other way round", fields(outside), fields(short), api.ErrRange},
		{"the last index", fields(good, good, short), fields(good, good, outside), api.ErrShort},
		{"the middle index", fields(good, outside, good), fields(good, short, good), api.ErrRange},
		{"two different errors", fields(good, short, outside), fields(good, good, good), api.ErrShort},
		{"two different errors of Set", fields(good, good, good), fields(good, outside, short), api.ErrRange},
	} {
		checkMove(t, c.name, from, c.a, to, c.b, nil, c.want)
	}
	checkMove(t, "from too long", same(most+1, 1), fields(good), to, fields(good), nil, api.ErrRange)
	checkMove(t, "to too long", from, fields(good), same(most+1, 1), fields(good), nil, api.ErrRange)
	checkMove(t, "to too long, Get too short", from, fields(short), same(most+1, 1), fields(good), nil, api.ErrShort)
	checkMove(t, "from too long, Set too short", same(most+1, 1), fields(good), to, fields(short), nil, api.ErrRange)
	checkMove(t, "no from", nil, fields(good), to, fields(good), nil, api.ErrShort)
	checkMove(t, "no to", from, fields(good), nil, fields(good), nil, api.ErrShort)
	checkMove(t, "no to, empty", from, fields(good), []byte{}, fields(good), nil, api.ErrShort)
	checkMove(t, "beyond to, within from", from, fields(good, high(8, 4)), []byte{0}, fields(good, high(8, 4)), nil, api.ErrShort)
	checkMove(t, "beyond from, within to", []byte{0x12}, fields(good, high(8, 4)), to, fields(good, high(8, 4)), nil, api.ErrShort)
	checkMove(t, "the ends of the longest buffers", append(same(most-1, 0), 3), fields(high(full-2, 2)), same(most, 0), fields(low(full-2, 2)), append(same(most-1, 0), 0xc0), api.OK)
}

// W2: all lists of up to three pairs of a few fields.
func TestAllShortMoves(t *testing.T) {
	from, to := []byte{0x63, 0x01}, []byte{0x5a}
	kinds := fields(high(0, 0), high(9, 2), low(3, 6), high(1, 4), low(2, 3), high(4, 4))
	count := map[api.Errno]int{}
	var a, b []api.Field
	var try func(n int)
	try = func(n int) {
		count[compareMove(t, from, a, to, b)]++
		if n == 0 {
			return
		}
		for _, f := range kinds {
			for _, g := range kinds {
				a, b = append(a, f), append(b, g)
				try(n - 1)
				a, b = a[:len(a)-1], b[:len(b)-1]
			}
		}
	}
	try(3)
	if count[api.OK] < 1000 || count[api.ErrRange] < 1000 || count[api.ErrShort] < 1000 {
		t.Errorf("the errors: %v", count)
	}
}

// W2: any moves, of which some have errors.
func TestManyMoves(t *testing.T) {
	r := rand.New(rand.NewSource(6))
	count := map[api.Errno]int{}
	for range 20000 {
		from, to := someBytes(r, 1+r.Intn(12)), someBytes(r, 1+r.Intn(12))
		var a, b []api.Field
		for range r.Intn(8) {
			f, g := someField(r, len(from)), someField(r, len(to))
			if r.Intn(4) > 0 {
				g.Wide = min(f.Wide, 8*len(to)-g.From)
				f.Wide = g.Wide
			}
			if r.Intn(40) == 0 {
				f.From += r.Intn(30)
			}
			if r.Intn(40) == 0 {
				g.From -= r.Intn(30)
			}
			a, b = append(a, f), append(b, g)
		}
		if r.Intn(40) == 0 {
			b = append(b, low(0, 1))
		}
		count[compareMove(t, from, a, to, b)]++
	}
	if count[api.OK] < 3000 || count[api.ErrRange] < 3000 || count[api.ErrShort] < 500 || count[api.ErrForm] < 100 {
		t.Errorf("the errors: %v", count)
	}
}

// The property of the whole: disjoint fields do not interfere; fields with a bit in common do.
func TestDisjointFieldsDoNotInterfere(t *testing.T) {
	r := rand.New(rand.NewSource(7))
	count := map[bool]int{}
	for range 10000 {
		b := someBytes(r, 1+r.Intn(20))
		f, g := someField(r, len(b)), someField(r, len(b))
		isApart, err := Apart(f, g, len(b))
		if err != api.OK {
			t.Fatalf("Apart(%v, %v, %d) has the error %d", f, g, len(b), err)
		}
		count[isApart]++
		if !isApart {
			changed, _ := set(t, same(len(b), 0), f, greatest(f))
			if n, _ := get(t, changed, g); n == 0 {
				t.Fatalf("Apart(%v, %v, %d) is false, but they have no bit in common", f, g, len(b))
			}
			continue
		}
		checkInterference(t, b, f, g, r.Intn(1<<f.Wide), r.Intn(1<<g.Wide))
	}
	if count[true] < 2000 || count[false] < 2000 {
		t.Errorf("the results of Apart: %v", count)
	}
}

// checkInterference demands that Set of one field leaves the other one alone, and that the order of both does not matter.
func checkInterference(t *testing.T, b []byte, f, g api.Field, n, m int) {
	t.Helper()
	before, _ := get(t, b, g)
	one, _ := set(t, b, f, n)
	checkGet(t, "a disjoint field", one, g, before, api.OK)
	both, _ := set(t, one, g, m)
	checkGet(t, "the field that was set first", both, f, n, api.OK)
	other, _ := set(t, b, g, m)
	checkSet(t, "in the opposite order", other, f, n, both, api.OK)
	checkMove(t, "both fields", both, fields(g, f), b, fields(g, f), both, api.OK)
	checkMove(t, "both fields, in the opposite order", both, fields(f, g), b, fields(f, g), both, api.OK)
}

// AA1: calls in between, also with errors, change no result.
func TestNoStateIsKept(t *testing.T) {
	r := rand.New(rand.NewSource(8))
	for range 200 {
		b := someBytes(r, 9)
		f := someField(r, 9)
		Set(b, f, 0)
		Apart(f, high(0, 1), 9)
		Move(b, fields(f), b, fields(f))
		checkGet(t, "after other calls", []byte{0x12, 0x34}, high(4, 8), 0x23, api.OK)
		checkSet(t, "after other calls", []byte{0, 0}, low(4, 8), 0x41, []byte{0x10, 0x04}, api.OK)
		Apart(f, high(0, 0), 9)
		Move(b, fields(f, high(-1, 1)), b, fields(f, f))
		checkApart(t, "after errors", high(4, 8), low(4, 8), 2, true, api.OK)
		checkMove(t, "after errors", []byte{0x12}, fields(high(0, 4)), []byte{0}, fields(high(4, 4)), []byte{1}, api.OK)
	}
}

// AA2: what lies behind the lengths of the arguments is neither read nor changed.
func TestSpareCapacityIsLeftAlone(t *testing.T) {
	r := rand.New(rand.NewSource(9))
	for range 500 {
		size := 1 + r.Intn(9)
		long, other := someBytes(r, size+8), someBytes(r, size+8)
		longBefore, otherBefore := slices.Clone(long), slices.Clone(other)
		f := someField(r, size)
		a, b := fields(f, f, high(0, 0)), fields(f, f, high(0, 0))
		compareSet(t, long[:size], f, greatest(f))
		compareMove(t, long[:size], a[:1], other[:size], b[:1])
		compareMove(t, long[:size], a[:2], other[:size], b[:2])
		checkMove(t, "different lengths", long[:size], a[:2], other[:size], b[:1], nil, api.ErrForm)
		checkGet(t, "beyond the length", long[:size], low(8*size, 1), 0, api.ErrShort)
		checkSet(t, "beyond the length", long[:size], high(8*size-1, 2), 0, nil, api.ErrShort)
		checkMove(t, "to beyond the length", long, fields(low(0, 1)), other[:size], fields(low(8*size, 1)), nil, api.ErrShort)
		checkMove(t, "no field", long[:size], a[:0], other[:size], b[:0], other[:size], api.OK)
		if !slices.Equal(long, longBefore) || !slices.Equal(other, otherBefore) {
			t.Fatalf("the buffers %v, %v have become %v, %v", longBefore, otherBefore, long, other)
		}
	}
}

// AA2: one buffer and one list may be both arguments; Move reads it as it was.
func TestOneSliceForBoth(t *testing.T) {
	b := []byte{0x12, 0x34}
	checkMove(t, "halves changed over", b, fields(high(0, 4), high(4, 4)), b, fields(high(4, 4), high(0, 4)), []byte{0x21, 0x34}, api.OK)
	checkMove(t, "bytes changed over", b, fields(high(0, 8), high(8, 8)), b, fields(high(8, 8), high(0, 8)), []byte{0x34, 0x12}, api.OK)
	checkMove(t, "one bit on", b, fields(high(0, 15), high(15, 1)), b, fields(high(1, 15), high(0, 1)), []byte{0x09, 0x1a}, api.OK)
	list := fields(high(1, 9), low(2, 3))
	checkMove(t, "one list", b, list, []byte{0, 0}, list, []byte{0x12, 0x00}, api.OK)
	checkMove(t, "one list and one buffer", b, list, b, list, b, api.OK)
}

// AA2: a result stays as it is when the arguments change later.
func TestResultsAreNew(t *testing.T) {
	b, other := []byte{1, 2, 3}, []byte{4, 5, 6}
	a := fields(high(0, 8))
	changed, _ := Set(b, high(0, 8), 9)
	moved, _ := Move(b, a, other, a)
	copied, _ := Move(b, nil, other, nil)
	equal, _ := Set(b, high(0, 8), 1)
	invert(b)
	invert(other)
	a[0] = high(8, 8)
	for _, c := range []struct{ got, want []byte }{{changed, []byte{9, 2, 3}}, {moved, []byte{1, 5, 6}}, {copied, []byte{4, 5, 6}}, {equal, []byte{1, 2, 3}}} {
		if !slices.Equal(c.got, c.want) {
			t.Errorf("the result has become %v; want %v", c.got, c.want)
		}
	}
}
