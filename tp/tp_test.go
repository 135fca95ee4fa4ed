package tp

import (
	"encoding/hex"
	"math"
	"math/rand"
	"slices"
	"strings"
	"testing"

	"slotwright/api"
)

const (
	huge  = math.MaxInt
	least = math.MinInt
	most  = 4095 // the bytes of the longest message
)

// numbers are values around the limits, and such as only a narrower type or a sum that does not fit takes for valid.
var numbers = []int{least, least + 1, least + 7, -1 << 62, -1 << 32, -1<<32 + 1, -1<<32 + 8, -1 << 16, -4096, -4095, -256, -255, -8, -7, -6, -2, -1, 0, 1, 2, 6, 7, 8, 12, 13, 14, 15, 20, 21, 255, 256, 257, 4088, 4089, 4094, 4095, 4096, 4097, 1 << 16, 1<<16 + 1, 1<<31 - 1, 1 << 31, 1 << 32, 1<<32 + 1, 1<<32 + 8, 1 << 62, huge - 6, huge - 1, huge}

// lengths are numbers of bytes of a message at which something changes.
var lengths = []int{1, 2, 5, 6, 7, 8, 9, 12, 13, 14, 19, 20, 21, 27, 28, 104, 105, 111, 112, 118, 119, 216, 217, 223, 224, 230, 231, 255, 256, 257, 511, 512, 4088, 4089, 4094, 4095}

// same returns n bytes v.
func same(n int, v byte) []byte { return slices.Repeat([]byte{v}, n) }

// ramp returns n bytes that count from 1.
func ramp(n int) []byte {
	b := make([]byte, n)
	for at := range b {
		b[at] = byte(at + 1)
	}
	return b
}

// someBytes returns n bytes of any values.
func someBytes(r *rand.Rand, n int) []byte {
	b := make([]byte, n)
	r.Read(b)
	return b
}

// message returns the bytes of a text in hexadecimal digits.
func message(text string) []byte {
	b, err := hex.DecodeString(text)
	if err != nil {
		panic(err)
	}
	return b
}

// frames returns the frames of a text: each is a word of hexadecimal digits, or - if it is empty.
func frames(text string) [][]byte {
	var list [][]byte
	for word := range strings.FieldsSeq(text) {
		list = append(list, message(strings.TrimPrefix(word, "-")))
	}
	return list
}

// copyOf returns a list of frames in memory of its own.
func copyOf(list [][]byte) [][]byte {
	var copied [][]byte
	for _, frame := range list {
		copied = append(copied, slices.Clone(frame))
	}
	return copied
}

// equal tells whether two lists have the same frames.
func equal(a, b [][]byte) bool { return slices.EqualFunc(a, b, slices.Equal[[]byte]) }

// frameOf tells which frame of a message of n bytes has the byte at a place.
func frameOf(n, place int) int {
	switch {
	case n <= 7 || place < 6:
		return 0
	default:
		return (place + 1) / 7
	}
}

// start returns the bytes in front of the message in one of the frames.
func start(n, index int) []byte {
	switch {
	case n <= 7:
		return []byte{byte(n)}
	case index == 0:
		return []byte{byte(16 + n>>8), byte(n & 255)}
	default:
		return []byte{byte(32 + index&15)}
	}
}

// expectedCut tells what Cut must return, from the place of each byte.
func expectedCut(b []byte) ([][]byte, api.Errno) {
	if len(b) > most {
		return nil, api.ErrRange
	}
	if len(b) == 0 {
		return nil, api.ErrNone
	}
	var list [][]byte
	for place, value := range b {
		index := frameOf(len(b), place)
		if index == len(list) {
			list = append(list, start(len(b), index))
		}
		list[index] = append(list[index], value)
	}
	return list, api.OK
}

// expectedMany tells what Many must return: as many frames as it takes until there is room for all bytes.
func expectedMany(bytes int) (int, api.Errno) {
	if bytes <= 0 || bytes > most {
		return 0, api.ErrRange
	}
	if bytes < 8 {
		return 1, api.OK
	}
	count := 1
	for room := 6; room < bytes; room += 7 {
		count++
	}
	return count, api.OK
}

// announced tells how many bytes the message of a first frame has.
func announced(frame []byte) (int, api.Errno) {
	if len(frame) == 0 {
		return 0, api.ErrShort
	}
	total := int(frame[0]) % 16
	switch {
	case frame[0] >= 32:
		return 0, api.ErrKind
	case frame[0] < 16 && (total == 0 || total > 7):
		return 0, api.ErrForm
	case frame[0] < 16:
		return total, api.OK
	case len(frame) < 8:
		return 0, api.ErrShort
	}
	total = total<<8 + int(frame[1])
	if len(frame) > 8 || total < 8 {
		return 0, api.ErrForm
	}
	return total, api.OK
}

// expectedJoin tells what Join must return, by comparing the frames with those of another message that is as long.
func expectedJoin(list [][]byte) ([]byte, api.Errno) {
	if len(list) == 0 {
		return nil, api.ErrNone
	}
	total, err := announced(list[0])
	if err != api.OK {
		return nil, err
	}
	model, _ := expectedCut(make([]byte, total))
	var joined []byte
	for index, frame := range list {
		if index == len(model) {
			return nil, api.ErrFull
		}
		if err := unlike(frame, model[index]); err != api.OK {
			return nil, err
		}
		joined = append(joined, frame[len(start(total, index)):]...)
	}
	if len(list) < len(model) {
		return nil, api.ErrShort
	}
	return joined, api.OK
}

// unlike tells in what a frame differs from a model.
func unlike(frame, model []byte) api.Errno {
	switch {
	case len(frame) < len(model):
		return api.ErrShort
	case len(frame) > len(model):
		return api.ErrForm
	case frame[0]/16 != model[0]/16:
		return api.ErrKind
	case frame[0] != model[0]:
		return api.ErrSum
	}
	return api.OK
}

// fill writes a value of its own into the memory of each frame, and tells whether each frame then has it.
func fill(list [][]byte) bool {
	for index, frame := range list {
		for at := range frame[:cap(frame)] {
			frame[:cap(frame)][at] = byte(index)
		}
	}
	for index, frame := range list {
		if !slices.Equal(frame[:cap(frame)], same(cap(frame), byte(index))) {
			return false
		}
	}
	return true
}

// invert turns all bits of a slice over.
func invert(b []byte) {
	for at := range b {
		b[at] ^= 255
	}
}

// cut calls Cut, and demands that the message stays as it was, also when the frames change, and that these share no memory.
func cut(t *testing.T, b []byte) ([][]byte, api.Errno) {
	t.Helper()
	before := slices.Clone(b)
	list, err := Cut(b)
	copied := copyOf(list)
	if !fill(list) {
		t.Fatalf("Cut(%v) returns frames that share memory", before)
	}
	if !slices.Equal(b, before) {
		t.Fatalf("Cut(%v) changes the message to %v", before, b)
	}
	return copied, err
}

// join calls Join, and demands that the frames stay as they were, also when the message changes.
func join(t *testing.T, list [][]byte) ([]byte, api.Errno) {
	t.Helper()
	before := copyOf(list)
	joined, err := Join(list)
	copied := slices.Clone(joined)
	invert(joined[:cap(joined)])
	if !equal(list, before) {
		t.Fatalf("Join(%v) changes the frames to %v", before, list)
	}
	return copied, err
}

// checkMany demands this result of Many and of the reference.
func checkMany(t *testing.T, bytes, want int, wantErr api.Errno) {
	t.Helper()
	if got, err := Many(bytes); got != want || err != wantErr {
		t.Fatalf("Many(%d) = %d, %d; want %d, %d", bytes, got, err, want, wantErr)
	}
	if got, err := expectedMany(bytes); got != want || err != wantErr {
		t.Fatalf("the reference finds %d, %d frames of %d bytes; want %d, %d", got, err, bytes, want, wantErr)
	}
}

// checkCut demands these frames of Cut and of the reference, as many of Many, and that Join returns the message again.
func checkCut(t *testing.T, name string, b []byte, want [][]byte) {
	t.Helper()
	if got, err := cut(t, b); !equal(got, want) || err != api.OK {
		t.Fatalf("%s: Cut(%v) = %v, %d; want %v, 0", name, b, got, err, want)
	}
	if got, err := expectedCut(b); !equal(got, want) || err != api.OK {
		t.Fatalf("%s: the reference cuts %v into %v, %d; want %v, 0", name, b, got, err, want)
	}
	checkMany(t, len(b), len(want), api.OK)
	checkJoin(t, name, want, b, api.OK)
}

// compareCut demands of Cut, Many and Join what the reference finds for a message.
func compareCut(t *testing.T, b []byte) {
	t.Helper()
	want, _ := expectedCut(b)
	checkCut(t, "against the reference", b, want)
}

// checkNoCut demands this error of Cut and of the reference, and no frames.
func checkNoCut(t *testing.T, b []byte, want api.Errno) {
	t.Helper()
	if got, err := cut(t, b); len(got) != 0 || err != want {
		t.Fatalf("Cut of %d bytes = %v, %d; want the error %d", len(b), got, err, want)
	}
	if _, err := expectedCut(b); err != want {
		t.Fatalf("the reference finds the error %d for %d bytes; want %d", err, len(b), want)
	}
	checkMany(t, len(b), 0, api.ErrRange)
}

// checkJoin demands this result of Join and of the reference.
func checkJoin(t *testing.T, name string, list [][]byte, want []byte, wantErr api.Errno) {
	t.Helper()
	if got, err := join(t, list); !slices.Equal(got, want) || err != wantErr {
		t.Fatalf("%s: Join(%v) = %v, %d; want %v, %d", name, list, got, err, want, wantErr)
	}
	if got, err := expectedJoin(list); !slices.Equal(got, want) || err != wantErr {
		t.Fatalf("%s: the reference joins %v to %v, %d; want %v, %d", name, list, got, err, want, wantErr)
	}
}

// compareJoin demands of Join what the reference finds, and returns its error.
func compareJoin(t *testing.T, list [][]byte) api.Errno {
	t.Helper()
	want, err := expectedJoin(list)
	checkJoin(t, "against the reference", list, want, err)
	return err
}

// joinCase is a list of frames, and the message or the error that it must give.
type joinCase struct {
	name, list, message string
	err                 api.Errno
}

// demand fails the test for each list that does not give what it must.
func demand(t *testing.T, cases []joinCase) {
	t.Helper()
	for _, c := range cases {
		checkJoin(t, c.name, frames(c.list), message(c.message), c.err)
	}
}

// cutOf returns the frames of a message.
func cutOf(b []byte) [][]byte {
	list, _ := expectedCut(b)
	return list
}

// with returns the frames with another one at an index.
func with(list [][]byte, index int, frame ...byte) [][]byte {
	list = slices.Clone(list)
	list[index] = frame
	return list
}

// X1: frames by hand.
func TestCut(t *testing.T) {
	for _, c := range []struct {
		name, message, list string
	}{
		{"one byte", "01", "0101"},
		{"one byte 0", "00", "0100"},
		{"one byte 255", "ff", "01ff"},
		{"two bytes", "0201", "020201"},
		{"six bytes", "010203040506", "06010203040506"},
		{"seven bytes", "01020304050607", "0701020304050607"},
		{"seven bytes 0", "00000000000000", "0700000000000000"},
		{"eight bytes", "0102030405060708", "1008010203040506 210708"},
		{"eight bytes 255", "ffffffffffffffff", "1008ffffffffffff 21ffff"},
		{"nine bytes", "010203040506070809", "1009010203040506 21070809"},
		{"the example", "0102030405060708090a", "100a010203040506 210708090a"},
		{"12 bytes", "0102030405060708090a0b0c", "100c010203040506 210708090a0b0c"},
		{"13 bytes: the last frame is full", "0102030405060708090a0b0c0d", "100d010203040506 210708090a0b0c0d"},
		{"14 bytes: the last frame has one byte", "0102030405060708090a0b0c0d0e", "100e010203040506 210708090a0b0c0d 220e"},
		{"20 bytes: the last frame is full", "0102030405060708090a0b0c0d0e0f1011121314", "1014010203040506 210708090a0b0c0d 220e0f1011121314"},
		{"21 bytes: the last frame has one byte", "0102030405060708090a0b0c0d0e0f101112131415", "1015010203040506 210708090a0b0c0d 220e0f1011121314 2315"},
		{"13 bytes 0", "00000000000000000000000000", "100d000000000000 2100000000000000"},
		{"14 bytes 255", "ffffffffffffffffffffffffffff", "100effffffffffff 21ffffffffffffff 22ff"},
		{"bytes like those in front of a message", "20211022072301002122", "100a202110220723 2101002122"},
	} {
		checkCut(t, c.name, message(c.message), frames(c.list))
	}
}

// X1: no byte, and too many.
func TestCutErrors(t *testing.T) {
	checkNoCut(t, nil, api.ErrNone)
	checkNoCut(t, []byte{}, api.ErrNone)
	checkNoCut(t, make([]byte, 0, 9), api.ErrNone)
	for _, n := range []int{4096, 4097, 4098, 4103, 4104, 8191, 8192, 1<<16 - 1, 1 << 16, 1<<16 + 1, 1<<16 + 8, 1 << 20, 1<<24 + 7} {
		checkNoCut(t, ramp(n), api.ErrRange)
	}
}

// X1: the first frame of long messages.
func TestLengthInFirstFrame(t *testing.T) {
	for _, c := range []struct {
		bytes       int
		first, next byte
		frames      int
	}{
		{8, 0x10, 0x08, 2},
		{13, 0x10, 0x0d, 2},
		{14, 0x10, 0x0e, 3},
		{127, 0x10, 0x7f, 19},
		{128, 0x10, 0x80, 19},
		{255, 0x10, 0xff, 37},
		{256, 0x11, 0x00, 37},
		{257, 0x11, 0x01, 37},
		{511, 0x11, 0xff, 74},
		{512, 0x12, 0x00, 74},
		{513, 0x12, 0x01, 74},
		{1024, 0x14, 0x00, 147},
		{3839, 0x1e, 0xff, 549},
		{3840, 0x1f, 0x00, 549},
		{4094, 0x1f, 0xfe, 585},
		{4095, 0x1f, 0xff, 586},
	} {
		list, err := cut(t, ramp(c.bytes))
		if err != api.OK || len(list) != c.frames || !slices.Equal(list[0], []byte{c.first, c.next, 1, 2, 3, 4, 5, 6}) {
			t.Errorf("Cut of %d bytes = %v, %d; want %d frames, the first one with %d, %d", c.bytes, list, err, c.frames, c.first, c.next)
		}
		checkMany(t, c.bytes, c.frames, api.OK)
		checkJoin(t, "a long message", list, ramp(c.bytes), api.OK)
	}
}

// X1: the first byte of consecutive frames, in a message of 4095 bytes and in one that ends with the frame.
func TestNumbersOfFrames(t *testing.T) {
	long, _ := cut(t, ramp(most))
	if len(long) != 586 || !slices.Equal(long[585], []byte{0x29, 0xff}) {
		t.Fatalf("Cut of %d bytes has the frames %v", most, long)
	}
	for _, c := range []struct {
		number int
		first  byte
	}{
		{1, 0x21}, {2, 0x22}, {9, 0x29}, {10, 0x2a}, {14, 0x2e}, {15, 0x2f}, {16, 0x20}, {17, 0x21}, {18, 0x22}, {31, 0x2f}, {32, 0x20}, {33, 0x21}, {255, 0x2f}, {256, 0x20}, {257, 0x21}, {511, 0x2f}, {512, 0x20}, {575, 0x2f}, {576, 0x20}, {584, 0x28}, {585, 0x29},
	} {
		if got := long[c.number][0]; got != c.first {
			t.Errorf("the frame %d of %d bytes begins with %d; want %d", c.number, most, got, c.first)
		}
		for _, n := range []int{7 * c.number, 7*c.number + 6} {
			if n < 8 || n > most {
				continue
			}
			list, err := cut(t, ramp(n))
			if err != api.OK || len(list) != c.number+1 || list[c.number][0] != c.first || len(list[c.number]) != 2+n-7*c.number {
				t.Errorf("Cut of %d bytes = %v, %d; want %d frames, the last one with %d and %d bytes of the message", n, list, err, c.number+1, c.first, 1+n-7*c.number)
			}
		}
	}
}

// X1 and X2: messages of every length, joined again.
func TestEveryLength(t *testing.T) {
	r := rand.New(rand.NewSource(1))
	for n := 1; n <= most; n++ {
		compareCut(t, someBytes(r, n))
	}
	for _, n := range lengths {
		for _, v := range []byte{0, 1, 0x0f, 0x10, 0x20, 0x21, 0x7f, 0x80, 255} {
			compareCut(t, same(n, v))
		}
		compareCut(t, ramp(n))
	}
}

// X1: messages in which one byte differs from the others.
func TestEachByteIsKept(t *testing.T) {
	for n := 1; n <= 60; n++ {
		for place := range n {
			for _, pair := range [][2]byte{{0, 255}, {255, 0}, {0x20, 0x21}} {
				b := same(n, pair[0])
				b[place] = pair[1]
				compareCut(t, b)
			}
		}
	}
	for value := range 256 {
		for _, n := range []int{1, 7, 8, 14} {
			compareCut(t, same(n, byte(value)))
		}
	}
}

// X1: numbers of frames by hand.
func TestMany(t *testing.T) {
	for _, c := range []struct{ bytes, want int }{
		{1, 1}, {2, 1}, {6, 1}, {7, 1}, {8, 2}, {9, 2}, {10, 2}, {12, 2}, {13, 2}, {14, 3}, {20, 3}, {21, 4}, {27, 4}, {28, 5}, {110, 16}, {111, 16}, {112, 17}, {4087, 584}, {4088, 585}, {4094, 585}, {4095, 586},
	} {
		checkMany(t, c.bytes, c.want, api.OK)
	}
	for _, bytes := range []int{least, least + 1, -1 << 32, -4095, -7, -1, 0, 4096, 4097, 1 << 16, 1<<16 + 1, 1<<32 + 1, 1<<32 + 10, huge - 1, huge} {
		checkMany(t, bytes, 0, api.ErrRange)
	}
}

// X1: numbers around the limits, and many lengths.
func TestManyAgainstReference(t *testing.T) {
	for _, bytes := range numbers {
		want, err := expectedMany(bytes)
		checkMany(t, bytes, want, err)
	}
	for bytes := -5000; bytes <= 10000; bytes++ {
		want, err := expectedMany(bytes)
		checkMany(t, bytes, want, err)
	}
}

// X2: messages by hand.
func TestJoin(t *testing.T) {
	demand(t, []joinCase{
		{"one byte", "0109", "09", api.OK},
		{"one byte 0", "0100", "00", api.OK},
		{"three bytes", "03010203", "010203", api.OK},
		{"seven bytes", "07ffffffffffffff", "ffffffffffffff", api.OK},
		{"the least long message", "1008010203040506 210708", "0102030405060708", api.OK},
		{"the example", "100a010203040506 210708090a", "0102030405060708090a", api.OK},
		{"the last frame is full", "100d010203040506 210708090a0b0c0d", "0102030405060708090a0b0c0d", api.OK},
		{"the last frame has one byte", "100e010203040506 210708090a0b0c0d 220e", "0102030405060708090a0b0c0d0e", api.OK},
		{"three full frames", "1014010203040506 210708090a0b0c0d 220e0f1011121314", "0102030405060708090a0b0c0d0e0f1011121314", api.OK},
		{"bytes 0 and 255", "100900ff00ff00ff 2100ff00", "00ff00ff00ff00ff00", api.OK},
		{"bytes like those in front of a message", "100a202110220723 2101002122", "20211022072301002122", api.OK},
	})
}

// X2: no frames.
func TestJoinOfNoFrames(t *testing.T) {
	checkJoin(t, "nil", nil, nil, api.ErrNone)
	checkJoin(t, "empty", [][]byte{}, nil, api.ErrNone)
	checkJoin(t, "frames behind the length", frames("0101")[:0], nil, api.ErrNone)
}

// X2: a first frame that is empty, nil or not, alone and before others.
func TestEmptyFirstFrame(t *testing.T) {
	for _, empty := range [][]byte{nil, {}, make([]byte, 0, 8), ramp(8)[:0]} {
		for _, rest := range []string{"", "-", "- -", "0109", "1008010203040506 210708", "210708", "ff"} {
			checkJoin(t, "an empty first frame", append([][]byte{empty}, frames(rest)...), nil, api.ErrShort)
		}
	}
}

// X2: single frames by hand.
func TestSingleFrames(t *testing.T) {
	demand(t, []joinCase{
		{"length 0, only its first byte", "00", "", api.ErrForm},
		{"length 0, one byte more", "0001", "", api.ErrForm},
		{"length 0, seven bytes more", "0001020304050607", "", api.ErrForm},
		{"length 1, only its first byte", "01", "", api.ErrShort},
		{"length 1, just as many bytes", "0105", "05", api.OK},
		{"length 1, one byte more", "010506", "", api.ErrForm},
		{"length 2, one byte fewer", "0205", "", api.ErrShort},
		{"length 2, just as many bytes", "020506", "0506", api.OK},
		{"length 2, one byte more", "02050607", "", api.ErrForm},
		{"length 6, one byte fewer", "060102030405", "", api.ErrShort},
		{"length 6, just as many bytes", "06010203040506", "010203040506", api.OK},
		{"length 6, one byte more", "0601020304050607", "", api.ErrForm},
		{"length 7, only its first byte", "07", "", api.ErrShort},
		{"length 7, one byte fewer", "07010203040506", "", api.ErrShort},
		{"length 7, just as many bytes", "0701020304050607", "01020304050607", api.OK},
		{"length 7, one byte more", "070102030405060708", "", api.ErrForm},
		{"length 8, only its first byte", "08", "", api.ErrForm},
		{"length 8, one byte fewer", "0801020304050607", "", api.ErrForm},
		{"length 8, just as many bytes", "080102030405060708", "", api.ErrForm},
		{"length 8, one byte more", "08010203040506070809", "", api.ErrForm},
		{"length 15, only its first byte", "0f", "", api.ErrForm},
		{"length 15, one byte fewer", "0f0102030405060708090a0b0c0d0e", "", api.ErrForm},
		{"length 15, just as many bytes", "0f0102030405060708090a0b0c0d0e0f", "", api.ErrForm},
		{"length 15, one byte more", "0f0102030405060708090a0b0c0d0e0f10", "", api.ErrForm},
	})
}

// X2: single frames of each length and with any number of bytes.
func TestSingleFramesOfEachLength(t *testing.T) {
	for length := range 16 {
		for bytes := range 300 {
			want, wantErr := []byte(nil), api.ErrForm
			switch {
			case length == 0 || length > 7:
			case bytes == length:
				want, wantErr = ramp(bytes), api.OK
			case bytes < length:
				wantErr = api.ErrShort
			}
			checkJoin(t, "a single frame", [][]byte{append([]byte{byte(length)}, ramp(bytes)...)}, want, wantErr)
		}
	}
}

// X2: first frames by hand.
func TestFirstFrames(t *testing.T) {
	demand(t, []joinCase{
		{"1 byte", "10", "", api.ErrShort},
		{"2 bytes", "100a", "", api.ErrShort},
		{"3 bytes", "100a01", "", api.ErrShort},
		{"4 bytes", "100a0102", "", api.ErrShort},
		{"5 bytes", "100a010203", "", api.ErrShort},
		{"6 bytes", "100a01020304", "", api.ErrShort},
		{"7 bytes", "100a0102030405", "", api.ErrShort},
		{"8 bytes, alone", "100a010203040506", "", api.ErrShort},
		{"8 bytes", "100a010203040506 210708090a", "0102030405060708090a", api.OK},
		{"9 bytes", "100a01020304050607", "", api.ErrForm},
		{"9 bytes, and the rest", "100a01020304050607 2108090a", "", api.ErrForm},
		{"7 bytes, and the rest", "100a0102030405 21060708090a", "", api.ErrShort},
		{"10 bytes, and no rest", "100801020304050607", "", api.ErrForm},
		{"16 bytes", "100a0102030405060708090a0b0c0d0e", "", api.ErrForm},
		{"it announces 0 bytes", "1000010203040506", "", api.ErrForm},
		{"it announces 1 byte", "1001010203040506", "", api.ErrForm},
		{"it announces 6 bytes", "1006010203040506", "", api.ErrForm},
		{"it announces 7 bytes", "1007010203040506", "", api.ErrForm},
		{"it announces 7 bytes, and the rest", "1007010203040506 2107", "", api.ErrForm},
		{"it announces 8 bytes, alone", "1008010203040506", "", api.ErrShort},
		{"it announces 8 bytes", "1008010203040506 210708", "0102030405060708", api.OK},
		{"it announces 255 bytes, alone", "10ff010203040506", "", api.ErrShort},
		{"it announces 256 bytes, alone", "1100010203040506", "", api.ErrShort},
		{"it announces 256 bytes, as if 0", "1100010203040506 -", "", api.ErrShort},
		{"it announces 263 bytes, as if 7", "1107010203040506 2107", "", api.ErrShort},
		{"it announces 3840 bytes, alone", "1f00010203040506", "", api.ErrShort},
		{"it announces 4095 bytes, alone", "1fff010203040506", "", api.ErrShort},
		{"it announces 4095 bytes, and one frame", "1fff010203040506 210708090a0b0c0d", "", api.ErrShort},
		{"it announces 6 bytes, 7 bytes", "10060102030405", "", api.ErrShort},
		{"it announces 6 bytes, 9 bytes", "100601020304050607", "", api.ErrForm},
		{"it announces 0 bytes, 2 bytes", "1000", "", api.ErrShort},
		{"it announces 4095 bytes, 2 bytes", "1fff", "", api.ErrShort},
		{"it announces 4095 bytes, 9 bytes", "1fff01020304050607", "", api.ErrForm},
	})
}

// X2: first frames of any type with any number of bytes, which announce any number.
func TestFirstFramesOfEachKind(t *testing.T) {
	count := map[api.Errno]int{}
	for first := range 256 {
		for size := range 20 {
			for _, next := range []byte{0, 1, 6, 7, 8, 9, 255} {
				frame := append([]byte{byte(first), next}, ramp(18)...)[:1+size]
				count[compareJoin(t, [][]byte{frame})]++
				compareJoin(t, [][]byte{frame, {0x21, 7, 8}})
				compareJoin(t, [][]byte{frame, {}})
			}
		}
	}
	if count[api.OK] == 0 || count[api.ErrKind] < 1000 || count[api.ErrShort] < 500 || count[api.ErrForm] < 500 {
		t.Errorf("the errors: %v", count)
	}
}

// X2: first frames of another type, short and long.
func TestFirstFrameOfAnotherKind(t *testing.T) {
	for kind := 2; kind <= 15; kind++ {
		for lower := range 16 {
			for _, size := range []int{1, 2, 3, 7, 8, 9, 10, 20} {
				frame := append([]byte{byte(kind*16 + lower)}, ramp(size-1)...)
				for _, rest := range []string{"", "-", "0109", "1008010203040506 210708", "210708"} {
					checkJoin(t, "a first frame of another type", append([][]byte{frame}, frames(rest)...), nil, api.ErrKind)
				}
			}
		}
	}
	demand(t, []joinCase{
		{"a message without its first frame", "210708090a0b0c0d 220e", "", api.ErrKind},
		{"the last frame of a message", "210708", "", api.ErrKind},
		{"type 3, one byte", "30", "", api.ErrKind},
		{"type 3", "3000000000000000", "", api.ErrKind},
		{"type 15, one byte", "ff", "", api.ErrKind},
		{"type 15, nine bytes", "f10101010101010101", "", api.ErrKind},
	})
}

// X2: frames behind the last one, whatever they are.
func TestFramesBehindTheLast(t *testing.T) {
	for _, n := range lengths {
		list := cutOf(ramp(n))
		for _, more := range []string{"-", "- -", "0109", "00", "20", "21", "29", "2f", "210708", "3000", "1008010203040506", "1008010203040506 210708", "ff", "2101020304050607", "210102030405060708"} {
			checkJoin(t, "more frames", slices.Concat(list, frames(more)), nil, api.ErrFull)
		}
		next := byte(0x20 + len(list)%16)
		checkJoin(t, "the next number", append(slices.Clip(list), []byte{next}), nil, api.ErrFull)
		checkJoin(t, "the next number, one byte", append(slices.Clip(list), []byte{next, 1}), nil, api.ErrFull)
		checkJoin(t, "the next number, seven bytes", append(slices.Clip(list), append([]byte{next}, ramp(7)...)), nil, api.ErrFull)
		checkJoin(t, "the last frame twice", append(slices.Clip(list), list[len(list)-1]), nil, api.ErrFull)
		checkJoin(t, "all frames twice", slices.Concat(list, list), nil, api.ErrFull)
		checkJoin(t, "a nil frame", append(slices.Clip(list), nil), nil, api.ErrFull)
	}
}

// X2: consecutive frames by hand.
func TestConsecutiveFrames(t *testing.T) {
	demand(t, []joinCase{
		{"empty, at the end", "100a010203040506 -", "", api.ErrShort},
		{"only its first byte, at the end", "100a010203040506 21", "", api.ErrShort},
		{"a byte too few, at the end", "100a010203040506 21070809", "", api.ErrShort},
		{"a byte too many, at the end", "100a010203040506 210708090a0b", "", api.ErrForm},
		{"eight bytes, though fewer are missing", "100a010203040506 210708090a0b0c0d", "", api.ErrForm},
		{"empty, in the middle", "100e010203040506 - 220e", "", api.ErrShort},
		{"only its first byte, in the middle", "100e010203040506 21 220e", "", api.ErrShort},
		{"a byte too few, in the middle", "100e010203040506 210708090a0b0c 220d", "", api.ErrShort},
		{"a byte too few, in the middle, made up for later", "100e010203040506 210708090a0b0c 220d0e", "", api.ErrShort},
		{"a byte too many, in the middle", "100e010203040506 210708090a0b0c0d0e 220f", "", api.ErrForm},
		{"all bytes in one frame", "100e010203040506 210708090a0b0c0d0e", "", api.ErrForm},
		{"a byte too few, full at the end", "100d010203040506 210708090a0b0c", "", api.ErrShort},
		{"a byte too many, full at the end", "100d010203040506 210708090a0b0c0d0e", "", api.ErrForm},
		{"only its first byte, one byte at the end", "100e010203040506 210708090a0b0c0d 22", "", api.ErrShort},
		{"empty, one byte at the end", "100e010203040506 210708090a0b0c0d -", "", api.ErrShort},
		{"a byte too many, one byte at the end", "100e010203040506 210708090a0b0c0d 220e0f", "", api.ErrForm},
		{"type 0", "1008010203040506 010708", "", api.ErrKind},
		{"type 0 with the length of a single frame", "1008010203040506 020708", "", api.ErrKind},
		{"type 1", "1008010203040506 110708", "", api.ErrKind},
		{"type 1, a first frame", "100d010203040506 1008010203040506", "", api.ErrKind},
		{"type 3", "1008010203040506 310708", "", api.ErrKind},
		{"type 15", "1008010203040506 f10708", "", api.ErrKind},
		{"type 10", "1008010203040506 a10708", "", api.ErrKind},
		{"one less", "1008010203040506 200708", "", api.ErrSum},
		{"one more", "1008010203040506 220708", "", api.ErrSum},
		{"15", "1008010203040506 2f0708", "", api.ErrSum},
		{"eight more", "1008010203040506 290708", "", api.ErrSum},
		{"the second one has the number of the first one", "100e010203040506 210708090a0b0c0d 210e", "", api.ErrSum},
		{"the first one has the number of the second one", "100e010203040506 220708090a0b0c0d 220e", "", api.ErrSum},
		{"the last one is missing", "100e010203040506 210708090a0b0c0d", "", api.ErrShort},
		{"all but the first one are missing", "100e010203040506", "", api.ErrShort},
		{"the middle one is missing", "1014010203040506 220e0f1011121314", "", api.ErrSum},
		{"the middle one is missing, one byte at the end", "100e010203040506 220e", "", api.ErrShort},
	})
}

// X2: two errors at once, in one frame and in two, by hand.
func TestTwoErrors(t *testing.T) {
	demand(t, []joinCase{
		{"short and of type 0", "100a010203040506 01070809", "", api.ErrShort},
		{"short and of type 15", "100a010203040506 f1", "", api.ErrShort},
		{"short and another number", "100a010203040506 22070809", "", api.ErrShort},
		{"long and of type 1", "100a010203040506 110708090a0b", "", api.ErrForm},
		{"long and another number", "100a010203040506 200708090a0b", "", api.ErrForm},
		{"of type 3 and another number", "100a010203040506 320708090a", "", api.ErrKind},
		{"of type 0 and another number", "100a010203040506 000708090a", "", api.ErrKind},
		{"too much and of type 0", "0109 0109", "", api.ErrFull},
		{"too much and empty", "0109 -", "", api.ErrFull},
		{"too much and short", "0109 21", "", api.ErrFull},
		{"too much and long", "0109 210102030405060708", "", api.ErrFull},
		{"too much and another number", "1008010203040506 210708 2401", "", api.ErrFull},
		{"a length of 0, and more frames", "00 0109", "", api.ErrForm},
		{"a length of 0, and an empty frame", "00 -", "", api.ErrForm},
		{"a short single frame, and more frames", "0209 0109", "", api.ErrShort},
		{"a long single frame, and more frames", "010909 0109", "", api.ErrForm},
		{"a short first frame, and a long one", "100a0102030405 210708090a0b", "", api.ErrShort},
		{"a long first frame, and a short one", "100a01020304050607 21", "", api.ErrForm},
		{"a long first frame of a short message, and an empty one", "100201020304050607 -", "", api.ErrForm},
		{"a first frame of another type, and an empty one", "20 -", "", api.ErrKind},
		{"short before long", "100e010203040506 21 220e0f", "", api.ErrShort},
		{"long before short", "100e010203040506 210708090a0b0c0d0e 22", "", api.ErrForm},
		{"another type before another number", "100e010203040506 310708090a0b0c0d 230e", "", api.ErrKind},
		{"another number before another type", "100e010203040506 220708090a0b0c0d 320e", "", api.ErrSum},
		{"another number before a short one", "100e010203040506 220708090a0b0c0d -", "", api.ErrSum},
		{"another number before a long one", "100e010203040506 2f0708090a0b0c0d 220e0f", "", api.ErrSum},
		{"another type before a short one", "100e010203040506 010708090a0b0c0d 22", "", api.ErrKind},
		{"short before another type", "100e010203040506 210708090a0b0c 320e", "", api.ErrShort},
		{"another number before too much", "1008010203040506 220708 23", "", api.ErrSum},
		{"short before too much", "1008010203040506 2107 23", "", api.ErrShort},
		{"another number, and the end is missing", "100e010203040506 220708090a0b0c0d", "", api.ErrSum},
		{"another type, and the end is missing", "100e010203040506 310708090a0b0c0d", "", api.ErrKind},
		{"long, and the end is missing", "1014010203040506 210708090a0b0c0d0e", "", api.ErrForm},
	})
}

// change returns a consecutive frame with some of the errors: bytes more or fewer, another type, another number.
func change(frame []byte, more int, kind, number byte) []byte {
	size := max(0, len(frame)+more)
	changed := append(slices.Clone(frame), same(8, 7)...)[:size]
	if size > 0 {
		changed[0] = kind<<4 | (frame[0]+number)&15
	}
	return changed
}

// errorOf tells which error a changed frame has.
func errorOf(more int, kind, number byte) api.Errno {
	switch {
	case more < 0:
		return api.ErrShort
	case more > 0:
		return api.ErrForm
	case kind != 2:
		return api.ErrKind
	case number != 0:
		return api.ErrSum
	}
	return api.OK
}

// X2: every combination of errors in each frame of messages of some lengths, alone and before others.
func TestChangedFrames(t *testing.T) {
	for _, n := range []int{8, 10, 13, 14, 20, 21, 120, 237} {
		list := cutOf(ramp(n))
		for index := 1; index < len(list); index++ {
			for _, more := range []int{-8, -1, 0, 1, 8} {
				for _, kind := range []byte{2, 0, 1, 3, 15} {
					for _, number := range []byte{0, 1, 15, 8} {
						changed := with(list, index, change(list[index], more, kind, number)...)
						want, wantErr := []byte(nil), errorOf(more, kind, number)
						if wantErr == api.OK {
							want = ramp(n)
						}
						checkJoin(t, "a changed frame", changed, want, wantErr)
						checkLaterErrors(t, changed, index, wantErr)
					}
				}
			}
		}
	}
}

// checkLaterErrors demands that errors behind a frame with an error change nothing, nor the lack of frames.
func checkLaterErrors(t *testing.T, list [][]byte, index int, want api.Errno) {
	t.Helper()
	if want == api.OK {
		return
	}
	checkJoin(t, "an error in the last frame that is there", list[:index+1], nil, want)
	checkJoin(t, "an error and another frame", append(slices.Clip(list), []byte{1, 1}), nil, want)
	for later := index + 1; later < min(len(list), index+3); later++ {
		for _, frame := range frames("- 00 21 2f0102 1008010203040506 210102030405060708") {
			checkJoin(t, "a later error", with(list, later, frame...), nil, want)
		}
	}
}

// X2: the frames of a long message with every other number.
func TestChangedNumbers(t *testing.T) {
	b := ramp(7 * 40)
	list := cutOf(b)
	for index := 1; index < len(list); index++ {
		for more := 1; more <= 15; more++ {
			checkJoin(t, "another number", with(list, index, change(list[index], 0, 2, byte(more))...), nil, api.ErrSum)
		}
	}
}

// X2: the first byte of a frame of the longest message is one less, one more, and sixteen more or less.
func TestChangedFirstBytes(t *testing.T) {
	list := cutOf(ramp(most))
	for _, c := range []struct {
		number, first int
		want          api.Errno
	}{
		{15, 0x2f, api.OK}, {15, 0x2e, api.ErrSum}, {15, 0x20, api.ErrSum}, {15, 0x3f, api.ErrKind}, {15, 0x1f, api.ErrKind},
		{16, 0x20, api.OK}, {16, 0x2f, api.ErrSum}, {16, 0x21, api.ErrSum}, {16, 0x30, api.ErrKind}, {16, 0x10, api.ErrKind},
		{17, 0x21, api.OK}, {17, 0x20, api.ErrSum}, {17, 0x22, api.ErrSum}, {17, 0x31, api.ErrKind}, {17, 0x11, api.ErrKind},
		{31, 0x2f, api.OK}, {31, 0x2e, api.ErrSum}, {31, 0x20, api.ErrSum}, {31, 0x3f, api.ErrKind}, {31, 0x1f, api.ErrKind},
		{32, 0x20, api.OK}, {32, 0x2f, api.ErrSum}, {32, 0x21, api.ErrSum}, {32, 0x30, api.ErrKind}, {32, 0x40, api.ErrKind},
		{33, 0x21, api.OK}, {33, 0x20, api.ErrSum}, {33, 0x22, api.ErrSum}, {33, 0x31, api.ErrKind}, {33, 0x41, api.ErrKind},
		{585, 0x29, api.OK}, {585, 0x28, api.ErrSum}, {585, 0x2a, api.ErrSum}, {585, 0x39, api.ErrKind}, {585, 0x19, api.ErrKind},
	} {
		frame := slices.Clone(list[c.number])
		frame[0] = byte(c.first)
		want := ramp(most)
		if c.want != api.OK {
			want = nil
		}
		checkJoin(t, "another first byte", with(list, c.number, frame...), want, c.want)
	}
}

// X2: a frame whose number is sixteen more has the same first byte, so that it is taken for the one that was expected.
func TestNumberSixteenMore(t *testing.T) {
	b := someBytes(rand.New(rand.NewSource(2)), 6+7*40)
	list := cutOf(b)
	for index := 1; index+16 < len(list); index++ {
		changed, want := slices.Clone(list), slices.Clone(b)
		changed[index] = list[index+16]
		copy(want[7*index-1:], b[7*(index+16)-1:][:7])
		checkJoin(t, "the frame sixteen later", changed, want, api.OK)
		changed[index+16] = list[index]
		copy(want[7*(index+16)-1:], b[7*index-1:][:7])
		checkJoin(t, "two frames changed over that are sixteen apart", changed, want, api.OK)
	}
}

// X2: messages of every length without their last frame, with their first frame alone, and with one frame more.
func TestEndOfEveryLength(t *testing.T) {
	for n := 8; n <= most; n++ {
		list := cutOf(ramp(n))
		if _, err := Join(list[:len(list)-1]); err != api.ErrShort {
			t.Fatalf("Join of %d bytes without the last frame has the error %d", n, err)
		}
		if _, err := Join(append(slices.Clip(list), []byte{})); err != api.ErrFull {
			t.Fatalf("Join of %d bytes with one frame more has the error %d", n, err)
		}
		checkJoin(t, "the first frame alone", list[:1], nil, api.ErrShort)
	}
	for _, n := range lengths {
		list := cutOf(ramp(n))
		for have := 1; have < len(list); have++ {
			checkJoin(t, "some frames", list[:have], nil, api.ErrShort)
		}
	}
}

// X2: a message whose first frame announces another length.
func TestAnotherLength(t *testing.T) {
	for _, n := range []int{8, 13, 14, 20, 21, 256} {
		list := cutOf(ramp(n))
		for total := range 4096 {
			want, wantErr := []byte(nil), api.ErrShort
			switch {
			case total == n:
				want, wantErr = ramp(n), api.OK
			case total >= 8 && total < n && (total-6)%7 == 0:
				wantErr = api.ErrFull
			case total < n:
				wantErr = api.ErrForm
			}
			first := append([]byte{byte(16 + total/256), byte(total % 256)}, list[0][2:]...)
			checkJoin(t, "another length", with(list, 0, first...), want, wantErr)
		}
	}
}

// X2: all lists of up to four frames of a few kinds.
func TestAllShortLists(t *testing.T) {
	kinds := frames("- 00 0109 08 1008010203040506 100e010203040506 1015010203040506 10 21 210708 210708090a0b0c0d 220e 220e0f1011121314 310708 2315")
	count := map[api.Errno]int{}
	var list [][]byte
	var try func(n int)
	try = func(n int) {
		count[compareJoin(t, list)]++
		if n == 0 {
			return
		}
		for _, frame := range kinds {
			list = append(list, frame)
			try(n - 1)
			list = list[:len(list)-1]
		}
	}
	try(4)
	if count[api.OK] != 4 || count[api.ErrNone] != 1 || count[api.ErrFull] < 1000 || count[api.ErrShort] < 1000 || count[api.ErrForm] < 1000 || count[api.ErrKind] < 1000 || count[api.ErrSum] < 30 {
		t.Errorf("the errors: %v", count)
	}
}

// distort returns a list of frames with some change.
func distort(r *rand.Rand, list [][]byte) [][]byte {
	list = copyOf(list)
	index := r.Intn(len(list))
	frame := list[index]
	switch r.Intn(7) {
	case 0:
		return slices.Delete(list, index, index+1)
	case 1:
		return slices.Insert(list, index, slices.Clone(frame))
	case 2:
		other := r.Intn(len(list))
		list[index], list[other] = list[other], list[index]
	case 3:
		list[index] = frame[:r.Intn(len(frame)+1)]
	case 4:
		list[index] = append(frame, someBytes(r, r.Intn(3))...)
	case 5:
		if len(frame) > 0 {
			frame[0] ^= 1 << r.Intn(8)
		}
	case 6:
		if len(frame) > 1 {
			frame[1] ^= 1 << r.Intn(8)
		}
	}
	return list
}

// X2: any messages, of which most have been distorted.
func TestManyLists(t *testing.T) {
	r := rand.New(rand.NewSource(3))
	count := map[api.Errno]int{}
	for range 40000 {
		list := cutOf(someBytes(r, 1+r.Intn(r.Intn(300)+1)))
		for range r.Intn(4) {
			if len(list) > 0 {
				list = distort(r, list)
			}
		}
		count[compareJoin(t, list)]++
	}
	for _, err := range []api.Errno{api.OK, api.ErrNone, api.ErrShort, api.ErrForm, api.ErrKind, api.ErrFull, api.ErrSum} {
		if count[err] < 200 {
			t.Errorf("the errors: %v", count)
		}
	}
}

// without returns the frames whose bits in lost are 0.
func without(list [][]byte, lost int) [][]byte {
	var kept [][]byte
	for index, frame := range list {
		if lost>>index&1 == 0 {
			kept = append(kept, frame)
		}
	}
	return kept
}

// The property of the whole: lost frames are detected, whichever they are.
func TestLostFramesAreDetected(t *testing.T) {
	for n := 1; n <= 55; n++ {
		list := cutOf(ramp(n))
		for lost := 1; lost < 1<<len(list); lost++ {
			if err := compareJoin(t, without(list, lost)); err == api.OK {
				t.Fatalf("the frames of %d bytes without %b are joined", n, lost)
			}
		}
	}
	for _, n := range lengths {
		list := cutOf(ramp(n))
		for index := range list {
			for _, run := range []int{1, 2, 15, 16, 17, 32} {
				end := min(len(list), index+run)
				if got, err := Join(slices.Concat(list[:index], list[end:])); err == api.OK || len(got) != 0 {
					t.Fatalf("the frames of %d bytes without %d to %d are joined to %v, %d", n, index, end-1, got, err)
				}
			}
		}
	}
}

// X2: neighbouring frames in the wrong order, and a frame twice, are detected.
func TestFramesInWrongOrder(t *testing.T) {
	for _, n := range []int{14, 20, 21, 100, 256, 4095} {
		list := cutOf(someBytes(rand.New(rand.NewSource(4)), n))
		for index := range len(list) - 1 {
			swapped := slices.Clone(list)
			swapped[index], swapped[index+1] = swapped[index+1], swapped[index]
			if err := compareJoin(t, swapped); err == api.OK {
				t.Fatalf("%d bytes with %d and %d changed over are joined", n, index, index+1)
			}
			if err := compareJoin(t, slices.Insert(slices.Clone(list), index, list[index])); err == api.OK {
				t.Fatalf("%d bytes with %d twice are joined", n, index)
			}
		}
	}
}

// AA1: calls in between, also with errors, change no result.
func TestNoStateIsKept(t *testing.T) {
	r := rand.New(rand.NewSource(5))
	example := message("0102030405060708090a")
	for range 200 {
		list, _ := Cut(someBytes(r, 1+r.Intn(100)))
		Join(list)
		Join(list[1:])
		checkCut(t, "after other calls", example, frames("100a010203040506 210708090a"))
		Join(list[:len(list)-1])
		Cut(nil)
		Many(-1)
		demand(t, []joinCase{
			{"after other calls", "100a010203040506 210708090a", "0102030405060708090a", api.OK},
			{"alone again", "100a010203040506", "", api.ErrShort},
			{"after a first frame", "210708090a", "", api.ErrKind},
		})
		checkMany(t, 10, 2, api.OK)
	}
}

// AA2: what lies behind the lengths of the arguments is neither read nor changed.
func TestSpareCapacityIsLeftAlone(t *testing.T) {
	r := rand.New(rand.NewSource(6))
	for _, n := range lengths {
		long := someBytes(r, n+9)
		before := slices.Clone(long)
		compareCut(t, long[:n])
		compareCut(t, long[2:n+2])
		if !slices.Equal(long, before) {
			t.Fatalf("Cut changes what is behind the message")
		}
		checkSpareFrames(t, r, long[:n])
	}
	checkNoCut(t, ramp(9)[:0], api.ErrNone)
	checkNoCut(t, ramp(5000)[:4096], api.ErrRange)
}

// checkSpareFrames demands that Join leaves alone what is behind each frame, and behind the list.
func checkSpareFrames(t *testing.T, r *rand.Rand, b []byte) {
	t.Helper()
	var list, all [][]byte
	for _, frame := range cutOf(b) {
		long := append(slices.Clone(frame), someBytes(r, 9)...)
		all = append(all, long)
		list = append(list, long[:len(frame)])
	}
	spare := append(slices.Clone(list), []byte{1, 1}, nil)
	before := copyOf(all)
	checkJoin(t, "spare capacity", spare[:len(list)], b, api.OK)
	checkJoin(t, "spare capacity, and one more", spare[:len(list)+1], nil, api.ErrFull)
	for index, frame := range list {
		if index < 20 {
			checkJoin(t, "the missing byte is behind the frame", with(list, index, frame[:len(frame)-1]...), nil, api.ErrShort)
			checkJoin(t, "all bytes are behind the frame", with(list, index, frame[:0]...), nil, api.ErrShort)
		}
	}
	if len(list) > 1 {
		checkJoin(t, "the last frame is behind the list", spare[:len(list)-1], nil, api.ErrShort)
	}
	if !equal(all, before) || !slices.Equal(spare[len(list)], []byte{1, 1}) {
		t.Fatalf("Join changes what is behind the frames")
	}
}

// AA2: the frames may lie in one buffer, and one slice may be many frames.
func TestFramesInOneBuffer(t *testing.T) {
	for _, n := range lengths {
		buffer := slices.Concat(cutOf(ramp(n))...)
		var list [][]byte
		rest := buffer
		for _, frame := range cutOf(ramp(n)) {
			list = append(list, rest[:len(frame)])
			rest = rest[len(frame):]
		}
		before := slices.Clone(buffer)
		checkJoin(t, "frames in one buffer", list, ramp(n), api.OK)
		if !slices.Equal(buffer, before) {
			t.Fatalf("Join changes the buffer of the frames")
		}
	}
	list := cutOf(same(6+7*40, 5))
	for index := 17; index < len(list); index++ {
		list[index] = list[index-16]
	}
	checkJoin(t, "the same slices as many frames", list, same(6+7*40, 5), api.OK)
	single := []byte{1, 9}
	checkJoin(t, "one slice twice", [][]byte{single, single}, nil, api.ErrFull)
}

// AA2: results stay as they are when the arguments change later.
func TestResultsAreNew(t *testing.T) {
	for _, n := range lengths {
		b := ramp(n)
		list, _ := Cut(b)
		want := copyOf(list)
		invert(b)
		if !equal(list, want) {
			t.Fatalf("the frames of %d bytes have changed", n)
		}
		joined, _ := Join(list)
		for _, frame := range list {
			invert(frame)
		}
		if !slices.Equal(joined, ramp(n)) {
			t.Fatalf("the message of %d bytes has changed to %v", n, joined)
		}
	}
}

// AA3: nil and an empty slice are the same, as a message, as a list and as a frame.
func TestNilAndEmpty(t *testing.T) {
	checkNoCut(t, nil, api.ErrNone)
	checkNoCut(t, []byte{}, api.ErrNone)
	checkJoin(t, "nil", nil, nil, api.ErrNone)
	checkJoin(t, "empty", [][]byte{}, nil, api.ErrNone)
	for _, empty := range [][]byte{nil, {}} {
		checkJoin(t, "the first frame", [][]byte{empty}, nil, api.ErrShort)
		checkJoin(t, "a consecutive frame", append(frames("1008010203040506"), empty), nil, api.ErrShort)
		checkJoin(t, "a frame too much", append(frames("0109"), empty), nil, api.ErrFull)
		checkJoin(t, "a frame too much, behind consecutive ones", append(frames("1008010203040506 210708"), empty), nil, api.ErrFull)
	}
}
