// Package bitrow packs integers and bytes into rows of bits; see doc/01-bitrow.md.
package bitrow

import "slotwright/api"

// maxWidth is small enough that 2^width is an int for every width.
const maxWidth = 62

const byteWidth = 8

// Put encodes n with width bits, the most significant bit first.
func Put(width, n int) ([]bool, api.Errno) {
	if !isWidth(width) || n < 0 || n>>width != 0 {
		return nil, api.ErrRange
	}
	return appendBits(nil, width, n), api.OK
}

// Get decodes a row of bits, the most significant bit first.
func Get(b []bool) (int, api.Errno) {
	if !isWidth(len(b)) {
		return 0, api.ErrRange
	}
	return number(b), api.OK
}

// Pack encodes each number with the width at the same index and joins the rows.
func Pack(widths, nums []int) ([]bool, api.Errno) {
	if len(widths) != len(nums) {
		return nil, api.ErrForm
	}
	var row []bool
	for i, width := range widths {
		bits, err := Put(width, nums[i])
		if err != api.OK {
			return nil, err
		}
		row = append(row, bits...)
	}
	return row, api.OK
}

// Unpack decodes numbers of the given widths, which must use up all bits of b.
func Unpack(widths []int, b []bool) ([]int, api.Errno) {
	var nums []int
	for _, width := range widths {
		if !isWidth(width) {
			return nil, api.ErrRange
		}
		if width > len(b) {
			return nil, api.ErrShort
		}
		nums = append(nums, number(b[:width]))
		b = b[width:]
	}
	if len(b) > 0 {
		return nil, api.ErrForm
	}
	return nums, api.OK
}

// Bytes returns the bytes of b; the last one is completed with zero bits.
func Bytes(b []bool) []byte {
	var out []byte
	for len(b) >= byteWidth {
		out = append(out, byte(number(b[:byteWidth])))
		b = b[byteWidth:]
	}
	if len(b) > 0 {
		out = append(out, byte(number(b)<<(byteWidth-len(b))))
	}
	return out
}

// Of returns the bits of all bytes, the most significant bit of each byte first.
func Of(l []byte) []bool {
	var row []bool
	for _, c := range l {
		row = appendBits(row, byteWidth, int(c))
	}
	return row
}

func isWidth(width int) bool { return 0 <= width && width <= maxWidth }

func appendBits(row []bool, width, n int) []bool {
	for i := width - 1; i >= 0; i-- {
		row = append(row, n>>i&1 == 1)
	}
	return row
}

func number(b []bool) int {
	n := 0
	for _, bit := range b {
		n <<= 1
		if bit {
			n |= 1
		}
	}
	return n
}
