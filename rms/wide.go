package rms

import (
	"math"
	"math/bits"
)

// wide is a number of 256 bits, the lowest word first. That is enough for MaxNode factors of up to 20000 (229 bits), and for MaxNode times the product of as many periods (217 bits).
type wide [4]uint64

// plus returns the sum of two numbers.
func (a wide) plus(b wide) wide {
	carry := uint64(0)
	for k := range a {
		a[k], carry = bits.Add64(a[k], b[k], carry)
	}
	return a
}

// times returns a number multiplied by another one.
func (a wide) times(by uint64) wide {
	carry := uint64(0)
	for k := range a {
		high, low := bits.Mul64(a[k], by)
		word, more := bits.Add64(low, carry, 0)
		a[k], carry = word, high+more
	}
	return a
}

// over returns a number divided by another one, which is not 0, and what remains.
func (a wide) over(by uint64) (wide, uint64) {
	rest := uint64(0)
	for k := len(a) - 1; k >= 0; k-- {
		a[k], rest = bits.Div64(rest, a[k], by)
	}
	return a, rest
}

// common returns the greatest common divisor of a number and another one, which is not 0.
func (a wide) common(other uint64) uint64 {
	_, rest := a.over(other)
	for rest > 0 {
		other, rest = rest, other%rest
	}
	return other
}

// exceeds tells whether a number is greater than another one.
func (a wide) exceeds(b wide) bool {
	for k := len(a) - 1; k >= 0; k-- {
		if a[k] != b[k] {
			return a[k] > b[k]
		}
	}
	return false
}

// isGreat tells whether a number exceeds 2^63 - 1.
func (a wide) isGreat() bool { return a.exceeds(wide{math.MaxInt64}) }

// number returns a number that is not great.
func (a wide) number() int { return int(a[0]) }
