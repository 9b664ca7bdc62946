// Package num is layer 1: whole numbers, exactly. See shared/doc/01-num.md.
package num

import (
	"math"
	"math/bits"

	"moiety/api"
)

// Wide is a number of 128 bits: Hi times 2^64, and Lo.
type Wide struct {
	Hi int64
	Lo uint64
}

// Add is a plus b; ErrOver, if that does not fit in 64 bits.
func Add(a, b int64) (int64, api.Errno) {
	s := a + b
	// A sum that wrapped round lies on the wrong side of a.
	if (s < a) != (b < 0) {
		return 0, api.ErrOver
	}
	return s, api.OK
}

// Sub is a less b; ErrOver, if that does not fit in 64 bits.
func Sub(a, b int64) (int64, api.Errno) {
	d := a - b
	// A difference that wrapped round lies on the wrong side of a.
	if (d > a) != (b < 0) {
		return 0, api.ErrOver
	}
	return d, api.OK
}

// Neg is 0 less a; ErrOver, if that does not fit in 64 bits.
func Neg(a int64) (int64, api.Errno) {
	return Sub(0, a)
}

// Diff is how far a is from b, and whether a is below b.
func Diff(a, b int64) (uint64, bool) {
	// Without a sign even the distance from the least to the greatest number fits.
	if a < b {
		return uint64(b) - uint64(a), true
	}
	return uint64(a) - uint64(b), false
}

// Off is a plus far, or, if below, a less far; ErrOver, if that does not fit in 64 bits.
func Off(a int64, far uint64, below bool) (int64, api.Errno) {
	end := int64(math.MaxInt64)
	if below {
		end = math.MinInt64
	}
	if room, _ := Diff(a, end); far > room {
		return 0, api.ErrOver
	}
	if below {
		return int64(uint64(a) - far), api.OK
	}
	return int64(uint64(a) + far), api.OK
}

// More is w plus all of l, modulo 2^128.
func More(w Wide, l ...int64) Wide {
	for _, n := range l {
		lo, carry := bits.Add64(w.Lo, uint64(n), 0)
		// The upper half of n is its sign over and over.
		w = Wide{Hi: w.Hi + n>>63 + int64(carry), Lo: lo}
	}
	return w
}

// Fits is w as a number of 64 bits; ErrOver, if it is none.
func Fits(w Wide) (int64, api.Errno) {
	n := int64(w.Lo)
	// The upper half of what fits is the sign of the lower one over and over.
	if w.Hi != n>>63 {
		return 0, api.ErrOver
	}
	return n, api.OK
}

// Sum is the sum of all of l; ErrOver, if that does not fit in 64 bits.
func Sum(l ...int64) (int64, api.Errno) {
	// What stands in between may not fit, so it is kept wide.
	return Fits(More(Wide{}, l...))
}

// MulDiv is a times b divided by c, rounded down, and what is left; ErrZero, if c is 0; ErrOver, if the quotient does not fit in 64 bits without a sign.
func MulDiv(a, b, c uint64) (uint64, uint64, api.Errno) {
	if c == 0 {
		return 0, 0, api.ErrZero
	}
	hi, lo := bits.Mul64(a, b)
	// With an upper half of c or more the quotient is 2^64 or more, and Div64 would panic.
	if hi >= c {
		return 0, 0, api.ErrOver
	}
	quotient, left := bits.Div64(hi, lo, c)
	return quotient, left, api.OK
}
