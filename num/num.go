// Package num has numbers that fit, or saturate, and sets of Ps. It is layer 1: see shared/doc/01-num.md.
package num

import "math/bits"

// top is the greatest number.
const top = 1<<64 - 1

// kind is a kind of result. Each operation is told once, of any kind: what it comes to, or, where that is no number, which number is nearest.
type kind[R any] interface {
	number(n uint64) R
	nearest(n uint64) R
}

// exact is the kind of result that knows whether it fits.
type exact struct {
	n    uint64
	fits bool
}

func (exact) number(n uint64) exact { return exact{n, true} }

func (exact) nearest(uint64) exact { return exact{} }

// saturated is the kind of result that always is a number.
type saturated uint64

func (saturated) number(n uint64) saturated { return saturated(n) }

func (saturated) nearest(n uint64) saturated { return saturated(n) }

func sum[R kind[R]](a, b uint64) R {
	var r R
	n, carry := bits.Add64(a, b, 0)
	if carry != 0 {
		return r.nearest(top)
	}
	return r.number(n)
}

func difference[R kind[R]](a, b uint64) R {
	var r R
	if a < b {
		return r.nearest(0)
	}
	return r.number(a - b)
}

func product[R kind[R]](a, b uint64) R {
	var r R
	high, low := bits.Mul64(a, b)
	if high != 0 {
		return r.nearest(top)
	}
	return r.number(low)
}

// Add is a + b, and does it fit?
func Add(a, b uint64) (uint64, bool) {
	r := sum[exact](a, b)
	return r.n, r.fits
}

// Sub is a - b, and does it fit?
func Sub(a, b uint64) (uint64, bool) {
	r := difference[exact](a, b)
	return r.n, r.fits
}

// Mul is a times b, and does it fit?
func Mul(a, b uint64) (uint64, bool) {
	r := product[exact](a, b)
	return r.n, r.fits
}

// AddSat is a + b, saturated.
func AddSat(a, b uint64) uint64 { return uint64(sum[saturated](a, b)) }

// SubSat is a - b, saturated.
func SubSat(a, b uint64) uint64 { return uint64(difference[saturated](a, b)) }

// MulSat is a times b, saturated.
func MulSat(a, b uint64) uint64 { return uint64(product[saturated](a, b)) }
