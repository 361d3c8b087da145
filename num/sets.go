package num

import (
	"iter"
	"math/bits"
)

// width is how many Ps a set can have.
const width = 8

// bit is the set of p alone; of no such p it is empty, so that nothing comes to a set by it, and nothing goes.
func bit(p int) uint8 {
	if p < 0 || p >= width {
		return 0
	}
	return 1 << p
}

// Has: is p in it?
func Has(set uint8, p int) bool { return set&bit(p) != 0 }

// With is the set with p.
func With(set uint8, p int) uint8 { return set | bit(p) }

// Without is the set without p.
func Without(set uint8, p int) uint8 { return set &^ bit(p) }

// Count is how many are in it.
func Count(set uint8) int { return bits.OnesCount8(set) }

// Nth is the one at n, rising, counted round and round, from the end where n is below 0; and is there one?
func Nth(set uint8, n int) (int, bool) {
	ahead := round(n, Count(set))
	for p := range All(set) {
		if ahead == 0 {
			return p, true
		}
		ahead--
	}
	return 0, false
}

// round is n modulo many, never below 0; of none it is 0.
func round(n, many int) int {
	if many == 0 {
		return 0
	}
	return (n%many + many) % many
}

// Mask is the set of the first so many Ps.
func Mask(ps int) uint8 {
	var set uint8
	for p := range min(ps, width) {
		set = With(set, p)
	}
	return set
}

// All goes over them, rising.
func All(set uint8) iter.Seq[int] {
	return func(yield func(int) bool) {
		for p := range width {
			if Has(set, p) && !yield(p) {
				return
			}
		}
	}
}
