// Package bits is layer 1: numbers and texts as bits, small numbers in few of them. See shared/doc/01-bits.md.
package bits

import (
	"math"
	mathbits "math/bits"
)

// Size is how many bits a natural number has.
func Size(u uint64) int { return 2*ahead(u) + 1 }

// ahead is how many bits 0 stand ahead of the first 1 in a natural number's code.
func ahead(u uint64) int {
	if u == math.MaxUint64 { // u + 1 has no place in 64 bits
		return 64
	}
	return mathbits.Len64(u+1) - 1
}

// fold is the natural number that stands for n.
func fold(n int64) uint64 {
	if n >= 0 {
		return 2 * uint64(n)
	}
	// -2 n - 1, by way of -(n + 1): that has place in an int64 for the least n, too
	return 2*uint64(-(n+1)) + 1
}

// unfold is the number for which the natural number u stands.
func unfold(u uint64) int64 {
	half := int64(u >> 1)
	if u&1 == 0 {
		return half
	}
	return -half - 1
}
