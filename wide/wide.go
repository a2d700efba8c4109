// Package wide is layer 1: numbers of 256 bits: see shared/doc/01-wide.md.
package wide

import "math/bits"

const (
	wordCount = len(W{})
	wordBits  = 64
	allBits   = wordCount * wordBits
)

// W is a number of 256 bits, the lowest 64 first.
type W [4]uint64

// Of is a small number.
func Of(n uint64) W { return W{n} }

// Add is a sum, and whether it is beyond 256 bits.
func Add(a, b W) (W, bool) {
	var sum W
	var carry uint64
	for i := range sum {
		sum[i], carry = bits.Add64(a[i], b[i], carry)
	}
	return sum, carry != 0
}

// Sub is a difference, and whether it is below 0.
func Sub(a, b W) (W, bool) {
	var difference W
	var borrow uint64
	for i := range difference {
		difference[i], borrow = bits.Sub64(a[i], b[i], borrow)
	}
	return difference, borrow != 0
}

// Mul is a product: its low 256 bits, and its high ones.
func Mul(a, b W) (W, W) {
	var all [2 * wordCount]uint64
	for i, x := range a {
		// Most numbers that are multiplied are short: a row of noughts adds nothing.
		if x == 0 {
			continue
		}
		var carry uint64
		for j, y := range b {
			all[i+j], carry = mulAdd(x, y, all[i+j], carry)
		}
		all[i+wordCount] = carry
	}
	return W{all[0], all[1], all[2], all[3]}, W{all[4], all[5], all[6], all[7]}
}

// mulAdd is x y + more + carry: its low word, and its high one. (2^64 - 1)^2 and two times 2^64 - 1 are 2^128 - 1, so that two words always hold it.
func mulAdd(x, y, more, carry uint64) (uint64, uint64) {
	high, low := bits.Mul64(x, y)
	low, over := bits.Add64(low, more, 0)
	high += over
	low, over = bits.Add64(low, carry, 0)
	return low, high + over
}

// Cmp tells which is less: -1, 0, 1.
func Cmp(a, b W) int {
	if a == b {
		return 0
	}
	if _, below := Sub(a, b); below {
		return -1
	}
	return 1
}

// Len is how many bits a number has.
func Len(a W) int {
	for i := wordCount - 1; i >= 0; i-- {
		if a[i] != 0 {
			return i*wordBits + bits.Len64(a[i])
		}
	}
	return 0
}

// Bit is a bit.
func Bit(a W, n int) uint {
	if n < 0 || n >= allBits {
		return 0
	}
	return uint(a[n/wordBits] >> uint(n%wordBits) & 1)
}
