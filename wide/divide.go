package wide

import (
	"math"
	"math/bits"

	"tiller/api"
)

// DivMod is a quotient and a rest.
func DivMod(a, b W) (W, W, error) {
	if b == (W{}) {
		return W{}, W{}, api.ErrZero
	}
	// Moved up till its highest word is full, the divisor makes good guesses; the quotient stays the same, if a is moved with it.
	size := (Len(b) + wordBits - 1) / wordBits
	up := size*wordBits - Len(b)
	by := Shl(b, up)
	low := Shl(a, up)
	rest := [wordCount + 1]uint64{low[0], low[1], low[2], low[3], a[3] >> uint(wordBits-up)}
	var quotient W
	for i := wordCount - size; i >= 0; i-- {
		quotient[i] = takeDigit(rest[i:i+size+1], by[:size])
	}
	left, _ := Shr(W{rest[0], rest[1], rest[2], rest[3]}, up)
	return quotient, left, nil
}

// takeDigit divides part, that has one word more than by and is below 2^64 times it: part becomes the rest, the quotient is answered. The guess is never too small, and too great by 2 at most, since the highest bit of by is set; what was taken too often is put back.
func takeDigit(part, by []uint64) uint64 {
	top := len(by)
	digit := guess(part[top], part[top-1], by[top-1])
	for below := takeOff(part, by, digit); below; below = !putBack(part, by) {
		digit--
	}
	return digit
}

// guess is a digit of a quotient by the highest words alone. Where high and by are the same, the quotient does not fit a word, but the digit does.
func guess(high, low, by uint64) uint64 {
	if high >= by {
		return math.MaxUint64
	}
	digit, _ := bits.Div64(high, low, by)
	return digit
}

// takeOff takes digit times by off part, and tells whether that went below 0.
func takeOff(part, by []uint64, digit uint64) bool {
	var low, carry, borrow uint64
	for i, x := range by {
		low, carry = mulAdd(x, digit, 0, carry)
		part[i], borrow = bits.Sub64(part[i], low, borrow)
	}
	part[len(by)], borrow = bits.Sub64(part[len(by)], carry, borrow)
	return borrow != 0
}

// putBack adds by to part, and tells whether that is 0 or more again, if part was below 0.
func putBack(part, by []uint64) bool {
	var carry uint64
	for i, x := range by {
		part[i], carry = bits.Add64(part[i], x, carry)
	}
	part[len(by)], carry = bits.Add64(part[len(by)], 0, carry)
	return carry != 0
}

// Sqrt is a root and a rest.
func Sqrt(a W) (W, W) {
	if a == (W{}) {
		return W{}, W{}
	}
	// Newton's steps, begun above the root, go down till they reach it; the first one that doesn't go down ends them.
	root := Shl(Of(1), (Len(a)+1)/2)
	for {
		next := middle(root, a)
		if Cmp(next, root) >= 0 {
			break
		}
		root = next
	}
	square, _ := Mul(root, root)
	rest, _ := Sub(a, square)
	return root, rest
}

// middle is halfway between x, that is not 0, and a parted by x. In Sqrt neither is above 2^129, so that their sum fits.
func middle(x, a W) W {
	quotient, _, _ := DivMod(a, x)
	sum, _ := Add(x, quotient)
	half, _ := Shr(sum, 1)
	return half
}
