package nat

import (
	"math"
	"math/bits"

	"tiller/api"
)

// DivMod is a quotient and a rest.
func DivMod(a, b N) (N, N, error) {
	if err := checkBoth(a, b); err != nil {
		return nil, nil, err
	}
	if len(b) == 0 {
		return nil, nil, api.ErrZero
	}
	rest := make(N, len(a)+1)
	copy(rest, a)
	if compare(a, b) < 0 {
		return nil, trim(rest), nil
	}
	// Moved up till its highest word is full, the divisor makes good guesses; the quotient stays the same, if a is moved with it.
	up := bits.LeadingZeros32(b[len(b)-1])
	by := make(N, len(b))
	copy(by, b)
	moveUp(by, up)
	moveUp(rest, up)
	quotient := make(N, len(a)-len(b)+1)
	for i := len(quotient) - 1; i >= 0; i-- {
		quotient[i] = takeDigit(rest[i:i+len(by)+1], by)
	}
	moveDown(rest, up)
	return trim(quotient), trim(rest), nil
}

// takeDigit divides part, that has one word more than by and is below 2^32 times it: part becomes the rest, the quotient is answered. The guess is never too small, and too great by 2 at most, since the highest bit of by is set; what was taken too often is put back.
func takeDigit(part, by N) uint32 {
	top := len(by)
	digit := guess(part[top], part[top-1], by[top-1])
	for below := takeOff(part, by, digit); below; below = !putBack(part, by) {
		digit--
	}
	return digit
}

// guess is a digit of a quotient by the highest words alone. Where high and by are the same, the quotient does not fit a word, but the digit does.
func guess(high, low, by uint32) uint32 {
	if high >= by {
		return math.MaxUint32
	}
	return uint32((uint64(high)<<wordBits | uint64(low)) / uint64(by))
}

// takeOff takes digit times by off part, and tells whether that went below 0.
func takeOff(part, by N, digit uint32) bool {
	top := len(by)
	low := part[:top]
	var carry uint64
	var borrow uint32
	for i, x := range by {
		carry += uint64(x) * uint64(digit)
		low[i], borrow = bits.Sub32(low[i], uint32(carry), borrow)
		carry >>= wordBits
	}
	part[top], borrow = bits.Sub32(part[top], uint32(carry), borrow)
	return borrow != 0
}

// putBack adds by to part, and tells whether that is 0 or more again, if part was below 0.
func putBack(part, by N) bool {
	var carry uint32
	for i, x := range by {
		part[i], carry = bits.Add32(part[i], x, carry)
	}
	part[len(by)], carry = bits.Add32(part[len(by)], 0, carry)
	return carry != 0
}
