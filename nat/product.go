package nat

import (
	"math/bits"

	"tiller/api"
)

// maxPower is how often Pow takes a number times itself at most.
const maxPower = 1_000_000

// Mul is a product.
func Mul(a, b N) (N, error) {
	if err := checkBoth(a, b); err != nil {
		return nil, err
	}
	return product(a, b)
}

// product is that of two numbers. It has as many words as both, or one less: where even that is too many, none is made.
func product(a, b N) (N, error) {
	if len(a) == 0 || len(b) == 0 {
		return nil, nil
	}
	if len(a)+len(b)-1 > api.MaxNat {
		return nil, api.ErrLong
	}
	all := make(N, len(a)+len(b))
	for i, x := range a {
		all[i+len(b)] = addTimes(all[i:i+len(b)], b, x)
	}
	return fit(all)
}

// addTimes adds b times x to as many words of to, and answers the word that is carried: (2^32 - 1)^2 and two times 2^32 - 1 are 2^64 - 1, so that one is enough.
func addTimes(to, b N, x uint32) uint32 {
	to = to[:len(b)]
	var carry uint64
	for i, y := range b {
		carry += uint64(x)*uint64(y) + uint64(to[i])
		to[i] = uint32(carry)
		carry >>= wordBits
	}
	return uint32(carry)
}

// Pow is a small number, so often times itself.
func Pow(base uint32, n int) (N, error) {
	if n < 0 || n > maxPower {
		return nil, api.ErrArg
	}
	// From the highest bit of n down: each power on the way is a lower one of base, so that none is too long unless the last one is.
	power, one := Of(1), Of(uint64(base))
	var err error
	for i := bits.Len(uint(n)) - 1; i >= 0 && err == nil; i-- {
		power, err = product(power, power)
		if err == nil && n>>i&1 == 1 {
			power, err = product(power, one)
		}
	}
	return power, err
}

// Shl is a number times a power of two.
func Shl(a N, n int) (N, error) {
	if err := Check(a); err != nil {
		return nil, err
	}
	if n < 0 {
		return nil, api.ErrArg
	}
	if len(a) == 0 {
		return nil, nil
	}
	if n > maxBits-Len(a) {
		return nil, api.ErrLong
	}
	skip := n / wordBits
	up := make(N, skip+len(a)+1)
	copy(up[skip:], a)
	moveUp(up[skip:], n%wordBits)
	return trim(up), nil
}

// moveUp moves words up by less than a word; the last one has room for what comes.
func moveUp(words N, n int) {
	var low uint32
	for i, x := range words {
		words[i] = x<<n | low
		low = x >> (wordBits - n)
	}
}

// moveDown moves words down by less than a word.
func moveDown(words N, n int) {
	var high uint32
	for i := len(words) - 1; i >= 0; i-- {
		x := words[i]
		words[i] = x>>n | high
		high = x << (wordBits - n)
	}
}
