package show

import (
	"math/bits"
	"strconv"
	"strings"

	"tiller/nat"
	"tiller/pat"
)

const (
	enough     = 17                // so many digits, rounded to the nearest, are read as every pattern
	powerOfTwo = 1 << fractionBits // what Sig is of a plain pattern that is a power of two
	leastExp   = -1074             // no pattern's step is less than that power of two
	wordBits   = 32                // of nat
)

// span is a pattern, and the whole numbers that are read as it, all of them times 10^last.
type span struct {
	low, high uint64
	at        uint64
	more      bool // the pattern is a little more than at
	last      int
}

// spanOf is that of a pattern that is not 0. It ends in the middle between two patterns, where reading turns to the one whose last bit is not set.
func spanOf(x pat.Parts) span {
	// In fourths of the step to the next pattern up: below a power of two the step is half as great.
	at := 4 * x.Sig
	low, high := at-2, at+2
	if x.Sig == powerOfTwo && x.Exp > leastExp {
		low = at - 1
	}
	// At has one digit, or two, more than are enough. High is at most half as great again, and below 2^64, too.
	s := span{last: logBelow(x) - enough}
	fourth := scaleOf(x.Exp-2, -s.last)
	closed := x.Sig%2 == 0
	var more bool
	s.at, s.more = fourth.times(at)
	if s.low, more = fourth.times(low); more || !closed {
		s.low++
	}
	if s.high, more = fourth.times(high); !more && !closed {
		s.high--
	}
	return s
}

// logBelow is the greatest n for which 10^n is at most the size, or one less, by its highest bit: 78913 by 2^18 is the logarithm of 2, near enough for all powers of two that there are.
func logBelow(x pat.Parts) int { return (x.Exp + bits.Len64(x.Sig) - 1) * 78913 >> 18 }

// scale is a power of two times a power of ten, as a fraction. Neither part is so long that nat has no room for it.
type scale struct{ over, under nat.N }

func scaleOf(twos, tens int) scale {
	over, _ := nat.Pow(10, max(tens, 0))
	under, _ := nat.Pow(10, max(-tens, 0))
	over, _ = nat.Shl(over, max(twos, 0))
	under, _ = nat.Shl(under, max(-twos, 0))
	return scale{over, under}
}

// times is n times a scale, that is below 2^64, cut to a whole number, and whether it is a little more.
func (s scale) times(n uint64) (uint64, bool) {
	all, _ := nat.Mul(nat.Of(n), s.over)
	quotient, rest, _ := nat.DivMod(all, s.under)
	var whole uint64
	for i, word := range quotient {
		whole |= uint64(word) << (i * wordBits)
	}
	return whole, len(rest) > 0
}

// shortest is the decimal of the fewest digits that is read as a pattern, that is not 0. Of so many digits only the two next to the pattern are looked at: what lies farther away is read as it only if one of these is.
func shortest(x pat.Parts) decimal {
	s := spanOf(x)
	unit := uint64(1) // of the last digit: of one digit as great as at
	for unit <= s.at/10 {
		unit *= 10
	}
	near, far := s.around(unit)
	for !s.has(near) && !s.has(far) {
		unit /= 10
		near, far = s.around(unit)
	}
	if !s.has(near) {
		near = far
	}
	return withoutNoughts(near, s.last)
}

// around are the two multiples of a unit next to the pattern, the nearer one first; of two that are as near the even one. A unit is 10 or more, since at has more digits than are enough.
func (s span) around(unit uint64) (near, far uint64) {
	count, rest := s.at/unit, s.at%unit
	down, up := count*unit, (count+1)*unit
	half := unit / 2
	if rest > half || rest == half && (s.more || count%2 == 1) {
		return up, down
	}
	return down, up
}

func (s span) has(n uint64) bool { return s.low <= n && n <= s.high }

// withoutNoughts is n times 10^last, without noughts at its end.
func withoutNoughts(n uint64, last int) decimal {
	digits := strconv.FormatUint(n, 10)
	return decimal{strings.TrimRight(digits, "0"), last + len(digits) - 1}
}
