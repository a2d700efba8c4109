package sums_test

import (
	"math"
	"math/big"

	"tiller/aid"
	"tiller/api"
	"tiller/pat"
	"tiller/rnd"
	"tiller/wide"
)

const (
	minus = 1 << 63
	full  = math.MaxUint64

	none  = api.Flags(0)
	off   = api.Inexact
	tiny  = api.Underflow | api.Inexact
	great = api.Overflow | api.Inexact

	one      = 0x3ff0000000000000
	two      = 0x4000000000000000
	leastBig = 0x0010000000000000 // the least plain pattern
	last     = 0x7fefffffffffffff // the greatest finite one
	inf      = 0x7ff0000000000000
	nan      = 0x7ff8000000000000
	loud     = 0x7ff0000000000001
	quantum  = 1 << 52 // one step of the exponent, as it stands in a pattern
)

// bits is 2^high + 2^low, or 2^high, if both are the same.
func bits(high, low int) wide.W {
	var w wide.W
	w[high/64] |= 1 << uint(high%64)
	w[low/64] |= 1 << uint(low%64)
	return w
}

// toBig is a size as a count of 2^exp, that is at most 2^Exp.
func toBig(x rnd.Num, exp int) *big.Int {
	v := new(big.Int)
	for i := len(x.Sig) - 1; i >= 0; i-- {
		v.Lsh(v, 64)
		v.Or(v, new(big.Int).SetUint64(x.Sig[i]))
	}
	v.Lsh(v, uint(x.Exp-exp))
	if x.Minus {
		v.Neg(v)
	}
	return v
}

// exactly is the sum of two numbers, as a count of 2^exp.
func exactly(x, y rnd.Num) (v *big.Int, exp int) {
	exp = min(x.Exp, y.Exp)
	return new(big.Int).Add(toBig(x, exp), toBig(y, exp)), exp
}

// zeroOf is the sign of a sum of 0, as the chapter has it.
func zeroOf(x, y rnd.Num, m api.Mode) uint64 {
	if x.Minus && y.Minus || x.Minus != y.Minus && m == api.Down {
		return minus
	}
	return 0
}

// toMultiple is how often 2^to is in v times 2^exp, rounded, and whether that is another number.
func toMultiple(v *big.Int, exp, to int, below0 bool, m api.Mode) (*big.Int, bool) {
	if exp >= to {
		return new(big.Int).Lsh(v, uint(exp-to)), false
	}
	unit := new(big.Int).Lsh(big.NewInt(1), uint(to-exp))
	count, rest := new(big.Int).QuoRem(v, unit, new(big.Int))
	if rest.Sign() == 0 {
		return count, false
	}
	half := rest.Lsh(rest, 1).Cmp(unit)
	var up bool
	switch m {
	case api.Zero:
	case api.Up:
		up = !below0
	case api.Down:
		up = below0
	case api.Away:
		up = half >= 0
	default:
		up = half > 0 || half == 0 && count.Bit(0) == 1
	}
	if up {
		count.Add(count, big.NewInt(1))
	}
	return count, true
}

// pattern is the finite pattern of count times 2^exp, that is one.
func pattern(count *big.Int, exp int, below0 bool) uint64 {
	c := count.Uint64()
	if c == 1<<53 {
		c, exp = 1<<52, exp+1
	}
	parts := pat.Parts{Minus: below0, Class: pat.Plain, Exp: exp, Sig: c}
	switch {
	case c == 0:
		parts.Class = pat.Nought
	case c < 1<<52:
		parts.Class = pat.Tiny
	}
	p, err := pat.Make(parts)
	if err != nil {
		panic(err)
	}
	return p
}

// rounded is v times 2^exp, that is not 0, rounded word for word as chapter 4 has it.
func rounded(v *big.Int, exp int, m api.Mode) (uint64, api.Flags) {
	below0 := v.Sign() < 0
	v = new(big.Int).Abs(v)
	sign, inward := uint64(0), m == api.Zero || m == api.Down && !below0 || m == api.Up && below0
	if below0 {
		sign = minus
	}
	n := exp + v.BitLen() - 1
	q := max(n-52, -1074)
	beyond := n >= 1024
	var count *big.Int
	var other bool
	if !beyond {
		count, other = toMultiple(v, exp, q, below0, m)
		beyond = count.BitLen() == 54 && q == 971
	}
	switch {
	case beyond && inward:
		return sign + last, great
	case beyond:
		return sign + inf, great
	case !other:
		return pattern(count, q, below0), none
	}
	free, _ := toMultiple(v, exp, n-52, below0, m)
	if n-52+free.BitLen()-1 < -1022 {
		return pattern(count, q, below0), tiny
	}
	return pattern(count, q, below0), off
}

// mixer makes odd numbers, and numbers of this layer by them.
type mixer struct{ aid.Mixer }

// sig is a number of just so many bits, up to 128; half of them have few bits set, at both ends.
func (m *mixer) sig(length int) wide.W {
	if length == 0 {
		return wide.W{}
	}
	if m.Below(2) == 0 {
		return bits(length-1, m.Below(length))
	}
	w := wide.W{m.Word(), m.Word()}
	w, _ = wide.Shr(w, 128-length)
	top := bits(length-1, length-1)
	return wide.W{w[0] | top[0], w[1] | top[1]}
}

// pair are two finite patterns of any signs, often of exponents near each other.
func (m *mixer) pair() (uint64, uint64) {
	e := m.Below(2047)
	d := m.Below(2047)
	if m.Below(8) > 0 {
		d = min(max(e+m.Below(141)-70, 0), 2046)
	}
	a := uint64(e)<<52 + m.Fraction() + m.Word()&minus
	b := uint64(d)<<52 + m.Fraction() + m.Word()&minus
	return a, b
}
