package prod_test

import (
	"math/big"
	"slices"
	"testing"

	"tiller/aid"
	"tiller/api"
	"tiller/pat"
	"tiller/prod"
	"tiller/rnd"
)

const (
	minus = 1 << 63

	none  = api.Flags(0)
	off   = api.Inexact
	tiny  = api.Underflow | api.Inexact
	great = api.Overflow | api.Inexact

	half     = 0x3fe0000000000000
	one      = 0x3ff0000000000000
	oneHalf  = 0x3ff8000000000000 // 1.5
	two      = 0x4000000000000000
	leastBig = 0x0010000000000000 // the least plain pattern
	last     = 0x7fefffffffffffff // the greatest finite one
	inf      = 0x7ff0000000000000
	nan      = 0x7ff8000000000000
)

// Patterns that are no numbers, and some that are, of both signs.
var (
	quiets   = bothSigns(nan, nan+1, 0x7ffc000000000000, 0x7fffffffffffffff)
	louds    = bothSigns(inf+1, 0x7ff4000000000000, nan-1)
	noughts  = bothSigns(0)
	endless  = bothSigns(inf)
	finites  = bothSigns(1, 2, leastBig-1, leastBig, half, one-1, one, one+1, 0x3fb999999999999a, last-1, last)
	patterns = slices.Concat(quiets, louds, noughts, endless, finites)
)

// bothSigns are patterns, each of them without its sign and with it.
func bothSigns(all ...uint64) []uint64 {
	var both []uint64
	for _, p := range all {
		both = append(both, p, p+minus)
	}
	return both
}

// noughtByEndless tells whether one is 0 and the other one Endless.
func noughtByEndless(a, b uint64) bool {
	return slices.Contains(noughts, a) && slices.Contains(endless, b) || slices.Contains(endless, a) && slices.Contains(noughts, b)
}

// power is the plain pattern of 2^n.
func power(n int) uint64 { return uint64(n+1023) << 52 }

// signOf is the sign of a product.
func signOf(a, b uint64) uint64 { return (a ^ b) & minus }

// answer is what a call answers by one mode.
type answer struct {
	p uint64
	f api.Flags
}

// same is one answer by every mode.
func same(p uint64, f api.Flags) [5]answer {
	return [5]answer{{p, f}, {p, f}, {p, f}, {p, f}, {p, f}}
}

// between is what is above 0 and is rounded to low, or to high, with the same flags: by Even and Away to those that are told.
func between(even, away, low, high uint64, f api.Flags) [5]answer {
	return [5]answer{{even, f}, {away, f}, {low, f}, {high, f}, {low, f}}
}

// mirror is what is answered of the same number with the other sign: Up and Down change places.
func mirror(want [5]answer) [5]answer {
	want[api.Up], want[api.Down] = want[api.Down], want[api.Up]
	for m := range want {
		want[m].p ^= minus
	}
	return want
}

// wantMul asks Mul, both ways round.
func wantMul(t *testing.T, what string, a, b uint64, m api.Mode, want answer) {
	t.Helper()
	for range 2 {
		if p, f := prod.Mul(a, b, m); p != want.p || f != want.f {
			t.Errorf("%s: Mul(%#x, %#x, %d): %#x, %d; want %#x, %d", what, a, b, m, p, f, want.p, want.f)
		}
		a, b = b, a
	}
}

// wantFma asks Fma, the product both ways round.
func wantFma(t *testing.T, what string, a, b, c uint64, m api.Mode, want answer) {
	t.Helper()
	for range 2 {
		if p, f := prod.Fma(a, b, c, m); p != want.p || f != want.f {
			t.Errorf("%s: Fma(%#x, %#x, %#x, %d): %#x, %d; want %#x, %d", what, a, b, c, m, p, f, want.p, want.f)
		}
		a, b = b, a
	}
}

// exactly is a finite pattern's number as a count of 2^exp, as chapter 3 tells it.
func exactly(p uint64) (v *big.Int, exp int) {
	e, f := int(p>>52&2047), p&(1<<52-1)
	if e > 0 {
		f, e = f+1<<52, e-1
	}
	v = new(big.Int).SetUint64(f)
	if p >= minus {
		v.Neg(v)
	}
	return v, e - 1074
}

// product is that of two finite patterns, as a count of 2^exp.
func product(a, b uint64) (v *big.Int, exp int) {
	x, d := exactly(a)
	y, e := exactly(b)
	return x.Mul(x, y), d + e
}

// rounded is v times 2^exp, that is not 0, rounded by the layer below. That has no room for all its bits: what stands behind the first 200 of them is only told to be there.
func rounded(v *big.Int, exp int, m api.Mode) answer {
	x := rnd.Num{Minus: v.Sign() < 0, Exp: exp}
	size := new(big.Int).Abs(v)
	if cut := size.BitLen() - 200; cut > 0 {
		x.More = size.TrailingZeroBits() < uint(cut)
		x.Exp += cut
		size.Rsh(size, uint(cut))
	}
	for i, word := range size.Bits() {
		x.Sig[i] = uint64(word)
	}
	var z answer
	z.p, z.f = rnd.Round(x, m)
	return z
}

// wantedMul is the product of two finite patterns, word for word as the chapter has it.
func wantedMul(a, b uint64, m api.Mode) answer {
	v, exp := product(a, b)
	if v.Sign() == 0 {
		return answer{signOf(a, b), none}
	}
	return rounded(v, exp, m)
}

// wantedFma is a product and a sum of finite patterns, word for word as the chapters have it.
func wantedFma(a, b, c uint64, m api.Mode) answer {
	v, d := product(a, b)
	z, e := exactly(c)
	exp := min(d, e)
	v.Lsh(v, uint(d-exp))
	z.Lsh(z, uint(e-exp))
	v.Add(v, z)
	if v.Sign() != 0 {
		return rounded(v, exp, m)
	}
	return answer{zeroOf(signOf(a, b), c&minus, m), none}
}

// zeroOf is a sum of 0 of a product and a number of these signs.
func zeroOf(product, c uint64, m api.Mode) uint64 {
	switch {
	case product == c:
		return c
	case m == api.Down:
		return minus
	}
	return 0
}

// mixer makes odd numbers, and patterns by them.
type mixer struct{ aid.Mixer }

// near is a finite pattern of either sign, whose exponent is about e.
func (m *mixer) near(e, about int) uint64 {
	e = min(max(e+m.Below(2*about+1)-about, 0), 2046)
	return uint64(e)<<52 + m.Fraction() + m.Word()&minus
}

// finite is any finite pattern.
func (m *mixer) finite() uint64 { return m.near(m.Below(2047), 0) }

// factors are two finite patterns, most of them with a product that is no more than a bit beyond all patterns.
func (m *mixer) factors() (uint64, uint64) {
	d := m.Below(2047)
	a := m.near(d, 0)
	switch m.Below(4) {
	case 0:
		return a, m.finite()
	case 1:
		return a, m.near(2046+1023-d, 2)
	case 2:
		return a, m.near(1023-d, 60)
	}
	return a, m.near(1023, 900)
}

// summand is a finite pattern to be added to a product: many lie near it, and many take nearly all of it away.
func (m *mixer) summand(a, b uint64) uint64 {
	e := int(a>>52&2047) + int(b>>52&2047) - 1023
	switch m.Below(4) {
	case 0:
		return m.finite()
	case 1:
		return m.near(e, 170)
	case 2:
		return m.near(e, 3)
	}
	p, _ := prod.Mul(a, b, m.Mode())
	if q := p + uint64(m.Below(9)) - 4; pat.Finite(q) {
		return pat.Neg(q)
	}
	return pat.Neg(last - uint64(m.Below(4)))
}

// any is a pattern of any class, every second time one of those that are named.
func (m *mixer) any() uint64 {
	if m.Below(2) == 0 {
		return patterns[m.Below(len(patterns))]
	}
	return m.Word()
}
