package quot_test

import (
	"math/big"
	"slices"
	"testing"

	"tiller/aid"
	"tiller/api"
	"tiller/quot"
	"tiller/rnd"
)

const (
	minus = 1 << 63

	none  = api.Flags(0)
	off   = api.Inexact
	tiny  = api.Underflow | api.Inexact
	great = api.Overflow | api.Inexact

	half     = 0x3fe0000000000000
	one      = 0x3ff0000000000000
	two      = 0x4000000000000000
	three    = 0x4008000000000000
	leastBig = 0x0010000000000000 // the least plain pattern
	last     = 0x7fefffffffffffff // the greatest finite one
	inf      = 0x7ff0000000000000
	nan      = 0x7ff8000000000000
)

// Patterns that are no numbers, and some that are, of both signs.
var (
	quiets   = bothSigns(nan, nan+1, 0x7ffc000000000000, 0x7fffffffffffffff)
	louds    = bothSigns(inf+1, 0x7ff4000000000000, nan-1)
	noughts  = bothSigns(0)
	endless  = bothSigns(inf)
	finites  = bothSigns(1, 2, leastBig-1, leastBig, half, one-1, one, one+1, 0x3fb999999999999a, last-1, last)
	patterns = slices.Concat(quiets, louds, noughts, endless, finites)
)

// bothSigns are patterns, each of them without its sign and with it.
func bothSigns(all ...uint64) []uint64 {
	var both []uint64
	for _, p := range all {
		both = append(both, p, p+minus)
	}
	return both
}

// power is the plain pattern of 2^n.
func power(n int) uint64 { return uint64(n+1023) << 52 }

// signOf is the sign of a quotient.
func signOf(a, b uint64) uint64 { return (a ^ b) & minus }

// answer is what a call answers by one mode.
type answer struct {
	p uint64
	f api.Flags
}

// same is one answer by every mode.
func same(p uint64, f api.Flags) [5]answer {
	return [5]answer{{p, f}, {p, f}, {p, f}, {p, f}, {p, f}}
}

// between is what is above 0 and is rounded to low, or to high, with the same flags: by Even and Away to those that are told.
func between(even, away, low, high uint64, f api.Flags) [5]answer {
	return [5]answer{{even, f}, {away, f}, {low, f}, {high, f}, {low, f}}
}

// nearLow lies between low and the next pattern, nearer to low.
func nearLow(low uint64) [5]answer { return between(low, low, low, low+1, off) }

// nearHigh lies between the pattern below high, and high, nearer to high.
func nearHigh(high uint64) [5]answer { return between(high, high, high-1, high, off) }

// mirror is what is answered of the same number with the other sign: Up and Down change places.
func mirror(want [5]answer) [5]answer {
	want[api.Up], want[api.Down] = want[api.Down], want[api.Up]
	for m := range want {
		want[m].p ^= minus
	}
	return want
}

func wantDiv(t *testing.T, what string, a, b uint64, m api.Mode, want answer) {
	t.Helper()
	if p, f := quot.Div(a, b, m); p != want.p || f != want.f {
		t.Errorf("%s: Div(%#x, %#x, %d): %#x, %d; want %#x, %d", what, a, b, m, p, f, want.p, want.f)
	}
}

func wantSqrt(t *testing.T, what string, a uint64, m api.Mode, want answer) {
	t.Helper()
	if p, f := quot.Sqrt(a, m); p != want.p || f != want.f {
		t.Errorf("%s: Sqrt(%#x, %d): %#x, %d; want %#x, %d", what, a, m, p, f, want.p, want.f)
	}
}

// exactly is a finite pattern's size as a count of 2^exp, as chapter 3 tells it.
func exactly(p uint64) (v *big.Int, exp int) {
	e, f := int(p>>52&2047), p&(1<<52-1)
	if e > 0 {
		f, e = f+1<<52, e-1
	}
	return new(big.Int).SetUint64(f), e - 1074
}

// rounded is a size of v times 2^exp, that is not 0, and less than 2^exp more, if more, rounded by the layer below. That has no room for all its bits: what stands behind the first 200 of them is only told to be there.
func rounded(v *big.Int, exp int, more, below0 bool, m api.Mode) answer {
	x := rnd.Num{Minus: below0, Exp: exp, More: more}
	if cut := v.BitLen() - 200; cut > 0 {
		x.More = x.More || v.TrailingZeroBits() < uint(cut)
		x.Exp += cut
		v = new(big.Int).Rsh(v, uint(cut))
	}
	for i, word := range v.Bits() {
		x.Sig[i] = uint64(word)
	}
	var z answer
	z.p, z.f = rnd.Round(x, m)
	return z
}

// wantedDiv is the quotient of two finite patterns, b not 0, word for word as the chapter has it.
func wantedDiv(a, b uint64, m api.Mode) answer {
	const places = 500
	x, d := exactly(a)
	y, e := exactly(b)
	if x.Sign() == 0 {
		return answer{signOf(a, b), none}
	}
	v, rest := x.QuoRem(x.Lsh(x, places), y, new(big.Int))
	return rounded(v, d-e-places, rest.Sign() > 0, signOf(a, b) != 0, m)
}

// wantedSqrt is the root of a finite pattern above 0, word for word as the chapter has it.
func wantedSqrt(a uint64, m api.Mode) answer {
	const places = 900 // so many that even the least pattern's root has more than 200 bits
	x, e := exactly(a)
	x.Lsh(x, uint(2*places+e))
	v := new(big.Int).Sqrt(x)
	return rounded(v, -places, new(big.Int).Mul(v, v).Cmp(x) < 0, false, m)
}

// mixer makes odd numbers, and patterns by them.
type mixer struct{ aid.Mixer }

// near is a finite pattern of either sign, whose exponent is about e.
func (m *mixer) near(e, about int) uint64 {
	e = min(max(e+m.Below(2*about+1)-about, 0), 2046)
	return uint64(e)<<52 + m.Fraction() + m.Word()&minus
}

// finite is any finite pattern.
func (m *mixer) finite() uint64 { return m.near(m.Below(2047), 0) }

// short is any finite pattern whose bits are few, so that many of its quotients, and all of its squares, need no rounding.
func (m *mixer) short() uint64 {
	return m.finite() &^ (1<<uint(27+m.Below(26)) - 1)
}

// parted are two finite patterns, most of them with a quotient that is at most a little beyond what patterns tell, up or down.
func (m *mixer) parted() (uint64, uint64) {
	e := m.Below(2047)
	switch m.Below(6) {
	case 0:
		return m.finite(), m.near(e, 0)
	case 1:
		return m.near(e+1023, 3), m.near(e, 0)
	case 2:
		return m.near(e-1023, 3), m.near(e, 0)
	case 3:
		return m.near(e-1050, 30), m.near(e, 0)
	case 4:
		return m.short(), m.short()
	}
	return m.near(e, 60), m.near(e, 0)
}

// any is a pattern of any class, every second time one of those that are named.
func (m *mixer) any() uint64 {
	if m.Below(2) == 0 {
		return patterns[m.Below(len(patterns))]
	}
	return m.Word()
}
