package whole_test

import (
	"math/big"
	"slices"
	"testing"

	"tiller/aid"
	"tiller/api"
	"tiller/whole"
)

const (
	minus = 1 << 63

	none = api.Flags(0)
	off  = api.Inexact

	quarter  = 0x3fd0000000000000
	half     = 0x3fe0000000000000
	one      = 0x3ff0000000000000
	oneHalf  = 0x3ff8000000000000 // 1.5
	two      = 0x4000000000000000
	three    = 0x4008000000000000
	four     = 0x4010000000000000
	leastBig = 0x0010000000000000 // the least plain pattern
	last     = 0x7fefffffffffffff // the greatest finite one
	inf      = 0x7ff0000000000000
	nan      = 0x7ff8000000000000
)

// Patterns that are no numbers, and some that are, of both signs.
var (
	quiets   = bothSigns(nan, nan+1, 0x7ffc000000000000, 0x7fffffffffffffff)
	louds    = bothSigns(inf+1, 0x7ff4000000000000, nan-1)
	noughts  = bothSigns(0)
	endless  = bothSigns(inf)
	finites  = bothSigns(1, 2, leastBig-1, leastBig, half, one-1, one, one+1, 0x3fb999999999999a, three, power(52)-1, power(53)+1, last-1, last)
	patterns = slices.Concat(quiets, louds, noughts, endless, finites)
)

// bothSigns are patterns, each of them without its sign and with it.
func bothSigns(all ...uint64) []uint64 {
	var both []uint64
	for _, p := range all {
		both = append(both, p, p+minus)
	}
	return both
}

// power is the plain pattern of 2^n.
func power(n int) uint64 { return uint64(n+1023) << 52 }

// of is the plain pattern of n times 2^exp; n is not 0 and has at most 53 bits.
func of(n uint64, exp int) uint64 {
	for ; n < 1<<52; exp-- {
		n <<= 1
	}
	return power(exp+52) + n - 1<<52
}

// isFinite tells it by the exponent alone.
func isFinite(p uint64) bool { return p&inf != inf }

// units is a finite pattern's number, counted in units of 2^-1074, as chapter 3 tells it.
func units(p uint64) *big.Int {
	e, f := uint(p>>52&2047), p&(1<<52-1)
	if e > 0 {
		f, e = f+1<<52, e-1
	}
	v := new(big.Int).SetUint64(f)
	v.Lsh(v, e)
	if p >= minus {
		v.Neg(v)
	}
	return v
}

// isNumber tells whether a pattern is that of a number, in units of 2^-1074; a 0 has the sign of a.
func isNumber(p uint64, v *big.Int, a uint64) bool {
	if v.Sign() == 0 {
		return p == a&minus
	}
	return isFinite(p) && units(p).Cmp(v) == 0
}

// multiple is the multiple of u, that is above 0, next to v: as chapter 4 rounds, word for word.
func multiple(v, u *big.Int, m api.Mode) *big.Int {
	count, rest := new(big.Int).DivMod(v, u, new(big.Int))
	low := new(big.Int).Mul(count, u)
	if rest.Sign() == 0 {
		return low
	}
	high := new(big.Int).Add(low, u)
	less, greater := low, high
	if v.Sign() < 0 {
		less, greater = high, low
	}
	switch m {
	case api.Zero:
		return less
	case api.Up:
		return high
	case api.Down:
		return low
	}
	switch down, up := rest, new(big.Int).Sub(high, v); {
	case down.Cmp(up) < 0:
		return low
	case down.Cmp(up) > 0:
		return high
	case m == api.Away:
		return greater
	case count.Bit(0) == 0:
		return low
	}
	return high
}

// left is what a has beyond the multiple of b next to it, by a mode; both are finite, b not 0.
func left(a, b uint64, m api.Mode) *big.Int {
	v := units(a)
	return v.Sub(v, multiple(v, units(b&^minus), m))
}

// answer is what a call answers.
type answer struct {
	p uint64
	f api.Flags
}

func rem(a, b uint64) answer {
	p, f := whole.Rem(a, b)
	return answer{p, f}
}

func mod(a, b uint64) answer {
	p, f := whole.Mod(a, b)
	return answer{p, f}
}

func round(a uint64, m api.Mode, told bool) answer {
	p, f := whole.Round(a, m, told)
	return answer{p, f}
}

func wantRests(t *testing.T, what string, a, b uint64, nearest, cut answer) {
	t.Helper()
	if z := rem(a, b); z != nearest {
		t.Errorf("%s: Rem(%#x, %#x): %#x, %d; want %#x, %d", what, a, b, z.p, z.f, nearest.p, nearest.f)
	}
	if z := mod(a, b); z != cut {
		t.Errorf("%s: Mod(%#x, %#x): %#x, %d; want %#x, %d", what, a, b, z.p, z.f, cut.p, cut.f)
	}
}

// wantRound asks Round of a, told and not told: Inexact is not raised then, and all else is the same.
func wantRound(t *testing.T, what string, a uint64, m api.Mode, want answer) {
	t.Helper()
	for _, told := range []bool{true, false} {
		if !told {
			want.f &^= off
		}
		if z := round(a, m, told); z != want {
			t.Errorf("%s: Round(%#x, %d, %v): %#x, %d; want %#x, %d", what, a, m, told, z.p, z.f, want.p, want.f)
		}
	}
}

// mixer makes odd numbers, and patterns by them.
type mixer struct{ aid.Mixer }

// near is a finite pattern of either sign, whose exponent is about e.
func (m *mixer) near(e, about int) uint64 {
	e = min(max(e+m.Below(2*about+1)-about, 0), 2046)
	return uint64(e)<<52 + m.Fraction() + m.Word()&minus
}

// finite is any finite pattern.
func (m *mixer) finite() uint64 { return m.near(m.Below(2047), 0) }

// small is a pattern of either sign whose number has a few bits, about as many of them above the point as below, if e is 1023.
func (m *mixer) small(e int) uint64 {
	bits := uint64(1+m.Below(63)) << uint(m.Below(4))
	return of(bits, e-1023-m.Below(8)) + m.Word()&minus
}

// parted are two finite patterns: the first one next to a multiple of half of the other, of like size, or far from it.
func (m *mixer) parted() (uint64, uint64) {
	e := m.Below(2047)
	switch m.Below(6) {
	case 0:
		return m.finite(), m.finite()
	case 1:
		return m.near(e, 3), m.near(e, 3)
	case 2:
		return m.near(e, 60), m.near(e, 60)
	case 3:
		return m.small(900), m.small(900)
	case 4:
		return m.Word() >> uint(m.Below(54)+10), m.Word() >> uint(m.Below(54)+10)
	}
	n, by := uint64(1+m.Below(1<<20)), uint64(1+m.Below(1<<32))
	exp := m.Below(1900) - 960
	return of(n*by, exp) + uint64(m.Below(5)) - 2, of(by, exp+m.Below(3)) + m.Word()&minus
}

// any is a pattern of any class, every second time one of those that are named.
func (m *mixer) any() uint64 {
	if m.Below(2) == 0 {
		return patterns[m.Below(len(patterns))]
	}
	return m.Word()
}
