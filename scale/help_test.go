package scale_test

import (
	"math/big"
	"slices"
	"testing"

	"tiller/aid"
	"tiller/api"
	"tiller/scale"
)

const (
	minus = 1 << 63

	none  = api.Flags(0)
	off   = api.Inexact
	tiny  = api.Underflow | api.Inexact
	great = api.Overflow | api.Inexact

	half     = 0x3fe0000000000000
	one      = 0x3ff0000000000000
	oneHalf  = 0x3ff8000000000000 // 1.5
	two      = 0x4000000000000000
	three    = 0x4008000000000000
	ten      = 0x4024000000000000
	tenth    = 0x3fb999999999999a
	leastBig = 0x0010000000000000 // the least plain pattern
	last     = 0x7fefffffffffffff // the greatest finite one
	inf      = 0x7ff0000000000000
	nan      = 0x7ff8000000000000

	places = 4300 // how far down exact sizes are counted
)

// Patterns that are no numbers, and some that are, of both signs.
var (
	quiets   = bothSigns(nan, nan+1, 0x7ffc000000000000, 0x7fffffffffffffff)
	louds    = bothSigns(inf+1, 0x7ff4000000000000, nan-1)
	noughts  = bothSigns(0)
	endless  = bothSigns(inf)
	finites  = bothSigns(1, 2, 3, leastBig-1, leastBig, leastBig+1, half, one-1, one, one+1, tenth, ten, power(1023)-1, power(1023), last-1, last)
	patterns = slices.Concat(quiets, louds, noughts, endless, finites)
)

// bothSigns are patterns, each of them without its sign and with it.
func bothSigns(all ...uint64) []uint64 {
	var both []uint64
	for _, p := range all {
		both = append(both, p, p+minus)
	}
	return both
}

// power is the pattern of 2^n, n being from -1074 to 1023.
func power(n int) uint64 {
	if n < -1022 {
		return 1 << uint(n+1074)
	}
	return uint64(n+1023) << 52
}

// ofWhole is the pattern of a small whole number.
func ofWhole(n int) uint64 {
	switch {
	case n == 0:
		return 0
	case n < 0:
		return ofWhole(-n) + minus
	}
	exp, sig := 52, uint64(n)
	for ; sig < 1<<52; exp-- {
		sig <<= 1
	}
	return power(exp) + sig - 1<<52
}

// answer is what a call answers.
type answer struct {
	p uint64
	f api.Flags
}

func scaled(a uint64, n int, m api.Mode) answer {
	p, f := scale.Scale(a, n, m)
	return answer{p, f}
}

// call is one of the calls that are given a pattern alone.
type call struct {
	name string
	ask  func(uint64) (uint64, api.Flags)
}

func (c call) of(a uint64) answer {
	p, f := c.ask(a)
	return answer{p, f}
}

func (c call) want(t *testing.T, what string, a uint64, want answer) {
	t.Helper()
	if z := c.of(a); z != want {
		t.Errorf("%s: %s(%#x): %#x, %d; want %#x, %d", what, c.name, a, z.p, z.f, want.p, want.f)
	}
}

// pattern asks for a pattern, without flags.
func (c call) pattern(t *testing.T, what string, a, want uint64) {
	t.Helper()
	c.want(t, what, a, answer{want, none})
}

var (
	log  = call{"Log", scale.Log}
	up   = call{"Up", scale.Up}
	down = call{"Down", scale.Down}
	step = call{"Step", scale.Step}
)

// noNumbers asks for NaN of what is no number, without its sign and its fraction; Loud raises Invalid, Quiet nothing.
func (c call) noNumbers(t *testing.T) {
	t.Helper()
	for _, a := range quiets {
		c.want(t, "Quiet", a, answer{nan, none})
	}
	for _, a := range louds {
		c.want(t, "Loud", a, answer{nan, api.Invalid})
	}
}

// units is 2^n, counted in units of 2^-places.
func units(n int) *big.Int { return new(big.Int).Lsh(big.NewInt(1), uint(n+places)) }

// sizeOf is a finite pattern's size, as chapter 3 tells it, times 2^n, in units of 2^-places.
func sizeOf(p uint64, n int) *big.Int {
	e, f := int(p>>52&2047), p&(1<<52-1)
	if e > 0 {
		f, e = f+1<<52, e-1
	}
	v := new(big.Int).SetUint64(f)
	return v.Lsh(v, uint(e-1074+n+places))
}

// valueOf is a finite pattern's number, in units of 2^-places.
func valueOf(p uint64) *big.Int {
	v := sizeOf(p, 0)
	if p >= minus {
		v.Neg(v)
	}
	return v
}

// order tells which of two numbers is less, Endless being beyond all others.
func order(a, b uint64) int { return place(a).Cmp(place(b)) }

func place(p uint64) *big.Int {
	switch p {
	case inf:
		return units(2000)
	case inf + minus:
		return new(big.Int).Neg(units(2000))
	}
	return valueOf(p)
}

// mixer makes odd numbers, and patterns by them.
type mixer struct{ aid.Mixer }

// near is a finite pattern of either sign, whose exponent is about e.
func (m *mixer) near(e, about int) uint64 {
	e = min(max(e+m.Below(2*about+1)-about, 0), 2046)
	return uint64(e)<<52 + m.Fraction() + m.Word()&minus
}

// finite is a finite pattern, often one of those that are named, a tiny one, or one next to a power of two.
func (m *mixer) finite() uint64 {
	sign := m.Word() & minus
	switch m.Below(5) {
	case 0:
		return finites[m.Below(len(finites))]
	case 1:
		return m.Word()>>uint(12+m.Below(52)) + sign
	case 2:
		return min(power(m.Below(2098)-1074)+uint64(m.Below(7))-3, last) + sign
	}
	return m.near(m.Below(2047), 0)
}

// any is a pattern of any class, every second time one of those that are named.
func (m *mixer) any() uint64 {
	if m.Below(2) == 0 {
		return patterns[m.Below(len(patterns))]
	}
	return m.Word()
}
