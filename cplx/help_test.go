package cplx_test

import (
	"math"
	"slices"
	"testing"

	"tiller/aid"
	"tiller/api"
)

const (
	minus = 1 << 63

	none  = api.Flags(0)
	off   = api.Inexact
	tiny  = api.Underflow | api.Inexact
	great = api.Overflow | api.Inexact

	third    = 0x3fd5555555555555
	half     = 0x3fe0000000000000
	one      = 0x3ff0000000000000
	oneHalf  = 0x3ff8000000000000 // 1.5
	two      = 0x4000000000000000
	three    = 0x4008000000000000
	leastBig = 0x0010000000000000 // the least plain pattern
	last     = 0x7fefffffffffffff // the greatest finite one
	inf      = 0x7ff0000000000000
	nan      = 0x7ff8000000000000
	lastNan  = 0x7fffffffffffffff // the greatest quiet one
	loud     = 0x7ff0000000000001 // the least loud one
	lastLoud = 0x7ff7ffffffffffff
)

// Patterns of both signs: those that are no numbers, the least and the greatest of each class, and some that are numbers.
var (
	quiets   = bothSigns(nan, nan+1, 0x7ffc000000000000, lastNan)
	louds    = bothSigns(loud, 0x7ff4000000000000, lastLoud)
	noughts  = bothSigns(0)
	endless  = bothSigns(inf)
	finites  = bothSigns(1, 2, leastBig-1, leastBig, leastBig+1, half, one-1, one, one+1, 0x3fb999999999999a, last-1, last)
	numbers  = slices.Concat(noughts, finites, endless)
	patterns = slices.Concat(numbers, quiets, louds)
)

// bothSigns are patterns, each of them without its sign and with it.
func bothSigns(all ...uint64) []uint64 {
	var both []uint64
	for _, p := range all {
		both = append(both, p, p+minus)
	}
	return both
}

// power is the plain pattern of 2^n.
func power(n int) uint64 { return uint64(n+1023) << 52 }

func pair(re, im uint64) api.Pair { return api.Pair{Re: re, Im: im} }

// part is what a call answers of one part.
type part struct {
	p uint64
	f api.Flags
}

// answer is what a call answers of both.
type answer struct {
	p api.Pair
	f api.Flags
}

// both is the answer of two parts: all flags of the one and of the other.
func both(re, im part) answer { return answer{pair(re.p, im.p), re.f | im.f} }

// got is an answer as the calls give it.
func got(p api.Pair, f api.Flags) answer { return answer{p, f} }

// want fails, if an answer is another one.
func want(t *testing.T, what string, has, wanted answer, asked ...any) {
	t.Helper()
	if has != wanted {
		t.Errorf("%s of %#x: %#x, flags %d; want %#x, flags %d", what, asked, has.p, has.f, wanted.p, wanted.f)
	}
}

// number is a pattern's by the machine, which has a type of that kind, and its own way to calculate.
func number(p uint64) float64 { return math.Float64frombits(p) }

// pattern is a number's by the machine; all that is no number is one pattern.
func pattern(v float64) uint64 {
	if v != v {
		return nan
	}
	return math.Float64bits(v)
}

// mixer makes odd numbers, and patterns by them.
type mixer struct{ aid.Mixer }

// near is a finite pattern of either sign, whose exponent is at most so far from e.
func (m *mixer) near(e, about int) uint64 {
	e = min(max(e+m.Below(2*about+1)-about, 0), 2046)
	return uint64(e)<<52 + m.Fraction() + m.Word()&minus
}

// any is a pattern of any class, every second time one of those that are named.
func (m *mixer) any() uint64 {
	switch m.Below(4) {
	case 0:
		return m.near(1023, 60)
	case 1:
		return m.Word()
	}
	return patterns[m.Below(len(patterns))]
}

// pair is one of any patterns.
func (m *mixer) pair() api.Pair { return pair(m.any(), m.any()) }

// close is a pair of finite patterns about 1, whose products have sums with many bits, and few.
func (m *mixer) close() api.Pair {
	p := pair(m.near(1023, 2), m.near(1023, 2))
	switch m.Below(4) {
	case 0:
		p.Im = p.Re ^ m.Word()&minus
	case 1:
		p.Im = p.Re ^ m.Word()&(minus+3)
	}
	return p
}
