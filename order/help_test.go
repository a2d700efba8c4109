package order_test

import (
	"math/big"
	"slices"
	"testing"

	"tiller/aid"
	"tiller/api"
	"tiller/order"
)

const (
	minus = 1 << 63

	none = api.Flags(0)
	loud = api.Invalid

	half     = 0x3fe0000000000000
	one      = 0x3ff0000000000000
	two      = 0x4000000000000000
	tenth    = 0x3fb999999999999a
	leastBig = 0x0010000000000000 // the least plain pattern
	last     = 0x7fefffffffffffff // the greatest finite one
	inf      = 0x7ff0000000000000
	nan      = 0x7ff8000000000000
)

// Patterns that are no numbers, and some that are, of both signs.
var (
	quiets    = bothSigns(nan, nan+1, 0x7ffc000000000000, 0x7fffffffffffffff)
	louds     = bothSigns(inf+1, 0x7ff4000000000000, nan-1)
	noNumbers = slices.Concat(quiets, louds)
	finites   = bothSigns(0, 1, 2, 3, leastBig-1, leastBig, leastBig+1, tenth, half, one-1, one, one+1, two, last-1, last)
	numbers   = slices.Concat(finites, bothSigns(inf))
	patterns  = slices.Concat(noNumbers, numbers)
)

// bothSigns are patterns, each of them without its sign and with it.
func bothSigns(all ...uint64) []uint64 {
	var both []uint64
	for _, p := range all {
		both = append(both, p, p+minus)
	}
	return both
}

// relation is one of the calls that tell which is less.
type relation struct {
	name string
	ask  func(a, b uint64) (int, api.Flags)
}

func (c relation) want(t *testing.T, what string, a, b uint64, want int, flags api.Flags) {
	t.Helper()
	if r, f := c.ask(a, b); r != want || f != flags {
		t.Errorf("%s: %s(%#x, %#x): %d, %d; want %d, %d", what, c.name, a, b, r, f, want, flags)
	}
}

// bothWays asks for a relation, without flags, and for the turned one the other way round.
func (c relation) bothWays(t *testing.T, what string, a, b uint64, want int) {
	t.Helper()
	c.want(t, what, a, b, want, none)
	c.want(t, what, b, a, -want, none)
}

var (
	compare   = relation{"Compare", order.Compare}
	signal    = relation{"Signal", order.Signal}
	relations = []relation{compare, signal}
)

// choice is one of the calls that answer one of two patterns.
type choice struct {
	name string
	ask  func(a, b uint64) (uint64, api.Flags)
}

func (c choice) want(t *testing.T, what string, a, b, want uint64, flags api.Flags) {
	t.Helper()
	if p, f := c.ask(a, b); p != want || f != flags {
		t.Errorf("%s: %s(%#x, %#x): %#x, %d; want %#x, %d", what, c.name, a, b, p, f, want, flags)
	}
}

// bothWays asks for the same pattern and the same flags, whichever of the two is the left one.
func (c choice) bothWays(t *testing.T, what string, a, b, want uint64, flags api.Flags) {
	t.Helper()
	c.want(t, what, a, b, want, flags)
	c.want(t, what, b, a, want, flags)
}

var (
	least        = choice{"Min", order.Min}
	greatest     = choice{"Max", order.Max}
	leastNumber  = choice{"MinNumber", order.MinNumber}
	greatNumber  = choice{"MaxNumber", order.MaxNumber}
	leastSize    = choice{"MinSize", order.MinSize}
	greatestSize = choice{"MaxSize", order.MaxSize}

	leastOnes = []choice{least, leastNumber, leastSize}
	greatOnes = []choice{greatest, greatNumber, greatestSize}
	byNumber  = []choice{leastNumber, greatNumber}
	strict    = []choice{least, greatest, leastSize, greatestSize} // those that are NaN, if one is no number
	choices   = slices.Concat(byNumber, strict)
)

// isLoud and isNone tell a pattern's class as chapter 3's words have it.
func isLoud(p uint64) bool { return isNone(p) && p>>51&1 == 0 }
func isNone(p uint64) bool { return p>>52&2047 == 2047 && p<<12 != 0 }

// loudIn is Invalid, if one of two is Loud.
func loudIn(a, b uint64) api.Flags {
	if isLoud(a) || isLoud(b) {
		return loud
	}
	return none
}

// sizeOf is a number's size, as chapter 3 tells it, counted in the least one; Endless is beyond all others.
func sizeOf(p uint64) *big.Int {
	e, f := uint(p>>52&2047), p&(1<<52-1)
	if e == 2047 {
		return new(big.Int).Lsh(big.NewInt(1), 4000)
	}
	if e > 0 {
		f, e = f+1<<52, e-1
	}
	v := new(big.Int).SetUint64(f)
	return v.Lsh(v, e)
}

// valueOf is a number, counted in the least one.
func valueOf(p uint64) *big.Int {
	v := sizeOf(p)
	if p >= minus {
		v.Neg(v)
	}
	return v
}

// mixer makes odd numbers, and patterns by them.
type mixer struct{ aid.Mixer }

// any is a pattern of any class, often one of those that are named, or one with many equal bits.
func (m *mixer) any() uint64 {
	switch m.Below(4) {
	case 0:
		return patterns[m.Below(len(patterns))]
	case 1:
		return uint64(m.Below(2048))<<52 + m.Fraction() + m.Word()&minus
	case 2:
		return inf + m.Fraction() + m.Word()&minus
	}
	return m.Word()
}

// number is a pattern that is one.
func (m *mixer) number() uint64 {
	for {
		if p := m.any(); !isNone(p) {
			return p
		}
	}
}

// beside is a pattern that is often near another one, or has its size.
func (m *mixer) beside(a uint64) uint64 {
	switch m.Below(4) {
	case 0:
		return a + uint64(m.Below(5)) - 2
	case 1:
		return a ^ minus
	case 2:
		return (a + uint64(m.Below(5)) - 2) ^ minus
	}
	return m.any()
}

// numberBeside is a number that is often near another one, or has its size.
func (m *mixer) numberBeside(a uint64) uint64 {
	for {
		if p := m.beside(a); !isNone(p) {
			return p
		}
	}
}
