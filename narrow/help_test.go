package narrow_test

import (
	"math/big"
	"slices"
	"testing"

	"tiller/aid"
	"tiller/api"
	"tiller/narrow"
)

const (
	minus  = 1 << 63
	minus4 = 1 << 31 // the sign of 32 bits

	none  = api.Flags(0)
	off   = api.Inexact
	tiny  = api.Underflow | api.Inexact
	great = api.Overflow | api.Inexact

	half     = 0x3fe0000000000000
	one      = 0x3ff0000000000000
	two      = 0x4000000000000000
	third    = 0x3fd5555555555555
	leastBig = 0x0010000000000000 // the least plain pattern of 64 bits
	last     = 0x7fefffffffffffff // the greatest finite one
	inf      = 0x7ff0000000000000
	nan      = 0x7ff8000000000000

	// The same of 32 bits.
	half4     = 0x3f000000
	one4      = 0x3f800000
	two4      = 0x40000000
	leastBig4 = 0x00800000
	last4     = 0x7f7fffff
	inf4      = 0x7f800000
	nan4      = 0x7fc00000

	step = 1 << 29 // how many patterns of 64 bits lie between two plain ones of 32
	far  = 1200    // how far down exact sizes are counted
)

// Patterns that are no numbers, and some that are, of both signs.
var (
	quiets  = bothSigns(nan, nan+1, 0x7ffc000000000000, 0x7fffffffffffffff)
	louds   = bothSigns(inf+1, inf+step-1, inf+step, 0x7ff4000000000000, nan-1)
	numbers = bothSigns(0, 1, leastBig-1, leastBig, power(-151), power(-150)-1, power(-150), power(-150)+1, power(-149), power(-127), power(-126)-1, power(-126), half, third, one-1, one, one+1, one+step/2, two, power(127), power(128)-step, power(128)-1, power(128), last, inf)

	patterns = slices.Concat(quiets, louds, numbers)
)

// Those of 32 bits.
var (
	quiets4   = bothSigns4(nan4, nan4+1, 0x7fe00000, 0x7fffffff)
	louds4    = bothSigns4(inf4+1, inf4+2, 0x7fa00000, nan4-1)
	numbers4  = bothSigns4(0, 1, 2, leastBig4-1, leastBig4, leastBig4+1, half4, one4-1, one4, one4+1, two4, last4-1, last4, inf4)
	patterns4 = slices.Concat(quiets4, louds4, numbers4)
)

// bothSigns are patterns, each of them without its sign and with it.
func bothSigns(all ...uint64) []uint64 {
	var both []uint64
	for _, p := range all {
		both = append(both, p, p+minus)
	}
	return both
}

func bothSigns4(all ...uint32) []uint32 {
	var both []uint32
	for _, q := range all {
		both = append(both, q, q+minus4)
	}
	return both
}

// power is the plain pattern of 2^n.
func power(n int) uint64 { return uint64(n+1023) << 52 }

// of is the plain pattern of n times 2^exp; n is not 0 and has at most 53 bits.
func of(n uint64, exp int) uint64 {
	for ; n < 1<<52; exp-- {
		n <<= 1
	}
	return power(exp+52) + n - 1<<52
}

// answer is what To answers.
type answer struct {
	q uint32
	f api.Flags
}

func to(p uint64, m api.Mode) answer {
	q, f := narrow.To(p, m)
	return answer{q, f}
}

func wantTo(t *testing.T, what string, p uint64, m api.Mode, want answer) {
	t.Helper()
	if z := to(p, m); z != want {
		t.Errorf("%s: To(%#x, %d): %#x, %d; want %#x, %d", what, p, m, z.q, z.f, want.q, want.f)
	}
}

func wantFrom(t *testing.T, what string, q uint32, want uint64, flags api.Flags) {
	t.Helper()
	if p, f := narrow.From(q); p != want || f != flags {
		t.Errorf("%s: From(%#x): %#x, %d; want %#x, %d", what, q, p, f, want, flags)
	}
}

// units is 2^n, counted in units of 2^-far.
func units(n int) *big.Int { return new(big.Int).Lsh(big.NewInt(1), uint(n+far)) }

// size is a finite pattern's size, in units of 2^-far, as chapter 3 tells it.
func size(p uint64) *big.Int {
	e, f := int(p>>52&2047), p&(1<<52-1)
	if e == 0 {
		return new(big.Int).Mul(new(big.Int).SetUint64(f), units(-1074))
	}
	return new(big.Int).Mul(new(big.Int).SetUint64(f+1<<52), units(e-1075))
}

// size4 is that of a finite pattern of 32 bits, as chapter 12 tells it.
func size4(q uint32) *big.Int {
	e, f := int(q>>23&255), int64(q&(1<<23-1))
	if e == 0 {
		return new(big.Int).Mul(big.NewInt(f), units(-149))
	}
	return new(big.Int).Mul(big.NewInt(f+1<<23), units(e-150))
}

// multiple is a size, rounded to multiples of u word for word as chapter 4 has it.
func multiple(v, u *big.Int, below0 bool, m api.Mode) *big.Int {
	count, rest := new(big.Int).QuoRem(v, u, new(big.Int))
	if rest.Sign() == 0 {
		return v
	}
	less := new(big.Int).Mul(count, u)
	greater := new(big.Int).Add(less, u)
	switch {
	case m == api.Zero, m == api.Up && below0, m == api.Down && !below0:
		return less
	case m == api.Up, m == api.Down:
		return greater
	}
	down, up := new(big.Int).Sub(v, less), new(big.Int).Sub(greater, v)
	switch down.Cmp(up) {
	case -1:
		return less
	case 1:
		return greater
	}
	if m == api.Away || count.Bit(0) == 1 {
		return greater
	}
	return less
}

// mixer makes odd numbers, and patterns by them.
type mixer struct{ aid.Mixer }

// cuttable is a fraction that most times lies at, or next to, what 32 bits have, or halfway between two of them.
func (m *mixer) cuttable() uint64 {
	f := m.Fraction()
	switch m.Below(4) {
	case 0:
		return f
	case 1:
		f = f&^(step-1) | step/2
	case 2:
		f &^= step - 1
	default:
		// Among the numbers with few bits more of the fraction is cut off.
		few := uint64(1) << uint(29+m.Below(23))
		f = f&^(few-1) | few/2
	}
	return (f + uint64(m.Below(3)) - 1) & (1<<52 - 1)
}

// finite is a finite pattern, most times one that is not too great and not too small for 32 bits, or nearly so.
func (m *mixer) finite() uint64 {
	sign := m.Word() & minus
	switch m.Below(6) {
	case 0:
		return uint64(m.Below(2047))<<52 + m.Fraction() + sign
	case 1:
		return power(-153+m.Below(30)) + m.cuttable() + sign
	case 2:
		return power(126+m.Below(3)) + m.cuttable() + sign
	case 3:
		edges := []int{-151, -150, -149, -148, -127, -126, -125, 0, 127, 128}
		return power(edges[m.Below(len(edges))]) + (uint64(m.Below(9))-4)<<uint(m.Below(31)) + sign
	}
	return power(-155+m.Below(290)) + m.cuttable() + sign
}

// any is a pattern of any class.
func (m *mixer) any() uint64 {
	switch m.Below(4) {
	case 0:
		return patterns[m.Below(len(patterns))]
	case 1:
		return m.Word()
	}
	return m.finite()
}

// any4 is a pattern of 32 bits of any class.
func (m *mixer) any4() uint32 {
	if m.Below(4) == 0 {
		return patterns4[m.Below(len(patterns4))]
	}
	return uint32(m.Word())
}
