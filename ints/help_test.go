package ints_test

import (
	"fmt"
	"math/big"
	"slices"
	"testing"

	"tiller/aid"
	"tiller/api"
	"tiller/ints"
)

const (
	minus = 1 << 63

	none = api.Flags(0)
	off  = api.Inexact
	out  = api.Invalid

	half     = 0x3fe0000000000000
	one      = 0x3ff0000000000000
	oneHalf  = 0x3ff8000000000000 // 1.5
	two      = 0x4000000000000000
	leastBig = 0x0010000000000000 // the least plain pattern
	last     = 0x7fefffffffffffff // the greatest finite one
	inf      = 0x7ff0000000000000
	nan      = 0x7ff8000000000000
)

// Patterns that are no numbers, and some that are, of both signs.
var (
	quiets   = bothSigns(nan, nan+1, 0x7ffc000000000000, 0x7fffffffffffffff)
	louds    = bothSigns(inf+1, 0x7ff4000000000000, nan-1)
	numbers  = bothSigns(0, 1, leastBig-1, leastBig, half-1, half, half+1, one-1, one, one+1, oneHalf, two, power(31)-1, power(31), power(32)-1, power(32), power(52)-1, power(53)+1, power(63)-1, power(63), power(63)+1, power(64)-1, power(64), last, inf)
	patterns = slices.Concat(quiets, louds, numbers)
)

// bothSigns are patterns, each of them without its sign and with it.
func bothSigns(all ...uint64) []uint64 {
	var both []uint64
	for _, p := range all {
		both = append(both, p, p+minus)
	}
	return both
}

// power is the plain pattern of 2^n.
func power(n int) uint64 { return uint64(n+1023) << 52 }

// of is the plain pattern of n times 2^exp; n is not 0 and has at most 53 bits.
func of(n uint64, exp int) uint64 {
	for ; n < 1<<52; exp-- {
		n <<= 1
	}
	return power(exp+52) + n - 1<<52
}

// scaled is a number counted in the least size, 2^-1074.
func scaled(v *big.Int) *big.Int { return new(big.Int).Lsh(v, 1074) }

// units is a finite pattern's number, counted in the least size, as chapter 3 tells it.
func units(p uint64) *big.Int {
	e, f := uint(p>>52&2047), p&(1<<52-1)
	if e > 0 {
		f, e = f+1<<52, e-1
	}
	v := new(big.Int).SetUint64(f)
	v.Lsh(v, e)
	if p >= minus {
		v.Neg(v)
	}
	return v
}

// multiple is how often u, that is above 0, is in the multiple of it next to v: as chapter 4 rounds, word for word.
func multiple(v, u *big.Int, m api.Mode) *big.Int {
	low, rest := new(big.Int).DivMod(v, u, new(big.Int))
	if rest.Sign() == 0 {
		return low
	}
	high := new(big.Int).Add(low, big.NewInt(1))
	less, greater := low, high
	if v.Sign() < 0 {
		less, greater = high, low
	}
	switch m {
	case api.Zero:
		return less
	case api.Up:
		return high
	case api.Down:
		return low
	}
	switch side := rest.Lsh(rest, 1).Cmp(u); {
	case side < 0:
		return low
	case side > 0:
		return high
	case m == api.Away:
		return greater
	case low.Bit(0) == 0:
		return low
	}
	return high
}

// digits is the number of a text.
func digits(s string) *big.Int {
	v, ok := new(big.Int).SetString(s, 10)
	if !ok {
		panic("no number: " + s)
	}
	return v
}

// answer is what a call answers: a number, told by its digits, so that no wrong sign or size is hidden by its type.
type answer struct {
	n string
	f api.Flags
}

// road is one of the calls that make a pattern a number, with the least and the greatest number of its type.
type road struct {
	name        string
	ask         func(p uint64, m api.Mode, told bool) answer
	least, most string
}

var (
	toWhole     = road{"To", telling(ints.To), "-9223372036854775808", "9223372036854775807"}
	toPlain     = road{"ToPlain", telling(ints.ToPlain), "0", "18446744073709551615"}
	toHalf      = road{"ToHalf", telling(ints.ToHalf), "-2147483648", "2147483647"}
	toPlainHalf = road{"ToPlainHalf", telling(ints.ToPlainHalf), "0", "4294967295"}

	roads  = []road{toWhole, toPlain, toHalf, toPlainHalf}
	signed = []road{toWhole, toHalf}
	plains = []road{toPlain, toPlainHalf}
)

func telling[T any](call func(uint64, api.Mode, bool) (T, api.Flags)) func(uint64, api.Mode, bool) answer {
	return func(p uint64, m api.Mode, told bool) answer {
		n, f := call(p, m, told)
		return answer{fmt.Sprint(n), f}
	}
}

// want asks for a number, told and not told: Inexact is not raised then, and all else is the same.
func (r road) want(t *testing.T, what string, p uint64, m api.Mode, want answer) {
	t.Helper()
	for _, told := range []bool{true, false} {
		if !told {
			want.f &^= off
		}
		if z := r.ask(p, m, told); z != want {
			t.Errorf("%s: %s(%#x, %d, %v): %s, %d; want %s, %d", what, r.name, p, m, told, z.n, z.f, want.n, want.f)
		}
	}
}

// wantAll asks for a number by each of the five modes, and by some that are none, which are as Even.
func (r road) wantAll(t *testing.T, what string, p uint64, want [5]answer) {
	t.Helper()
	for m, z := range want {
		r.want(t, what, p, api.Mode(m), z)
	}
	for _, m := range aid.NoModes() {
		r.want(t, what, p, m, want[api.Even])
	}
}

// always is the same answer by every mode.
func always(n string, f api.Flags) [5]answer {
	z := answer{n, f}
	return [5]answer{z, z, z, z, z}
}

// fit is what a road answers of a whole number that a pattern was rounded to.
func (r road) fit(v *big.Int, f api.Flags) answer {
	switch {
	case v.Cmp(digits(r.least)) < 0:
		return answer{r.least, out}
	case v.Cmp(digits(r.most)) > 0:
		return answer{r.most, out}
	}
	return answer{v.String(), f}
}

// has tells whether a road's type has a number.
func (r road) has(v *big.Int) bool { return r.fit(v, none).f == none }

// mixer makes odd numbers, and patterns by them.
type mixer struct{ aid.Mixer }

// number is any number of 64 bits; all lengths are as likely, and many have long rows of equal bits.
func (m *mixer) number() uint64 {
	n := m.Word()
	switch m.Below(4) {
	case 0:
		n |= ^uint64(0) >> uint(m.Below(65))
	case 1:
		n &= ^uint64(0) << uint(m.Below(65))
	case 2:
		n = uint64(m.Below(16)) - 8 + 1<<uint(m.Below(64))
	}
	return n >> uint(m.Below(65))
}

// finite is a finite pattern, most times one whose size is below 2^68, with a few bits below the point or many.
func (m *mixer) finite() uint64 {
	sign := m.Word() & minus
	switch m.Below(6) {
	case 0:
		return uint64(m.Below(2047))<<52 + m.Fraction() + sign
	case 1:
		return of(1+m.Word()>>uint(12+m.Below(52)), -m.Below(4)) + sign
	case 2:
		bounds := []int{0, 31, 32, 53, 63, 64}
		return power(bounds[m.Below(len(bounds))]) + uint64(m.Below(9)) - 4 + sign
	case 3:
		bound := uint64(1) << uint(31+m.Below(2))
		return of(8*bound+uint64(m.Below(33))-16, -3) + uint64(m.Below(3)) - 1 + sign
	}
	return uint64(1020+m.Below(70))<<52 + m.Fraction() + sign
}

// any is a pattern of any class.
func (m *mixer) any() uint64 {
	switch m.Below(4) {
	case 0:
		return patterns[m.Below(len(patterns))]
	case 1:
		return m.Word()
	}
	return m.finite()
}
