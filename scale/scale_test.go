package scale_test

import (
	"math"
	"math/big"
	"slices"
	"testing"

	"tiller/aid"
	"tiller/api"
)

// powers are such as patterns are scaled by, up to the least and the greatest int, where nothing may go round.
var powers = []int{
	math.MinInt, math.MinInt + 1, math.MinInt + 1073, math.MinInt + 1074, math.MinInt + 1075, math.MinInt / 2, -1 << 32, -1<<32 + 1, -1 << 16, -4097, -4096,
	-2100, -2098, -2097, -1075, -1074, -1022, -53, -1, 0, 1, 53, 1023, 1024, 1074, 2097, 2098, 2100,
	4096, 4097, 1 << 16, 1<<32 - 1, 1 << 32, math.MaxInt / 2, math.MaxInt - 972, math.MaxInt - 971, math.MaxInt - 970, math.MaxInt - 1, math.MaxInt,
}

func wantScale(t *testing.T, what string, a uint64, n int, m api.Mode, want answer) {
	t.Helper()
	if z := scaled(a, n, m); z != want {
		t.Errorf("%s: Scale(%#x, %d, %d): %#x, %d; want %#x, %d", what, a, n, m, z.p, z.f, want.p, want.f)
	}
}

// scaleCase is a pattern above 0, a power, and what is answered by Even, Away, Zero, Up and Down.
type scaleCase struct {
	what string
	a    uint64
	n    int
	want [5]answer
}

// same is one pattern by every mode, without flags.
func same(p uint64) [5]answer {
	z := answer{p, none}
	return [5]answer{z, z, z, z, z}
}

// apart is what is rounded to low, or to high, with the same flags: by Even and Away to those that are told.
func apart(even, away, low, high uint64, f api.Flags) [5]answer {
	return [5]answer{{even, f}, {away, f}, {low, f}, {high, f}, {low, f}}
}

// lower, middle and upper are tiny and lie between low and the next one: below the middle, in it, with an even low, and above it, or in it, with an odd low.
func lower(low uint64) [5]answer  { return apart(low, low, low, low+1, tiny) }
func middle(low uint64) [5]answer { return apart(low, low+1, low, low+1, tiny) }
func upper(low uint64) [5]answer  { return apart(low+1, low+1, low, low+1, tiny) }

// beyond is what is too great.
func beyond() [5]answer { return apart(inf, inf, last, inf, great) }

// mirror is what is answered of the same number with the other sign: Up and Down change places.
func mirror(want [5]answer) [5]answer {
	want[api.Up], want[api.Down] = want[api.Down], want[api.Up]
	for m := range want {
		want[m].p ^= minus
	}
	return want
}

// playScale tries every case by every mode and both signs; a mode that is none is as Even.
func playScale(t *testing.T, cases []scaleCase) {
	t.Helper()
	for _, c := range cases {
		turned := mirror(c.want)
		for m := range c.want {
			wantScale(t, c.what, c.a, c.n, api.Mode(m), c.want[m])
			wantScale(t, c.what, c.a+minus, c.n, api.Mode(m), turned[m])
		}
		for _, m := range aid.NoModes() {
			wantScale(t, c.what, c.a, c.n, m, c.want[api.Even])
			wantScale(t, c.what, c.a+minus, c.n, m, turned[api.Even])
		}
	}
}

// SC1 and chapter 5's words: what is no number, by any power; Loud raises Invalid, Quiet nothing.
func TestScaleNoNumber(t *testing.T) {
	for _, n := range powers {
		for _, m := range aid.AllModes() {
			for _, a := range quiets {
				wantScale(t, "Quiet", a, n, m, answer{nan, none})
			}
			for _, a := range louds {
				wantScale(t, "Loud", a, n, m, answer{nan, api.Invalid})
			}
		}
	}
}

// SC1: noughts and Endless of both signs stay, whatever the power is.
func TestScaleStays(t *testing.T) {
	for _, n := range powers {
		for _, m := range aid.AllModes() {
			for _, a := range slices.Concat(noughts, endless) {
				wantScale(t, "0 or Endless", a, n, m, answer{a, none})
			}
		}
	}
}

// SC1: by 0 everything stays, tiny or not.
func TestScaleByZero(t *testing.T) {
	for _, a := range finites {
		for _, m := range aid.AllModes() {
			wantScale(t, "by 0", a, 0, m, answer{a, none})
		}
	}
}

// SC1: plain patterns that stay plain.
func TestScalePlain(t *testing.T) {
	playScale(t, []scaleCase{
		{"1 by 2", one, 1, same(two)},
		{"1 by a half", one, -1, same(half)},
		{"1.5 by 2", oneHalf, 1, same(three)},
		{"0.1 by 2^52", tenth, 52, same(tenth + 52<<52)},
		{"below 1 by 2^-900", one - 1, -900, same(one - 1 - 900<<52)},
		{"above 1 by 2^900", one + 1, 900, same(one + 1 + 900<<52)},
	})
	for n := -1074; n <= 1023; n++ {
		playScale(t, []scaleCase{{"a power of 1", one, n, same(power(n))}})
	}
}

// SC1: the least and the greatest int, and powers as far.
func TestScaleByFar(t *testing.T) {
	for _, a := range []uint64{1, 2, 3, leastBig - 1, leastBig, leastBig + 1, tenth, one, ten, power(1023), last - 1, last} {
		for _, n := range powers {
			switch {
			case n <= -2100:
				playScale(t, []scaleCase{{"far below", a, n, lower(0)}})
			case n >= 2098:
				playScale(t, []scaleCase{{"far beyond", a, n, beyond()}})
			}
		}
	}
}

// SC1: tiny patterns that become the greatest plain ones, and those that become tiny ones.
func TestScaleFromEndToEnd(t *testing.T) {
	playScale(t, []scaleCase{
		{"the least, to 1", 1, 1074, same(one)},
		{"the least, to the least plain one", 1, 52, same(leastBig)},
		{"the least, below that", 1, 51, same(leastBig / 2)},
		{"the least, to the greatest power", 1, 2097, same(power(1023))},
		{"the least, beyond it", 1, 2098, beyond()},
		{"three of it, to the greatest power", 3, 2096, same(power(1023) + leastBig/2)},
		{"three of it, beyond it", 3, 2097, beyond()},
		{"all tiny bits, to the greatest", leastBig - 1, 2046, same(last - 1)},
		{"all tiny bits, beyond it", leastBig - 1, 2047, beyond()},
		{"all tiny bits, twice", leastBig - 1, 1, same(2*leastBig - 2)},
		{"the least plain one, to the greatest power", leastBig, 2045, same(power(1023))},
		{"all bits, to the greatest", 2*leastBig - 1, 2045, same(last)},
		{"all bits, beyond it", 2*leastBig - 1, 2046, beyond()},
		{"the greatest power, to the least", power(1023), -2097, same(1)},
		{"the greatest power, to half of it", power(1023), -2098, middle(0)},
		{"the greatest power, to a quarter of it", power(1023), -2099, lower(0)},
		{"the greatest, to the greatest of the least power", last, -2045, same(2*leastBig - 1)},
		{"the greatest, to the middle below the least plain one", last, -2046, upper(leastBig - 1)},
		{"the one below it, to all tiny bits", last - 1, -2046, same(leastBig - 1)},
		{"the greatest, to nearly two of the least", last, -2097, upper(1)},
		{"the greatest, to nearly one", last, -2098, upper(0)},
		{"the greatest, to nearly a half", last, -2099, lower(0)},
	})
}

// SC1: just to the greatest pattern, and one power beyond it.
func TestScaleGreat(t *testing.T) {
	playScale(t, []scaleCase{
		{"all bits, to the greatest", two - 1, 1023, same(last)},
		{"all bits, one power beyond", two - 1, 1024, beyond()},
		{"all bits but one", two - 2, 1023, same(last - 1)},
		{"all bits but one, one power beyond", two - 2, 1024, beyond()},
		{"1, to the greatest power", one, 1023, same(power(1023))},
		{"1, one power beyond", one, 1024, beyond()},
		{"the greatest by 1", last, 0, same(last)},
		{"the greatest by 2", last, 1, beyond()},
		{"below the greatest power, by 2", power(1023) - 1, 1, same(last)},
		{"the greatest power by 2", power(1023), 1, beyond()},
		{"all bits, of a power", power(500) - 1, 524, same(last)},
		{"a power", power(500), 524, beyond()},
	})
}

// SC1: just to the least plain pattern, and below it: where nothing is lost, where a half is, and where less and more than a half is.
func TestScaleTiny(t *testing.T) {
	playScale(t, []scaleCase{
		{"just to it", one, -1022, same(leastBig)},
		{"just above it", one + 1, -1022, same(leastBig + 1)},
		{"all bits, just to it", two - 1, -1022, same(2*leastBig - 1)},
		{"all bits, below it", two - 1, -1023, upper(leastBig - 1)},
		{"all bits but one, below it", two - 2, -1023, same(leastBig - 1)},
		{"all bits but two, below it", two - 3, -1023, middle(leastBig - 2)},
		{"all bits, farther below it", two - 1, -1024, upper(leastBig/2 - 1)},
		{"nothing lost", one, -1023, same(leastBig / 2)},
		{"nothing lost, of two bits", one + 2, -1023, same(leastBig/2 + 1)},
		{"nothing lost, of a tiny one", 6, -1, same(3)},
		{"nothing lost, of the least plain one", leastBig, -52, same(1)},
		{"nothing lost, of all bits but the last", leastBig - 2, -1, same(leastBig/2 - 1)},
		{"a half lost, even", one + 1, -1023, middle(leastBig / 2)},
		{"a half lost, odd", one + 3, -1023, upper(leastBig/2 + 1)},
		{"a half lost, even, of two bits", one + 2, -1024, middle(leastBig / 4)},
		{"a half lost, odd, of two bits", one + 6, -1024, upper(leastBig/4 + 1)},
		{"less than a half lost, even", one + 1, -1024, lower(leastBig / 4)},
		{"more than a half lost, even", one + 3, -1024, upper(leastBig / 4)},
		{"less than a half lost, odd", one + 5, -1024, lower(leastBig/4 + 1)},
		{"more than a half lost, odd", one + 7, -1024, upper(leastBig/4 + 1)},
		{"hardly less than a half lost", one + 7, -1026, lower(leastBig / 16)},
		{"hardly more than a half lost", one + 9, -1026, upper(leastBig / 16)},
		{"a half lost, of a tiny one, even", 5, -1, middle(2)},
		{"a half lost, of a tiny one, odd", 7, -1, upper(3)},
		{"less than a half lost, of a tiny one", 9, -2, lower(2)},
		{"more than a half lost, of a tiny one", 11, -2, upper(2)},
		{"a half lost, of the least plain ones", leastBig + 1, -1, middle(leastBig / 2)},
		{"1.5 of the least", oneHalf, -1074, upper(1)},
	})
}

// SC1: half of the least pattern, next to it, and below it.
func TestScaleLeast(t *testing.T) {
	playScale(t, []scaleCase{
		{"just the least", one, -1074, same(1)},
		{"hardly more than it", one + 1, -1074, lower(1)},
		{"hardly less than it", one - 1, -1074, upper(0)},
		{"half of it", one, -1075, middle(0)},
		{"hardly more than half of it", one + 1, -1075, upper(0)},
		{"hardly less than half of it", one - 1, -1075, lower(0)},
		{"a quarter of it", one, -1076, lower(0)},
		{"nearly half of it", two - 1, -1076, lower(0)},
		{"half of it, of it", 1, -1, middle(0)},
		{"a quarter of it, of it", 1, -2, lower(0)},
		{"three quarters of it", 3, -2, upper(0)},
		{"three eighths of it", 3, -3, lower(0)},
		{"half of it, of the least plain one", leastBig, -53, middle(0)},
		{"a quarter of it, of the least plain one", leastBig, -54, lower(0)},
	})
}

// multiple is a size, rounded to multiples of u, as chapter 4 rounds, word for word.
func multiple(v, u *big.Int, below0 bool, m api.Mode) *big.Int {
	count, rest := new(big.Int).QuoRem(v, u, new(big.Int))
	if rest.Sign() == 0 {
		return v
	}
	less := new(big.Int).Mul(count, u)
	greater := new(big.Int).Add(less, u)
	switch {
	case m == api.Zero, m == api.Up && below0, m == api.Down && !below0:
		return less
	case m == api.Up, m == api.Down:
		return greater
	}
	switch rest.Cmp(new(big.Int).Sub(greater, v)) {
	case -1:
		return less
	case 1:
		return greater
	}
	if m == api.Away || count.Bit(0) == 1 {
		return greater
	}
	return less
}

// checkScale tells whether a finite pattern that is not 0 is scaled as chapters 9 and 4 have it, word for word.
func checkScale(t *testing.T, a uint64, n int, m api.Mode) {
	t.Helper()
	z, below0 := scaled(a, n, m), a >= minus
	v := sizeOf(a, n)
	lead := v.BitLen() - 1 - places
	want := multiple(v, units(max(lead-52, -1074)), below0, m)
	if want.Cmp(units(1024)) >= 0 {
		all := beyond()
		if below0 {
			all = mirror(all)
		}
		if m < api.Even || m > api.Down {
			m = api.Even
		}
		wantScale(t, "too great", a, n, m, all[m])
		return
	}
	flags := none
	if want.Cmp(v) != 0 {
		flags = off
		if multiple(v, units(lead-52), below0, m).Cmp(units(-1022)) < 0 {
			flags = tiny
		}
	}
	size := z.p &^ minus
	if z.f != flags || (z.p >= minus) != below0 || size >= inf || sizeOf(size, 0).Cmp(want) != 0 {
		t.Errorf("Scale(%#x, %d, %d): %#x, %d; want flags %d", a, n, m, z.p, z.f, flags)
	}
}

// SC1, all of it of finite patterns, word for word: any powers, and such as end next to what is tiny or too great.
func TestScaleAll(t *testing.T) {
	m := mixer{3}
	for range 40_000 {
		a := m.finite()
		if a&^minus == 0 {
			continue
		}
		lead := sizeOf(a, 0).BitLen() - 1 - places
		n := m.Below(6_200) - 3_100
		switch m.Below(4) {
		case 0:
			n = 1023 - lead + m.Below(5) - 2
		case 1:
			n = -1022 - lead + m.Below(5) - 2
		case 2:
			n = -1022 - lead - m.Below(56)
		}
		for _, mode := range append(aid.Modes(), m.Mode()) {
			checkScale(t, a, n, mode)
		}
		if t.Failed() {
			return
		}
	}
}

// SC1: what is scaled without loss is scaled back; of two numbers the greater one is never scaled to a less one.
func TestScaleLaw(t *testing.T) {
	m := mixer{5}
	for range 30_000 {
		a, n, mode := m.finite(), m.Below(4_400)-2_200, m.Mode()
		z := scaled(a, n, mode)
		if z.f == none {
			wantScale(t, "back", z.p, -n, mode, answer{a, none})
		}
		b := m.finite()
		if order(a, b) > 0 {
			a, b = b, a
		}
		if low, high := scaled(a, n, mode), scaled(b, n, mode); order(low.p, high.p) > 0 {
			t.Errorf("Scale by %d, %d: of %#x %#x, of %#x %#x", n, mode, a, low.p, b, high.p)
		}
		if t.Failed() {
			return
		}
	}
}
