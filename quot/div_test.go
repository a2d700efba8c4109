package quot_test

import (
	"math/bits"
	"slices"
	"testing"

	"tiller/aid"
	"tiller/api"
	"tiller/pat"
)

// divCase are two patterns, and their quotient by Even, Away, Zero, Up and Down.
type divCase struct {
	what string
	a, b uint64
	want [5]answer
}

// playDiv tries every case by every mode, and with each sign turned; a mode that is none is as Even.
func playDiv(t *testing.T, cases []divCase) {
	t.Helper()
	for _, c := range cases {
		turned := mirror(c.want)
		for m := range c.want {
			wantDiv(t, c.what, c.a, c.b, api.Mode(m), c.want[m])
			wantDiv(t, c.what, c.a^minus, c.b^minus, api.Mode(m), c.want[m])
			wantDiv(t, c.what, c.a^minus, c.b, api.Mode(m), turned[m])
			wantDiv(t, c.what, c.a, c.b^minus, api.Mode(m), turned[m])
		}
		for _, m := range aid.NoModes() {
			wantDiv(t, c.what, c.a, c.b, m, c.want[api.Even])
			wantDiv(t, c.what, c.a, c.b^minus, m, turned[api.Even])
		}
	}
}

// eachPair asks for one answer of all pairs, by every mode and by some that are none; to it is added the quotient's sign, if signed.
func eachPair(t *testing.T, what string, as, bs []uint64, want answer, signed bool) {
	t.Helper()
	for _, a := range as {
		for _, b := range bs {
			z := want
			if signed {
				z.p += signOf(a, b)
			}
			for _, m := range aid.AllModes() {
				wantDiv(t, what, a, b, m, z)
			}
		}
	}
}

// QU1: the chapter's example.
func TestDivExample(t *testing.T) {
	playDiv(t, []divCase{{"1 by 3", one, three, nearLow(0x3fd5555555555555)}})
}

// QU1 and chapter 5's words: what is no number, at either operand and at both; Loud raises Invalid, Quiet nothing, whatever stands beside it.
func TestDivNoNumber(t *testing.T) {
	numbers := slices.Concat(noughts, endless, finites)
	quiet, loud := answer{nan, none}, answer{nan, api.Invalid}
	eachPair(t, "Quiet by a number", quiets, numbers, quiet, false)
	eachPair(t, "a number by Quiet", numbers, quiets, quiet, false)
	eachPair(t, "Quiet by Quiet", quiets, quiets, quiet, false)
	eachPair(t, "Loud by all", louds, patterns, loud, false)
	eachPair(t, "all by Loud", patterns, louds, loud, false)
}

// QU1: 0 by 0, and Endless by Endless, of all signs.
func TestDivNone(t *testing.T) {
	eachPair(t, "0 by 0", noughts, noughts, answer{nan, api.Invalid}, false)
	eachPair(t, "Endless by Endless", endless, endless, answer{nan, api.Invalid}, false)
}

// QU1: what is Endless, or 0, on one side, of all signs. Endless by 0 is no DivZero.
func TestDivOneSide(t *testing.T) {
	eachPair(t, "Endless by finite", endless, finites, answer{inf, none}, true)
	eachPair(t, "Endless by 0", endless, noughts, answer{inf, none}, true)
	eachPair(t, "finite by Endless", finites, endless, answer{0, none}, true)
	eachPair(t, "0 by Endless", noughts, endless, answer{0, none}, true)
	eachPair(t, "finite by 0", finites, noughts, answer{inf, api.DivZero}, true)
	eachPair(t, "0 by finite", noughts, finites, answer{0, none}, true)
}

// QU1: among plain patterns: what is exact, what lies hardly above and below the middle of two patterns, and next to one.
func TestDivPlain(t *testing.T) {
	playDiv(t, []divCase{
		{"1 by 1", one, one, same(one, none)},
		{"1 by 2", one, two, same(half, none)},
		{"6 by 3", 0x4018000000000000, three, same(two, none)},
		{"9 by 2", 0x4022000000000000, two, same(0x4012000000000000, none)},
		{"2^26 and 1, squared, by it", 0x4330000008000001, 0x4190000004000000, same(0x4190000004000000, none)},
		{"2 by 3", two, three, nearLow(0x3fe5555555555555)},
		{"1 by 10", one, 0x4024000000000000, nearHigh(0x3fb999999999999a)},
		{"1 by 7", one, 0x401c000000000000, nearLow(0x3fc2492492492492)},
		{"hardly above the middle, even below", one, one - 1, nearHigh(one + 1)},
		{"hardly above the middle, odd below", one + 1, one - 1, nearHigh(one + 2)},
		{"hardly above the middle, of like ones", two - 1, two - 2, nearHigh(one + 1)},
		{"hardly above the middle, below 1", one, two - 1, nearHigh(half + 1)},
		{"above the middle by the least there is", 0x3ffb13b13b13b146, 0x3ffb13b13b13b13b, nearHigh(one + 7)},
		{"hardly below the middle, odd below", 0x3ff6db6db6db6dbc, 0x3ff6db6db6db6db7, nearLow(one + 3)},
		{"hardly below the middle, even below", 0x3ff8e38e38e38e40, 0x3ff8e38e38e38e39, nearLow(one + 4)},
		{"next above a pattern", one, one + 1, nearLow(one - 2)},
		{"next above another", two - 1, one + 1, nearLow(two - 3)},
		{"next below a pattern", two - 2, two - 1, nearHigh(one - 1)},
		{"exponents far apart", power(-500), power(500) - 1, nearHigh(power(-1000) + 1)},
		{"exponents far apart, turned round", power(500), power(-500) - 1, nearHigh(power(1000) + 1)},
	})
}

// QU1: next below a power of two, and next above it.
func TestDivNextToPower(t *testing.T) {
	for _, n := range []int{-900, -1, 0, 1, 52, 900} {
		p := power(n)
		playDiv(t, []divCase{
			{"just the power", p + 5, one + 5, same(p, none)},
			{"just below", p - 1, one, same(p-1, none)},
			{"a step below, and hardly less", p + (two - 2 - one), two - 1, nearHigh(p - 1)},
			{"the greatest of its power, by the least of it", p + (two - 1 - one), one, same(p+(two-1-one), none)},
			{"hardly above", p, one - 1, nearHigh(p + 1)},
		})
	}
}

// QU1: what is beyond all patterns. No quotient lies between the greatest one and 2^1024: two sizes of 53 bits differ by too much.
func TestDivGreat(t *testing.T) {
	beyond := [5]answer{{inf, great}, {inf, great}, {last, great}, {inf, great}, {last, great}}
	playDiv(t, []divCase{
		{"just the greatest", last, one, same(last, none)},
		{"just the greatest, of a half", last - leastBig, half, same(last, none)},
		{"hardly below the greatest", last - 1, one - 1, nearHigh(last)},
		{"2^1024, of all bits", last, one - 1, beyond},
		{"2^1024, of all bits but one", last - 1, one - 2, beyond},
		{"2^1024, by a half", power(1023), half, beyond},
		{"hardly above 2^1024", power(1023), half - 1, beyond},
		{"far beyond", last, leastBig, beyond},
		{"the greatest by the least", last, 1, beyond},
		{"1 by the least", one, 1, beyond},
		{"below 2^1024, by a tiny one", power(-51), 1, same(power(1023), none)},
		{"all bits, by a tiny one", power(-50) - 1, 1, same(last, none)},
		{"2^1024, by a tiny one", power(-50), 1, beyond},
		{"1 by the last tiny one", one, leastBig - 1, nearLow(power(1022) + 1)},
	})
}

// QU1: quotients below what is plain: those that are exact, those in the middle of two patterns, and next to that.
func TestDivTiny(t *testing.T) {
	playDiv(t, []divCase{
		{"the least by 1", 1, one, same(1, none)},
		{"two of it by 2", 2, two, same(1, none)},
		{"the least, of plain ones", power(-500), power(574), same(1, none)},
		{"half of the least", 1, two, between(0, 1, 0, 1, tiny)},
		{"hardly less than half of it", 1, two + 1, between(0, 0, 0, 1, tiny)},
		{"hardly more than half of it", 1, two - 1, between(1, 1, 0, 1, tiny)},
		{"half of it, of plain ones", power(-500), power(575), between(0, 1, 0, 1, tiny)},
		{"more than half of it, of plain ones", power(-500) + 1, power(575), between(1, 1, 0, 1, tiny)},
		{"less than half of it, of plain ones", power(-500) - 1, power(575), between(0, 0, 0, 1, tiny)},
		{"a third of it", 1, three, between(0, 0, 0, 1, tiny)},
		{"two thirds of it", 2, three, between(1, 1, 0, 1, tiny)},
		{"hardly less than the least", 1, one + 1, between(1, 1, 0, 1, tiny)},
		{"hardly more than the least", 1, one - 1, between(1, 1, 1, 2, tiny)},
		{"one and a half", 3, two, between(2, 2, 1, 2, tiny)},
		{"two and a half", 5, two, between(2, 3, 2, 3, tiny)},
		{"hardly more than two and a half", 5, two - 1, between(3, 3, 2, 3, tiny)},
		{"hardly less than one and a half", 3, two + 1, between(1, 1, 1, 2, tiny)},
		{"up to the next power: three and a half", 7, two, between(4, 4, 3, 4, tiny)},
		{"the least plain one by 2", leastBig, two, same(leastBig/2, none)},
		{"the next one by 2", leastBig + 1, two, between(leastBig/2, leastBig/2+1, leastBig/2, leastBig/2+1, tiny)},
		{"a tiny one by 3", leastBig - 1, three, same(leastBig/3, none)},
		{"1 by the greatest", one, last, between(leastBig/4, leastBig/4, leastBig/4, leastBig/4+1, tiny)},
	})
}

// QU1: next to the least plain pattern. No quotient lies so near below it that it is rounded up to it without Underflow.
func TestDivLeastPlain(t *testing.T) {
	playDiv(t, []divCase{
		{"just it", power(-500), power(522), same(leastBig, none)},
		{"just it, of others", leastBig + 1, one + 1, same(leastBig, none)},
		{"in the middle below it", 2*leastBig - 1, two, between(leastBig, leastBig, leastBig-1, leastBig, tiny)},
		{"hardly below that", 2*leastBig - 2, two - 1, between(leastBig-1, leastBig-1, leastBig-1, leastBig, tiny)},
		{"a step below it", leastBig - 1, one, same(leastBig-1, none)},
		{"nearly in the middle above the step", leastBig - 1, one - 1, between(leastBig-1, leastBig-1, leastBig-1, leastBig, tiny)},
		{"hardly above it", leastBig, one - 1, between(leastBig+1, leastBig+1, leastBig, leastBig+1, off)},
	})
}

// QU1: quotients far below the least pattern.
func TestDivFarBelow(t *testing.T) {
	for _, a := range []uint64{1, 2, leastBig - 1, leastBig, leastBig + 1, power(-900)} {
		for _, b := range []uint64{power(180), power(600) + 1, two - 1 + 500<<52, last - 1, last} {
			playDiv(t, []divCase{{"far below", a, b, between(0, 0, 0, 1, tiny)}})
		}
	}
}

// QU1: tiny patterns on both sides.
func TestDivBothTiny(t *testing.T) {
	playDiv(t, []divCase{
		{"the least by itself", 1, 1, same(one, none)},
		{"three of it by it", 3, 1, same(three, none)},
		{"1 by 3", 1, 3, nearLow(0x3fd5555555555555)},
		{"2 by 3", 2, 3, nearLow(0x3fe5555555555555)},
		{"1 by 10", 1, 10, nearHigh(0x3fb999999999999a)},
		{"all of them by one", leastBig - 1, 1, same(power(52)-2, none)},
		{"one by all of them", 1, leastBig - 1, nearLow(power(-52) + 1)},
		{"a plain one by a tiny one", leastBig, leastBig - 1, nearLow(one + 1)},
		{"a tiny one by a plain one", leastBig - 1, leastBig, same(one-2, none)},
		{"a tiny one by the next", leastBig - 2, leastBig - 1, nearHigh(one - 2)},
	})
}

// inverse is the number that n, that is odd, is multiplied by to be 1 modulo 2^64: each step doubles the bits that are right.
func inverse(n uint64) uint64 {
	x := n
	for range 6 {
		x *= 2 - n*x
	}
	return x
}

// QU1: quotients as near the middle of two patterns as any are: a b that, multiplied by an odd number of halves, is hardly more or less than some a.
func TestDivNearMiddle(t *testing.T) {
	m := mixer{23}
	tried := 0
	for tried < 20_000 {
		halves := 1<<53 + m.Word()>>11 | 1
		above := m.Below(2) == 0
		b := inverse(halves) & (1<<53 - 1)
		if above {
			b = 1<<53 - b
		}
		a, low := bits.Mul64(b, halves)
		a, low = a<<11|low>>53, low&(1<<53-1)
		if above {
			a, low = a+1, 1<<53-low
		}
		if low != 1 {
			t.Fatalf("%d times %d is not next to a multiple of 2^53", b, halves)
		}
		if b < 1<<52 || a < 1<<52 || a >= 1<<53 {
			continue
		}
		tried++
		want := one + halves>>1 - 1<<52
		if above {
			playDiv(t, []divCase{{"next above the middle", a - 1<<52 + one, b - 1<<52 + one, nearHigh(want + 1)}})
		} else {
			playDiv(t, []divCase{{"next below the middle", a - 1<<52 + one, b - 1<<52 + one, nearLow(want)}})
		}
		if t.Failed() {
			return
		}
	}
}

// QU1, all of it of finite patterns, word for word.
func TestDivAll(t *testing.T) {
	m := mixer{3}
	for range 100_000 {
		a, b := m.parted()
		if pat.Abs(b) == 0 {
			continue
		}
		for _, mode := range append(aid.Modes(), m.Mode()) {
			wantDiv(t, "all", a, b, mode, wantedDiv(a, b, mode))
		}
		if t.Failed() {
			return
		}
	}
}

// QU3: what is divided by 1 stays, and by -1 it has the other sign; a number that is not 0 by itself is 1.
func TestDivLaws(t *testing.T) {
	m := mixer{5}
	for range 50_000 {
		a, mode := m.any(), m.Mode()
		if pat.IsNaN(a) {
			continue
		}
		wantDiv(t, "by 1", a, one, mode, answer{a, none})
		wantDiv(t, "by -1", a, one+minus, mode, answer{a ^ minus, none})
		if pat.Finite(a) && pat.Abs(a) != 0 {
			wantDiv(t, "by itself", a, a, mode, answer{one, none})
			wantDiv(t, "by itself with the other sign", a, a^minus, mode, answer{one + minus, none})
		}
	}
	for _, p := range slices.Concat(noughts, endless, finites) {
		for _, mode := range aid.AllModes() {
			wantDiv(t, "by 1", p, one, mode, answer{p, none})
		}
	}
	eachPair(t, "the least by itself", []uint64{1}, []uint64{1}, answer{one, none}, true)
}
