package prod_test

import (
	"slices"
	"testing"

	"tiller/aid"
	"tiller/api"
	"tiller/pat"
	"tiller/prod"
)

// mulCase are two patterns, and their product by Even, Away, Zero, Up and Down.
type mulCase struct {
	what string
	a, b uint64
	want [5]answer
}

// playMul tries every case by every mode, and with each sign turned; a mode that is none is as Even.
func playMul(t *testing.T, cases []mulCase) {
	t.Helper()
	for _, c := range cases {
		turned := mirror(c.want)
		for m := range c.want {
			wantMul(t, c.what, c.a, c.b, api.Mode(m), c.want[m])
			wantMul(t, c.what, c.a^minus, c.b^minus, api.Mode(m), c.want[m])
			wantMul(t, c.what, c.a^minus, c.b, api.Mode(m), turned[m])
			wantMul(t, c.what, c.a, c.b^minus, api.Mode(m), turned[m])
		}
		for _, m := range aid.NoModes() {
			wantMul(t, c.what, c.a, c.b, m, c.want[api.Even])
			wantMul(t, c.what, c.a^minus, c.b, m, turned[api.Even])
		}
	}
}

// PR1 and chapter 5's words: what is no number, at either operand and at both; Loud raises Invalid, Quiet nothing, whatever stands beside it.
func TestMulNoNumber(t *testing.T) {
	numbers := slices.Concat(noughts, endless, finites)
	try := func(as, bs []uint64, f api.Flags) {
		t.Helper()
		for _, a := range as {
			for _, b := range bs {
				for _, m := range aid.AllModes() {
					wantMul(t, "no number", a, b, m, answer{nan, f})
				}
			}
		}
	}
	try(quiets, slices.Concat(numbers, quiets), none)
	try(louds, slices.Concat(numbers, quiets, louds), api.Invalid)
}

// PR1: 0 times Endless, by all signs.
func TestMulNoughtEndless(t *testing.T) {
	for _, a := range noughts {
		for _, b := range endless {
			for _, m := range aid.AllModes() {
				wantMul(t, "0 times Endless", a, b, m, answer{nan, api.Invalid})
			}
		}
	}
}

// PR1: Endless times numbers that are not 0, and times itself.
func TestMulEndless(t *testing.T) {
	for _, p := range []uint64{1, 2, leastBig - 1, leastBig, half, one - 1, one, one + 1, 0x3fb999999999999a, last, inf} {
		playMul(t, []mulCase{{"Endless", inf, p, same(inf, none)}})
	}
}

// PR1: 0 times numbers that are finite has the product's sign, by every mode.
func TestMulNought(t *testing.T) {
	for _, p := range []uint64{0, 1, 2, leastBig - 1, leastBig, half, one - 1, one, one + 1, 0x3fb999999999999a, last} {
		playMul(t, []mulCase{{"0", 0, p, same(0, none)}})
	}
}

// PR1: among plain patterns: what is exact, halves, and what is next to them.
func TestMulPlain(t *testing.T) {
	playMul(t, []mulCase{
		{"1 times 1", one, one, same(one, none)},
		{"1.5 times 1.5", oneHalf, oneHalf, same(0x4002000000000000, none)},
		{"2 times a half", two, half, same(one, none)},
		{"0.1 times 0.1", 0x3fb999999999999a, 0x3fb999999999999a, between(0x3f847ae147ae147c, 0x3f847ae147ae147c, 0x3f847ae147ae147b, 0x3f847ae147ae147c, off)},
		{"halfway, even below", one + 3, oneHalf, between(oneHalf+4, oneHalf+5, oneHalf+4, oneHalf+5, off)},
		{"halfway, odd below", one + 1, oneHalf, between(oneHalf+2, oneHalf+2, oneHalf+1, oneHalf+2, off)},
		{"next above a pattern", one + 1, one + 1, between(one+2, one+2, one+2, one+3, off)},
		{"next above another", one - 1, one - 1, between(one-2, one-2, one-2, one-1, off)},
		{"next below halfway above 2", two - 1, one + 1, between(two, two, two, two+1, off)},
		{"next below 1", one + 1, one - 2, between(one, one, one-1, one, off)},
		{"three quarters above 1", one + 1, one - 1, between(one, one, one, one+1, off)},
		{"up to the next power, halfway", 0x3ff5555555555555, oneHalf, between(two, two, two-1, two, off)},
		{"up to the next power, by a bit", two - 2, one + 1, between(two, two, two-1, two, off)},
		{"both with all bits", two - 1, two - 1, between(0x400ffffffffffffe, 0x400ffffffffffffe, 0x400ffffffffffffe, 0x400fffffffffffff, off)},
		{"exponents far apart", power(-900) + 1, power(900) + 1, between(one+2, one+2, one+2, one+3, off)},
	})
}

// PR1: what is rounded up beyond all patterns, and what is far beyond them.
func TestMulGreat(t *testing.T) {
	beyond := [5]answer{{inf, great}, {inf, great}, {last, great}, {inf, great}, {last, great}}
	nearly := [5]answer{{inf, great}, {inf, great}, {last, off}, {inf, great}, {last, off}}
	upAlone := [5]answer{{last, off}, {last, off}, {last, off}, {inf, great}, {last, off}}
	playMul(t, []mulCase{
		{"just the greatest", power(1023), two - 1, same(last, none)},
		{"hardly below the greatest", power(1023) + 1, two - 3, between(last, last, last-1, last, off)},
		{"hardly above the greatest", power(1023) + 0x6b7f3c9e9c616, 0x3ff68960fa2abe6d, upAlone},
		{"hardly below halfway", power(1023) + 0xa2862e6c3f339, 0x3ff392d3a82577eb, upAlone},
		{"halfway beyond the greatest", power(1023) + 0x5555555555555, oneHalf, nearly},
		{"hardly below 2^1024", power(1023) + 1, two - 2, nearly},
		{"2^1024", power(1023), two, beyond},
		{"2^1024 of like ones", power(512), power(512), beyond},
		{"hardly above 2^1024", last, one + 1, beyond},
		{"the greatest two times", last, two, beyond},
		{"the greatest times itself", last, last, beyond},
	})
}

// PR1: products below what is plain: those that are exact, halves, and what is next to them.
func TestMulTiny(t *testing.T) {
	playMul(t, []mulCase{
		{"the least, whole", 1, one, same(1, none)},
		{"two of it, halved", 2, half, same(1, none)},
		{"the least of plain ones", power(-500), power(-574), same(1, none)},
		{"half of the least", 1, half, between(0, 1, 0, 1, tiny)},
		{"half of it and a bit", 1, half + 1, between(1, 1, 0, 1, tiny)},
		{"half of it but a bit", 1, half - 1, between(0, 0, 0, 1, tiny)},
		{"half of it, of plain ones", power(-500), power(-575), between(0, 1, 0, 1, tiny)},
		{"a quarter", 1, power(-2), between(0, 0, 0, 1, tiny)},
		{"the least but a bit", 1, one - 1, between(1, 1, 0, 1, tiny)},
		{"the least and a bit", 1, one + 1, between(1, 1, 1, 2, tiny)},
		{"one and a half", 3, half, between(2, 2, 1, 2, tiny)},
		{"two and a half", 5, half, between(2, 3, 2, 3, tiny)},
		{"the least plain one, halved", leastBig, half, same(leastBig/2, none)},
		{"the next one, halved", leastBig + 1, half, between(leastBig/2, leastBig/2+1, leastBig/2, leastBig/2+1, tiny)},
		{"tiny, times a great one", 1, power(1023), same(power(-51), none)},
		{"all bits of tiny, times a great one", leastBig - 1, power(1000), same(power(-23)+0xffffffffffffe, none)},
		{"tiny, twice", leastBig - 1, two, same(2*leastBig-2, none)},
	})
}

// PR1: next to the least plain pattern it hangs on the mode whether that is Underflow.
func TestMulLeastPlain(t *testing.T) {
	hardlyBelow := [5]answer{{leastBig, off}, {leastBig, off}, {leastBig - 1, tiny}, {leastBig, off}, {leastBig - 1, tiny}}
	playMul(t, []mulCase{
		{"just it", power(-500), power(-522), same(leastBig, none)},
		{"halfway below it", leastBig, one - 1, between(leastBig, leastBig, leastBig-1, leastBig, tiny)},
		{"hardly below it", leastBig + 1, one - 2, hardlyBelow},
		{"hardly below it, of a tiny one", leastBig - 1, one + 1, hardlyBelow},
		{"hardly above it", leastBig + 1, one - 1, between(leastBig, leastBig, leastBig, leastBig+1, off)},
		{"a step below it", leastBig, one - 2, same(leastBig-1, none)},
	})
}

// PR1: products far below the least pattern.
func TestMulFarBelow(t *testing.T) {
	for _, a := range []uint64{1, 2, leastBig - 1, leastBig, leastBig + 1, 2*leastBig - 1, power(-900)} {
		for _, b := range []uint64{1, 3, leastBig - 1, leastBig, 2*leastBig - 1, power(-600), power(-180)} {
			playMul(t, []mulCase{{"far below", a, b, between(0, 0, 0, 1, tiny)}})
		}
	}
}

// PR1, all of it of finite patterns, word for word.
func TestMulAll(t *testing.T) {
	m := mixer{3}
	for range 60_000 {
		a, b := m.factors()
		for _, mode := range append(aid.Modes(), m.Mode()) {
			wantMul(t, "all", a, b, mode, wantedMul(a, b, mode))
		}
		if t.Failed() {
			return
		}
	}
}

// PR3: products are the same both ways round, of patterns of all classes; what is multiplied by 1 stays, and by -1 it has the other sign.
func TestMulLaws(t *testing.T) {
	m := mixer{5}
	for range 50_000 {
		a, b, mode := m.any(), m.any(), m.Mode()
		p, f := prod.Mul(a, b, mode)
		if q, g := prod.Mul(b, a, mode); q != p || g != f {
			t.Fatalf("Mul(%#x, %#x, %d): %#x, %d; turned round %#x, %d", a, b, mode, p, f, q, g)
		}
		if !pat.IsNaN(a) {
			wantMul(t, "times 1", a, one, mode, answer{a, none})
			wantMul(t, "times -1", a, one+minus, mode, answer{a ^ minus, none})
		}
	}
}
