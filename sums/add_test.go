package sums_test

import (
	"testing"

	"tiller/aid"
	"tiller/api"
	"tiller/pat"
	"tiller/rnd"
	"tiller/sums"
)

// answer is what a call answers by one mode.
type answer struct {
	p uint64
	f api.Flags
}

// addCase are two patterns, and their sum by Even, Away, Zero, Up and Down.
type addCase struct {
	what string
	a, b uint64
	want [5]answer
}

// same is one answer by every mode.
func same(p uint64, f api.Flags) [5]answer {
	return [5]answer{{p, f}, {p, f}, {p, f}, {p, f}, {p, f}}
}

// between is a sum above 0 that is rounded to low, or to high, with the same flags: by Even and Away to those that are told.
func between(even, away, low, high uint64, f api.Flags) [5]answer {
	return [5]answer{{even, f}, {away, f}, {low, f}, {high, f}, {low, f}}
}

// wantSum asks Add, both ways round, and Sub of the operand with the other sign.
func wantSum(t *testing.T, what string, a, b uint64, m api.Mode, want answer) {
	t.Helper()
	if p, f := sums.Add(a, b, m); p != want.p || f != want.f {
		t.Errorf("%s: Add(%#x, %#x, %d): %#x, %d; want %#x, %d", what, a, b, m, p, f, want.p, want.f)
	}
	if p, f := sums.Add(b, a, m); p != want.p || f != want.f {
		t.Errorf("%s: Add(%#x, %#x, %d): %#x, %d; want %#x, %d", what, b, a, m, p, f, want.p, want.f)
	}
	if p, f := sums.Sub(a, b^minus, m); p != want.p || f != want.f {
		t.Errorf("%s: Sub(%#x, %#x, %d): %#x, %d; want %#x, %d", what, a, b^minus, m, p, f, want.p, want.f)
	}
}

// play tries every case by every mode, and with both signs turned, where Up and Down change places; a mode that is none is as Even.
func play(t *testing.T, cases []addCase) {
	t.Helper()
	for _, c := range cases {
		mirror := c.want
		mirror[api.Up], mirror[api.Down] = mirror[api.Down], mirror[api.Up]
		for m := range c.want {
			wantSum(t, c.what, c.a, c.b, api.Mode(m), c.want[m])
			wantSum(t, c.what, c.a^minus, c.b^minus, api.Mode(m), answer{mirror[m].p ^ minus, mirror[m].f})
		}
		for _, m := range aid.NoModes() {
			wantSum(t, c.what, c.a, c.b, m, c.want[api.Even])
		}
	}
}

// SU2: the chapter's example.
func TestAddExample(t *testing.T) {
	wantSum(t, "the example", one, one-53*quantum, api.Even, answer{one, api.Inexact})
	wantSum(t, "the example", one, one-53*quantum, api.Up, answer{one + 1, api.Inexact})
}

// SU2 and the words: what is no number, on either side and on both; Loud raises Invalid, Quiet nothing, whatever stands beside it.
func TestAddNoNumber(t *testing.T) {
	quiets := []uint64{nan, nan + 1, 0x7ffc000000000000, 0x7fffffffffffffff}
	louds := []uint64{loud, 0x7ff4000000000000, 0x7ff7ffffffffffff}
	numbers := []uint64{0, 1, leastBig - 1, leastBig, one, last, inf}
	try := func(a, b uint64, f api.Flags) {
		t.Helper()
		for _, sign := range []uint64{0, minus} {
			for _, other := range []uint64{0, minus} {
				for _, m := range aid.AllModes() {
					wantSum(t, "no number", a+sign, b+other, m, answer{nan, f})
				}
			}
		}
	}
	for _, quiet := range quiets {
		for _, b := range append(numbers, quiets...) {
			try(quiet, b, none)
		}
		for _, b := range louds {
			try(quiet, b, api.Invalid)
		}
	}
	for _, a := range louds {
		for _, b := range append(numbers, louds...) {
			try(a, b, api.Invalid)
		}
	}
}

// SU2: Endless, beside what is finite, of one sign and of both.
func TestAddEndless(t *testing.T) {
	for _, p := range []uint64{0, 1, leastBig - 1, leastBig, one, 0x3fb999999999999a, last} {
		for _, sign := range []uint64{0, minus} {
			play(t, []addCase{{"Endless and finite", inf, p + sign, same(inf, none)}})
		}
	}
	for _, m := range aid.AllModes() {
		wantSum(t, "Endless and Endless", inf, inf, m, answer{inf, none})
		wantSum(t, "-Endless and -Endless", inf+minus, inf+minus, m, answer{inf + minus, none})
		wantSum(t, "Endless and -Endless", inf, inf+minus, m, answer{nan, api.Invalid})
	}
}

// SU2 and the words: the sign of a sum of 0.
func TestAddNought(t *testing.T) {
	for _, m := range aid.AllModes() {
		mixed := answer{0, none}
		if m == api.Down {
			mixed.p = minus
		}
		wantSum(t, "0 and 0", 0, 0, m, answer{0, none})
		wantSum(t, "-0 and -0", minus, minus, m, answer{minus, none})
		wantSum(t, "0 and -0", 0, minus, m, mixed)
		for _, p := range []uint64{1, 2, leastBig - 1, leastBig, leastBig + 1, one - 1, one, 0x3fb999999999999a, last - 1, last} {
			wantSum(t, "a number and it with the other sign", p, p+minus, m, mixed)
		}
	}
}

// SU2: among plain patterns of exponents near each other: what is exact, halves, and what is next to them.
func TestAddPlain(t *testing.T) {
	play(t, []addCase{
		{"1 and 1", one, one, same(two, none)},
		{"1 and 2", one, two, same(0x4008000000000000, none)},
		{"0.1 and 0.2", 0x3fb999999999999a, 0x3fc999999999999a, between(0x3fd3333333333334, 0x3fd3333333333334, 0x3fd3333333333333, 0x3fd3333333333334, off)},
		{"1 and 2^-52", one, one - 52*quantum, same(one+1, none)},
		{"halfway, even below", one, one - 53*quantum, between(one, one+1, one, one+1, off)},
		{"halfway, odd below", one + 1, one - 53*quantum, between(one+2, one+2, one+1, one+2, off)},
		{"halfway and a bit", one, one - 53*quantum + 1, between(one+1, one+1, one, one+1, off)},
		{"halfway but a bit", one, one - 53*quantum - 1, between(one, one, one, one+1, off)},
		{"halfway below a power", two, minus + one - 53*quantum, between(two, two, two-1, two, off)},
		{"halfway below 2, odd above", two - 1, minus + one - 53*quantum, between(two-2, two-1, two-2, two-1, off)},
		{"a half of a step, and its half", one + 1, one - 54*quantum, between(one+1, one+1, one+1, one+2, off)},
		{"up to the next power, halfway", two - 1, one - 53*quantum, between(two, two, two-1, two, off)},
		{"up to the next power, by more", two - 1, one - 53*quantum + 1, between(two, two, two-1, two, off)},
		{"not up to it", two - 1, one - 53*quantum - 1, between(two-1, two-1, two-1, two, off)},
		{"both with all bits", two - 1, two - 1, same(two+quantum-1, none)},
		{"all bits, and one of the other exponent", two - 1, one, between(0x4008000000000000, 0x4008000000000000, 0x4007ffffffffffff, 0x4008000000000000, off)},
		{"the step below a power is half as great", one, minus + one - 53*quantum, same(one-1, none)},
		{"halfway below 1", one, minus + one - 54*quantum, between(one, one, one-1, one, off)},
		{"a quarter below 1", one, minus + one - 55*quantum, between(one, one, one-1, one, off)},
		{"three quarters below 1", one, minus + one - 54*quantum + 1<<51, between(one-1, one-1, one-1, one, off)},
	})
}

// SU2: exponents that lie far apart: the less number is only a little more, or less, than nothing.
func TestAddFar(t *testing.T) {
	for _, little := range []uint64{1, 2, leastBig - 1, leastBig, one - 1000*quantum, one - 300*quantum, one - 260*quantum, one - 256*quantum, one - 255*quantum, one - 254*quantum, one - 253*quantum,
		one - 203*quantum, one - 202*quantum, one - 201*quantum, one - 128*quantum, one - 107*quantum, one - 64*quantum, one - 56*quantum} {
		play(t, []addCase{
			{"1 and a little", one, little, between(one, one, one, one+1, off)},
			{"1 less a little", one, minus + little, between(one, one, one-1, one, off)},
			{"above 1, and a little", one + 1, little, between(one+1, one+1, one+1, one+2, off)},
			{"above 1, less a little", one + 1, minus + little, between(one+1, one+1, one, one+1, off)},
			{"all bits, and a little", two - 1, little, between(two-1, two-1, two-1, two, off)},
			{"all bits, less a little", two - 1, minus + little, between(two-1, two-1, two-2, two-1, off)},
			{"the greatest, less a little", last, minus + little, between(last, last, last-1, last, off)},
			{"the greatest, and a little", last, little, [5]answer{{last, off}, {last, off}, {last, off}, {inf, great}, {last, off}}},
		})
	}
}

// SU2: differences that leave few bits, all of them exact.
func TestAddFewBits(t *testing.T) {
	play(t, []addCase{
		{"next to 1, less 1", one + 1, minus + one, same(one-52*quantum, none)},
		{"1, less the one below it", one, minus + one - 1, same(one-53*quantum, none)},
		{"2, less the one below it", two, minus + two - 1, same(one-52*quantum, none)},
		{"all bits, less 1", two - 1, minus + one, same(0x3feffffffffffffe, none)},
		{"1.5 less 1", 0x3ff8000000000000, minus + one, same(one-quantum, none)},
		{"the least plain one, less the greatest tiny one", leastBig, minus + leastBig - 1, same(1, none)},
		{"the next plain one, less the least", leastBig + 1, minus + leastBig, same(1, none)},
		{"the greatest, less the one below it", last, minus + last - 1, same(0x7fe0000000000000-52*quantum, none)},
		{"0.3 less 0.2 less 0.1", 0x3fd3333333333334, minus + 0x3fd3333333333333, same(0x3c90000000000000, none)},
	})
}

// SU2: beyond all patterns.
func TestAddGreat(t *testing.T) {
	beyond := [5]answer{{inf, great}, {inf, great}, {last, great}, {inf, great}, {last, great}}
	nearly := [5]answer{{inf, great}, {inf, great}, {last, off}, {inf, great}, {last, off}}
	const half = 0x7c90000000000000 // half of the greatest one's step: 2^970
	play(t, []addCase{
		{"the greatest two times", last, last, beyond},
		{"2^1023 two times", 0x7fe0000000000000, 0x7fe0000000000000, beyond},
		{"2^1023 and the one below it", 0x7fe0000000000000, 0x7fdfffffffffffff, nearly},
		{"halfway beyond the greatest", last, half, nearly},
		{"halfway but a bit", last, half - 1, [5]answer{{last, off}, {last, off}, {last, off}, {inf, great}, {last, off}}},
		{"a step beyond", last, half + quantum, beyond},
		{"just the greatest", last - 1, half + quantum, same(last, none)},
		{"halfway below the greatest", last - 1, half, between(last-1, last, last-1, last, off)},
	})
}

// SU2: tiny patterns, whose sums are exact.
func TestAddTiny(t *testing.T) {
	play(t, []addCase{
		{"the least two times", 1, 1, same(2, none)},
		{"the least, and the greatest tiny one", 1, leastBig - 1, same(leastBig, none)},
		{"the greatest tiny one two times", leastBig - 1, leastBig - 1, same(2*leastBig-2, none)},
		{"the least plain one, less the least", leastBig, minus + 1, same(leastBig-1, none)},
		{"the least plain one two times", leastBig, leastBig, same(2*leastBig, none)},
		{"3 less 2", 3, minus + 2, same(1, none)},
		{"plain, less its half", leastBig + 2, minus + 1 + leastBig/2, same(leastBig/2+1, none)},
		{"first that is rounded", 2*leastBig + 1, 1, between(2*leastBig+2, 2*leastBig+2, 2*leastBig+1, 2*leastBig+2, off)},
		{"first that is rounded, even below", 2 * leastBig, 1, between(2*leastBig, 2*leastBig+1, 2*leastBig, 2*leastBig+1, off)},
	})
}

// wanted is the sum of two finite patterns, word for word as the chapters have it.
func wanted(a, b uint64, m api.Mode) answer {
	x, _ := rnd.Of(a)
	y, _ := rnd.Of(b)
	v, exp := exactly(x, y)
	if v.Sign() == 0 {
		return answer{zeroOf(x, y, m), none}
	}
	p, f := rounded(v, exp, m)
	return answer{p, f}
}

// SU2, all of it of finite patterns, word for word.
func TestAddAll(t *testing.T) {
	m := mixer{3}
	for range 60_000 {
		a, b := m.pair()
		for _, mode := range append(aid.Modes(), m.Mode()) {
			wantSum(t, "all", a, b, mode, wanted(a, b, mode))
		}
		if t.Failed() {
			return
		}
	}
}

// SU3: sums are the same both ways round, of patterns of all classes, and what is added to 0 stays, but a 0's sign.
func TestAddLaws(t *testing.T) {
	m := mixer{5}
	for range 50_000 {
		a, b := m.Word(), m.Word()
		mode := m.Mode()
		p, f := sums.Add(a, b, mode)
		if q, g := sums.Add(b, a, mode); q != p || g != f {
			t.Fatalf("Add(%#x, %#x, %d): %#x, %d; turned round %#x, %d", a, b, mode, p, f, q, g)
		}
		if pat.IsNaN(a) {
			continue
		}
		for _, zero := range []uint64{0, minus} {
			wantSum(t, "and 0", a, zero, mode, answer{a, none})
		}
	}
}
