package prod_test

import (
	"slices"
	"testing"

	"tiller/aid"
	"tiller/api"
	"tiller/prod"
	"tiller/sums"
)

// fmaCase are three patterns, and what they make by Even, Away, Zero, Up and Down.
type fmaCase struct {
	what    string
	a, b, c uint64
	want    [5]answer
}

// playFma tries every case, that makes no 0, by every mode, and with signs turned; a mode that is none is as Even.
func playFma(t *testing.T, cases []fmaCase) {
	t.Helper()
	for _, c := range cases {
		turned := mirror(c.want)
		for m := range c.want {
			wantFma(t, c.what, c.a, c.b, c.c, api.Mode(m), c.want[m])
			wantFma(t, c.what, c.a^minus, c.b^minus, c.c, api.Mode(m), c.want[m])
			wantFma(t, c.what, c.a^minus, c.b, c.c^minus, api.Mode(m), turned[m])
			wantFma(t, c.what, c.a, c.b^minus, c.c^minus, api.Mode(m), turned[m])
		}
		for _, m := range aid.NoModes() {
			wantFma(t, c.what, c.a, c.b, c.c, m, c.want[api.Even])
			wantFma(t, c.what, c.a^minus, c.b, c.c^minus, m, turned[api.Even])
		}
	}
}

// eachMode asks for one answer by every mode, and by some that are none.
func eachMode(t *testing.T, what string, a, b, c uint64, want answer) {
	t.Helper()
	for _, m := range aid.AllModes() {
		wantFma(t, what, a, b, c, m, want)
	}
}

// PR2: the chapter's example.
func TestFmaExample(t *testing.T) {
	eachMode(t, "the example", one+1, one-2, one+minus, answer{minus + power(-104), none})
}

// PR2: 0 times Endless is invalid with every c, also with one that is none.
func TestFmaNoughtEndless(t *testing.T) {
	for _, a := range noughts {
		for _, b := range endless {
			for _, c := range patterns {
				eachMode(t, "0 times Endless", a, b, c, answer{nan, api.Invalid})
			}
		}
	}
}

// PR2 and chapter 5's words: what is no number, at one operand.
func TestFmaNoNumber(t *testing.T) {
	numbers := slices.Concat(noughts, endless, finites)
	try := func(as []uint64, f api.Flags) {
		t.Helper()
		for _, p := range as {
			for _, x := range numbers {
				for _, y := range numbers {
					eachMode(t, "no number as a factor", p, x, y, answer{nan, f})
					if !noughtByEndless(x, y) {
						eachMode(t, "no number as c", x, y, p, answer{nan, f})
					}
				}
			}
		}
	}
	try(quiets, none)
	try(louds, api.Invalid)
}

// PR2 and chapter 5's words: what is no number, at several operands: one Loud pattern among them raises Invalid.
func TestFmaNoNumbers(t *testing.T) {
	q, l := quiets[3], louds[2]
	for _, x := range slices.Concat(noughts, endless, finites) {
		for _, c := range []struct {
			a, b, c uint64
			f       api.Flags
		}{
			{q, q, x, none}, {q, x, q, none}, {q, q, q, none},
			{q, l, x, api.Invalid}, {q, x, l, api.Invalid}, {l, x, q, api.Invalid}, {q, q, l, api.Invalid}, {q, l, q, api.Invalid},
			{l, l, x, api.Invalid}, {l, x, l, api.Invalid}, {l, l, q, api.Invalid}, {l, q, l, api.Invalid}, {l, l, l, api.Invalid},
		} {
			eachMode(t, "several that are none", c.a, c.b, c.c, answer{nan, c.f})
		}
	}
}

// PR2: an Endless product, with a finite c, and with an Endless one of the same and of the other sign.
func TestFmaEndless(t *testing.T) {
	for _, a := range endless {
		for _, b := range slices.Concat(endless, finites) {
			sign := signOf(a, b)
			for _, c := range slices.Concat(noughts, finites) {
				eachMode(t, "Endless, and finite", a, b, c, answer{sign + inf, none})
			}
			eachMode(t, "Endless, and the same", a, b, sign+inf, answer{sign + inf, none})
			eachMode(t, "Endless, and the other", a, b, sign^minus+inf, answer{nan, api.Invalid})
		}
	}
}

// PR2: a finite product and an Endless c are c, also where the product alone is beyond all patterns, or far below them.
func TestFmaEndlessC(t *testing.T) {
	for _, a := range slices.Concat(noughts, finites) {
		for _, b := range slices.Concat(noughts, finites) {
			for _, c := range endless {
				eachMode(t, "finite, and Endless", a, b, c, answer{c, none})
			}
		}
	}
}

// PR2 and chapter 5's words: a product of 0 and a c of 0, by all signs.
func TestFmaNoughts(t *testing.T) {
	for _, a := range noughts {
		for _, b := range slices.Concat(noughts, finites) {
			for _, c := range noughts {
				for _, m := range aid.AllModes() {
					wantFma(t, "0 and 0", a, b, c, m, answer{zeroOf(signOf(a, b), c, m), none})
				}
			}
		}
	}
	for _, m := range aid.AllModes() {
		mixed := answer{0, none}
		if m == api.Down {
			mixed.p = minus
		}
		wantFma(t, "0 and 0", 0, one, 0, m, answer{0, none})
		wantFma(t, "0 and -0", 0, one, minus, m, mixed)
		wantFma(t, "-0 and 0", minus, one, 0, m, mixed)
		wantFma(t, "-0 and -0", minus, one, minus, m, answer{minus, none})
		wantFma(t, "-0 times below 0, and 0", minus, minus+one, 0, m, answer{0, none})
		wantFma(t, "-0 times below 0, and -0", minus, minus+one, minus, m, mixed)
	}
}

// PR2: a product of 0 leaves a c that is not 0.
func TestFmaNoughtProduct(t *testing.T) {
	for _, a := range noughts {
		for _, b := range slices.Concat(noughts, finites) {
			for _, c := range finites {
				eachMode(t, "0, and not 0", a, b, c, answer{c, none})
			}
		}
	}
}

// PR2 and chapter 5's words: a product that c takes away whole.
func TestFmaNothingLeft(t *testing.T) {
	for _, c := range []struct{ a, b, c uint64 }{
		{one, one, one},
		{1, one, 1},
		{two, 1, 2},
		{half, 2, 1},
		{oneHalf, oneHalf, 0x4002000000000000},
		{leastBig, half, leastBig / 2},
		{power(1023), one, power(1023)},
		{power(-500), power(-574), 1},
		{power(600), power(400), power(1000)},
		{power(1023), two - 1, last},
		{last, one, last},
		{last, leastBig, 0x400fffffffffffff},
	} {
		for _, m := range aid.AllModes() {
			want := answer{0, none}
			if m == api.Down {
				want.p = minus
			}
			wantFma(t, "nothing left", c.a, c.b, c.c^minus, m, want)
			wantFma(t, "nothing left", c.a^minus, c.b^minus, c.c^minus, m, want)
			wantFma(t, "nothing left", c.a^minus, c.b, c.c, m, want)
			wantFma(t, "nothing left", c.a, c.b^minus, c.c, m, want)
		}
	}
}

// PR2: a c of 0, of either sign, leaves a product that is not 0, also one that is then rounded to 0: that keeps its own sign.
func TestFmaNoughtC(t *testing.T) {
	for _, c := range noughts {
		playFma(t, []fmaCase{
			{"1", one, one, c, same(one, none)},
			{"halfway", one + 3, oneHalf, c, between(oneHalf+4, oneHalf+5, oneHalf+4, oneHalf+5, off)},
			{"half of the least", 1, half, c, between(0, 1, 0, 1, tiny)},
			{"far below", 1, 1, c, between(0, 0, 0, 1, tiny)},
			{"far below, of plain ones", power(-700), power(-700), c, between(0, 0, 0, 1, tiny)},
			{"beyond", last, two, c, [5]answer{{inf, great}, {inf, great}, {last, great}, {inf, great}, {last, great}}},
		})
	}
}

// PR2: a product that is not rounded before c is added.
func TestFmaOnce(t *testing.T) {
	playFma(t, []fmaCase{
		{"2 times 1.5, and 1", two, oneHalf, one, same(0x4010000000000000, none)},
		{"hardly less than half a step, odd below", one + 1, power(-53) - 2, one + 1, between(one+1, one+1, one+1, one+2, off)},
		{"half a step, odd below", one, power(-53), one + 1, between(one+2, one+2, one+1, one+2, off)},
		{"half a step, even below", one, power(-53), one, between(one, one+1, one, one+1, off)},
		{"hardly more than half a step", one + 1, power(-53) - 1, one, between(one+1, one+1, one, one+1, off)},
		{"less half a step, odd above", one, minus + power(-53), one + 3, between(one+2, one+3, one+2, one+3, off)},
		{"halfway, and the least", one + 3, oneHalf, 1, between(oneHalf+5, oneHalf+5, oneHalf+4, oneHalf+5, off)},
		{"halfway, less the least", one + 1, oneHalf, minus + 1, between(oneHalf+1, oneHalf+1, oneHalf+1, oneHalf+2, off)},
		{"up to the next power", 0x3ff5555555555555, oneHalf, 1, between(two, two, two-1, two, off)},
		{"not up to the next power", 0x3ff5555555555555, oneHalf, minus + 1, between(two-1, two-1, two-1, two, off)},
		{"half a step below a power", one, minus + power(-53), two, between(two, two, two-1, two, off)},
		{"hardly more than half a step below it", one, minus + power(-53) + 1, two, between(two-1, two-1, two-1, two, off)},
	})
}

// PR2: a c whose exponent lies far above the product's: that is only a little more, or less, than nothing.
func TestFmaFarProduct(t *testing.T) {
	for _, f := range []struct{ a, b uint64 }{
		{1, 1}, {leastBig - 1, leastBig - 1}, {leastBig, 1}, {power(-1000), power(-1000) + 1}, {1, one}, {1, power(1000)}, {power(-150) + 1, power(-150) + 1},
		{power(-128), power(-128)}, {power(-127), power(-128)}, {two - 1, power(-202)}, {two - 1, power(-108) + 1}, {two - 1, power(-55)}, {one + 1, power(-55)},
	} {
		playFma(t, []fmaCase{
			{"1 and a little", f.a, f.b, one, between(one, one, one, one+1, off)},
			{"above 1, and a little", f.a, f.b, one + 1, between(one+1, one+1, one+1, one+2, off)},
			{"all bits, and a little", f.a, f.b, two - 1, between(two-1, two-1, two-1, two, off)},
			{"above 1, less a little", f.a, f.b ^ minus, one + 1, between(one+1, one+1, one, one+1, off)},
			{"2 less a little", f.a, f.b ^ minus, two, between(two, two, two-1, two, off)},
			{"the greatest, and a little", f.a, f.b, last, [5]answer{{last, off}, {last, off}, {last, off}, {inf, great}, {last, off}}},
			{"the greatest, less a little", f.a, f.b ^ minus, last, between(last, last, last-1, last, off)},
		})
	}
}

// PR2: a c whose exponent lies far below the product's.
func TestFmaFarC(t *testing.T) {
	for _, c := range []uint64{1, 2, leastBig - 1, leastBig, power(-1000), power(-300), power(-256), power(-255), power(-254), power(-253) + 1, power(-203), power(-202), power(-201) - 1, power(-150), power(-107), power(-56)} {
		playFma(t, []fmaCase{
			{"1 and a little", one, one, c, between(one, one, one, one+1, off)},
			{"1 less a little", one, one, c + minus, between(one, one, one-1, one, off)},
			{"all bits, and a little", two - 1, one, c, between(two-1, two-1, two-1, two, off)},
			{"all bits, less a little", two - 1, one, c + minus, between(two-1, two-1, two-2, two-1, off)},
			{"of exponents far apart", power(-900), power(900), c + minus, between(one, one, one-1, one, off)},
			{"the greatest, and a little", last, one, c, [5]answer{{last, off}, {last, off}, {last, off}, {inf, great}, {last, off}}},
			{"beyond, less a little", last, last, c + minus, [5]answer{{inf, great}, {inf, great}, {last, great}, {inf, great}, {last, great}}},
			{"2^1024, less a little", power(512), power(512), c + minus, [5]answer{{inf, great}, {inf, great}, {last, off}, {inf, great}, {last, off}}},
		})
	}
}

// PR2: a product that c takes away but for few bits, of which some lie below the least pattern.
func TestFmaFewBits(t *testing.T) {
	playFma(t, []fmaCase{
		{"a square, less what it is rounded to", one + 1, one + 1, minus + one + 2, same(power(-104), none)},
		{"all bits, squared", two - 1, two - 1, minus + 0x400ffffffffffffe, same(power(-104), none)},
		{"a square, less a bit more", one - 1, one - 1, minus + one - 2, same(power(-106), none)},
		{"two bits left, too far apart", one + 1, one + 1, minus + one, between(power(-51), power(-51)+1, power(-51), power(-51)+1, off)},
		{"two bits left", one + 2, one + 2, minus + one, same(power(-50)+1, none)},
		{"great ones", power(600) + 1, power(400) + 1, minus + power(1000) + 2, same(power(1000-104), none)},
		{"small ones, down to the least", power(-500) + 1, power(-470) + 1, minus + power(-970) + 2, same(1, none)},
		{"down to its half", power(-500) + 1, power(-471) + 1, minus + power(-971) + 2, between(0, 1, 0, 1, tiny)},
		{"down to its quarter", power(-500) + 1, power(-472) + 1, minus + power(-972) + 2, between(0, 0, 0, 1, tiny)},
		{"far below", power(-500) + 1, power(-500) + 1, minus + power(-1000) + 2, between(0, 0, 0, 1, tiny)},
		{"three halves of the least", power(-500) + 3, power(-471) + 1, minus + power(-971) + 4, between(2, 2, 1, 2, tiny)},
		{"0.1 times 10, less 1", 0x3fb999999999999a, 0x4024000000000000, minus + one, same(power(-54), none)},
	})
}

// PR2: beyond all patterns: only what is left at last is held against them.
func TestFmaGreat(t *testing.T) {
	beyond := [5]answer{{inf, great}, {inf, great}, {last, great}, {inf, great}, {last, great}}
	nearly := [5]answer{{inf, great}, {inf, great}, {last, off}, {inf, great}, {last, off}}
	upAlone := [5]answer{{last, off}, {last, off}, {last, off}, {inf, great}, {last, off}}
	playFma(t, []fmaCase{
		{"2^1024, less the greatest", power(1023), two, minus + last, same(power(971), none)},
		{"twice the greatest, less it", last, two, minus + last, same(last, none)},
		{"2^1024, less half a step", power(1023), two, minus + power(970), nearly},
		{"2^1024, less hardly more than half a step", power(1023), two, minus + power(970) + 1, upAlone},
		{"2^1024, less hardly less than half a step", power(1023), two, minus + power(970) - 1, nearly},
		{"2^1024, less a step", power(1023), two, minus + power(971), same(last, none)},
		{"the greatest, and half a step", one, power(970), last, nearly},
		{"the greatest, and hardly less", one + 1, power(970) - 2, last, upAlone},
		{"the greatest, and a step", one, power(971), last, beyond},
		{"2^1024", power(1022), two, power(1023), beyond},
		{"the greatest times itself, less it", last, last, minus + last, beyond},
		{"twice the greatest, and it", last, two, last, beyond},
	})
}

// PR2: tiny patterns, and what is rounded up to the least plain one.
func TestFmaTiny(t *testing.T) {
	playFma(t, []fmaCase{
		{"the least two times", 1, one, 1, same(2, none)},
		{"the least, and half of it", 1, half, 1, between(2, 2, 1, 2, tiny)},
		{"two of it, and half of it", 1, half, 2, between(2, 3, 2, 3, tiny)},
		{"the least, less half of it", 1, minus + half, 1, between(0, 1, 0, 1, tiny)},
		{"the least, and far less", 1, 1, 1, between(1, 1, 1, 2, tiny)},
		{"the least, less far less", 1, 1 + minus, 1, between(1, 1, 0, 1, tiny)},
		{"up to the least plain one", 1, one, leastBig - 1, same(leastBig, none)},
		{"halfway to the least plain one", 1, half, leastBig - 1, between(leastBig, leastBig, leastBig-1, leastBig, tiny)},
		{"hardly below the least plain one", 1, 1 + minus, leastBig, [5]answer{{leastBig, off}, {leastBig, off}, {leastBig - 1, tiny}, {leastBig, off}, {leastBig - 1, tiny}}},
		{"hardly above the least plain one", 1, 1, leastBig, between(leastBig, leastBig, leastBig, leastBig+1, off)},
		{"tiny ones, and a plain c", leastBig - 1, half, leastBig, between(leastBig+leastBig/2, leastBig+leastBig/2, leastBig+leastBig/2-1, leastBig+leastBig/2, off)},
		{"tiny ones that make plain ones", leastBig - 1, two, leastBig - 1, between(3*leastBig-leastBig/2-2, 3*leastBig-leastBig/2-1, 3*leastBig-leastBig/2-2, 3*leastBig-leastBig/2-1, off)},
	})
}

// PR2, all of it of finite patterns, word for word.
func TestFmaAll(t *testing.T) {
	m := mixer{7}
	for range 60_000 {
		a, b := m.factors()
		c := m.summand(a, b)
		for _, mode := range append(aid.Modes(), m.Mode()) {
			wantFma(t, "all", a, b, c, mode, wantedFma(a, b, c, mode))
		}
		if t.Failed() {
			return
		}
	}
}

// PR3: of patterns of all classes products are the same both ways round; with c 0 of the product's sign they are the product; and times 1 they are sums.
func TestFmaLaws(t *testing.T) {
	m := mixer{11}
	for range 50_000 {
		a, b, c, mode := m.any(), m.any(), m.any(), m.Mode()
		p, f := prod.Fma(a, b, c, mode)
		if q, g := prod.Fma(b, a, c, mode); q != p || g != f {
			t.Fatalf("Fma(%#x, %#x, %#x, %d): %#x, %d; turned round %#x, %d", a, b, c, mode, p, f, q, g)
		}
		p, f = prod.Mul(a, b, mode)
		wantFma(t, "and 0", a, b, signOf(a, b), mode, answer{p, f})
		p, f = sums.Add(a, c, mode)
		wantFma(t, "times 1", a, one, c, mode, answer{p, f})
		if t.Failed() {
			return
		}
	}
}
