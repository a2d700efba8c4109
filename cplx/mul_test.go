package cplx_test

import (
	"testing"

	"tiller/api"
	"tiller/cplx"
	"tiller/pat"
	"tiller/prod"
)

// mulCase are two numbers, and what their product's parts are, each with its flags.
type mulCase struct {
	what   string
	x, y   api.Pair
	re, im part
}

func playMul(t *testing.T, cases []mulCase) {
	t.Helper()
	for _, c := range cases {
		want(t, c.what, got(cplx.Mul(c.x, c.y)), both(c.re, c.im), c.x, c.y)
	}
}

// CP2: the chapter's example, and products that need no rounding.
func TestMulExample(t *testing.T) {
	playMul(t, []mulCase{
		{"1 + i by itself", pair(one, one), pair(one, one), part{0, none}, part{two, none}},
		{"1 + 2i by 3 - i", pair(one, two), pair(three, minus+one), part{0x4014000000000000, none}, part{0x4014000000000000, none}},
		{"3 - i by 1 + 2i", pair(three, minus+one), pair(one, two), part{0x4014000000000000, none}, part{0x4014000000000000, none}},
		{"2 + 3i by 1.5 + 2i", pair(two, three), pair(oneHalf, two), part{minus + three, none}, part{0x4021000000000000, none}},
		{"i by i", pair(0, one), pair(0, one), part{minus + one, none}, part{0, none}},
		{"i by 1", pair(0, one), pair(one, 0), part{0, none}, part{one, none}},
		{"2 by 3i", pair(two, 0), pair(0, three), part{0, none}, part{0x4018000000000000, none}},
	})
}

// CP2: of the two products of each part that one is rounded ahead that begins with x.Im; the other one is not, so that they do not take each other away. What is rounded tells that it is, though the sum needs no rounding.
func TestMulWhichIsRounded(t *testing.T) {
	const r = one + 1 // 1 and 2^-52: its square needs 105 bits
	left := part{power(-104), off}
	less := part{minus + power(-104), off}
	playMul(t, []mulCase{
		{"Re", pair(r, r), pair(r, r), left, part{two + 2, off}},
		{"Re, below 0", pair(r, r), pair(minus+r, minus+r), less, part{minus + two + 2, off}},
		{"Im, x.Re by y.Im", pair(r, minus+r), pair(r, r), part{two + 2, off}, left},
		{"Im, and with the other sign", pair(minus+r, r), pair(r, r), part{minus + two + 2, off}, less},
		{"Im, x.Im below 0 and y.Re", pair(r, r), pair(r, minus+r), part{two + 2, off}, less},
		{"Re alone", pair(r, r), pair(r, one), part{power(-52) + 1, none}, part{two + 2, off}},
		{"Re alone, the other rounded", pair(r, r), pair(one, r), part{minus + power(-52), off}, part{two + 2, off}},
		{"Im alone", pair(r, minus+one), pair(r, r), part{two + 2, off}, part{power(-52) + 1, none}},
		{"Im alone, the other rounded", pair(one, minus+r), pair(r, r), part{two + 2, off}, part{minus + power(-52), off}},
	})
}

// sumOfNoughts is a sum of products that are 0, of these signs.
func sumOfNoughts(a, b uint64) part {
	if a == b {
		return part{a, none}
	}
	return part{0, none}
}

// CP2 and chapter 5's words: sums that are 0, and their signs: of products that are all 0, by all signs of both numbers.
func TestMulNoughts(t *testing.T) {
	values := []uint64{0, minus, one, minus + one}
	for _, a := range noughts {
		for _, b := range noughts {
			for _, c := range values {
				for _, d := range values {
					re := sumOfNoughts((a^c)&minus, (b^d^minus)&minus)
					im := sumOfNoughts((a^d)&minus, (b^c)&minus)
					want(t, "Mul", got(cplx.Mul(pair(a, b), pair(c, d))), both(re, im), a, b, c, d)
					want(t, "Mul", got(cplx.Mul(pair(c, d), pair(a, b))), both(re, im), c, d, a, b)
				}
			}
		}
	}
}

// CP2: sums that are 0, of products that are not: +0, whatever the signs are.
func TestMulNothingLeft(t *testing.T) {
	for _, p := range []uint64{one, minus + one, oneHalf, minus + two, power(500), minus + power(-537)} {
		q := p &^ minus
		square := pattern(2 * number(q) * number(q))
		playMul(t, []mulCase{
			{"a square", pair(p, p), pair(p, p), part{0, none}, part{square, none}},
			{"a square, turned", pair(p, p^minus), pair(p, p^minus), part{0, none}, part{square ^ minus, none}},
			{"by the conjugate", pair(p, p), pair(p, p^minus), part{square, none}, part{0, none}},
			{"the conjugate by it", pair(p, p^minus), pair(p, p), part{square, none}, part{0, none}},
		})
	}
}

// CP2: 0 times endless, at each of the four products, and what is endless in the others.
func TestMulEndless(t *testing.T) {
	bad, big, low := part{nan, api.Invalid}, part{inf, none}, part{minus + inf, none}
	playMul(t, []mulCase{
		{"x.Re by y.Re", pair(inf, one), pair(0, one), bad, big},
		{"x.Re by y.Im", pair(inf, one), pair(one, 0), big, bad},
		{"x.Im by y.Re", pair(one, inf), pair(0, one), low, bad},
		{"x.Im by y.Im", pair(one, inf), pair(one, 0), bad, big},
		{"y.Re by x.Re", pair(0, one), pair(inf, one), bad, big},
		{"y.Im by x.Im", pair(one, 0), pair(one, inf), bad, big},
		{"all by 0", pair(inf, minus+inf), pair(0, minus), bad, bad},
		{"endless by 1", pair(inf, one), pair(one, one), big, big},
		{"endless by i", pair(inf, 0), pair(0, one), bad, big},
		{"endless less endless", pair(inf, inf), pair(one, one), bad, big},
		{"endless and endless", pair(inf, minus+inf), pair(one, one), big, bad},
		{"endless by endless", pair(inf, one), pair(inf, minus+one), big, part{nan, api.Invalid}},
		{"endless by endless, below 0", pair(minus+inf, one), pair(inf, one), low, part{nan, api.Invalid}},
		{"tiny by endless", pair(1, 1), pair(inf, one), big, big},
	})
}

// CP2: what is no number, in each part of each number: no part of the product is a number then, and Invalid is raised by a loud one, or by 0 times endless beside it.
func TestMulNoNumber(t *testing.T) {
	for _, p := range append(quiets, louds...) {
		f := none
		if p>>51&1 == 0 {
			f = api.Invalid
		}
		bad := part{nan, f}
		playMul(t, []mulCase{
			{"x.Re", pair(p, one), pair(two, three), bad, bad},
			{"x.Im", pair(one, p), pair(two, three), bad, bad},
			{"y.Re", pair(one, two), pair(p, three), bad, bad},
			{"y.Im", pair(one, two), pair(three, p), bad, bad},
			{"all", pair(p, p), pair(p, p), bad, bad},
			{"by 0", pair(p, 0), pair(0, 0), bad, bad},
			{"0 by endless, too", pair(p, 0), pair(one, inf), part{nan, api.Invalid}, bad},
			{"by endless", pair(one, p), pair(inf, inf), bad, bad},
		})
	}
	playMul(t, []mulCase{
		{"quiet and loud", pair(nan, one), pair(minus+loud, one), part{nan, api.Invalid}, part{nan, api.Invalid}},
		{"quiet by loud, in Im", pair(one, nan), pair(one, lastLoud), part{nan, api.Invalid}, part{nan, api.Invalid}},
	})
}

// CP2: products that are too great, while the sum is not: the rounded one makes it endless, the other one does not.
func TestMulGreat(t *testing.T) {
	twice := part{last, none}
	playMul(t, []mulCase{
		{"Re, the exact one", pair(last, last), pair(two, one), twice, part{inf, great}},
		{"Re, the rounded one", pair(last, last), pair(one, two), part{minus + inf, great}, part{inf, great}},
		{"Re, both", pair(last, last), pair(two, two), part{minus + inf, great}, part{inf, great}},
		{"Im, the exact one", pair(last, minus+last), pair(one, two), part{inf, great}, twice},
		{"Im, the rounded one", pair(last, minus+last), pair(two, one), part{inf, great}, part{minus + inf, great}},
		{"neither, but the sum", pair(last, minus+last), pair(one, one), part{inf, great}, part{0, none}},
		{"below 0", pair(last, last), pair(minus+two, minus+one), part{minus + last, none}, part{minus + inf, great}},
	})
}

// CP2: products that are too small, while the sum is not: the rounded one is nothing, or a whole number of the least, and tells it.
func TestMulTiny(t *testing.T) {
	playMul(t, []mulCase{
		{"Re, the rounded one", pair(one, 1), pair(one, half), part{one, tiny}, part{half, off}},
		{"Re, the exact one", pair(1, one), pair(half, one), part{minus + one, off}, part{half, off}},
		{"Re, nothing left of both", pair(1, 1), pair(half, half), part{0, tiny}, part{0, tiny}},
		{"Re, one and a half of the least, less 1", pair(3, 1), pair(half, one), part{0, tiny}, part{3, tiny}},
		{"Im, the exact one", pair(1, 1), pair(one, half), part{1, tiny}, part{2, tiny}},
		{"Im, the rounded one", pair(1, 1), pair(half, one), part{minus, tiny}, part{1, tiny}},
		{"Im, below 0", pair(minus+1, 1), pair(one, half), part{minus + 1, tiny}, part{0, tiny}},
	})
}

// CP2: what the rounded product raises is told, though the answer needs no rounding, or is endless anyhow.
func TestMulEarlyFlags(t *testing.T) {
	playMul(t, []mulCase{
		{"too great, in an endless Re", pair(inf, last), pair(minus+one, two), part{minus + inf, great}, part{inf, none}},
		{"inexact, in an endless Re", pair(inf, one+1), pair(one, one+1), part{inf, off}, part{inf, none}},
		{"too small, in an endless Re", pair(inf, 1), pair(one, half), part{inf, tiny}, part{inf, none}},
		{"inexact, in an endless Im", pair(inf, one+1), pair(one+1, one), part{inf, none}, part{inf, off}},
		{"too small, in an endless Im", pair(one, 1), pair(half, inf), part{minus + inf, none}, part{inf, tiny}},
		{"too great, and then no number", pair(inf, last), pair(inf, two), part{nan, api.Invalid | great}, part{inf, none}},
		{"inexact, and no number", pair(nan, one+1), pair(one, one+1), part{nan, off}, part{nan, none}},
		{"too great, and 0 by endless", pair(0, last), pair(inf, last), part{nan, api.Invalid | great}, part{inf, none}},
	})
}

// CP2, of any patterns, word for word.
func TestMulAll(t *testing.T) {
	m := mixer{31}
	for range 60_000 {
		x, y := m.pair(), m.pair()
		if m.Below(2) == 0 {
			x, y = m.close(), m.close()
		}
		var re, im part
		p, early := prod.Mul(x.Im, y.Im, api.Even)
		re.p, re.f = prod.Fma(x.Re, y.Re, pat.Neg(p), api.Even)
		q, earlyToo := prod.Mul(x.Im, y.Re, api.Even)
		im.p, im.f = prod.Fma(x.Re, y.Im, q, api.Even)
		re.f |= early
		im.f |= earlyToo
		want(t, "Mul", got(cplx.Mul(x, y)), both(re, im), x, y)
		if t.Failed() {
			return
		}
	}
}
