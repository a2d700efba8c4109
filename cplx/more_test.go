package cplx_test

import (
	"testing"

	"tiller/api"
	"tiller/cplx"
	"tiller/prod"
	"tiller/quot"
	"tiller/sums"
)

// moreCase are two patterns, and what the first of them, by a real number, and the second make.
type moreCase struct {
	a, to uint64
	part
}

// playMore tries every two cases of one real number as the parts of one call.
func playMore(t *testing.T, by uint64, cases []moreCase) {
	t.Helper()
	for _, c := range cases {
		for _, d := range cases {
			want(t, "More", got(cplx.More(pair(c.a, d.a), by, pair(c.to, d.to))), both(c.part, d.part), c.a, d.a, by, c.to, d.to)
		}
	}
}

// CP1: More by numbers that are finite.
func TestMore(t *testing.T) {
	playMore(t, one, []moreCase{
		{one, one, part{two, none}},
		{one, power(-53), part{one, off}},
		{last, last, part{inf, great}},
		{one, minus + one, part{0, none}},
		{minus, minus, part{minus, none}},
		{minus, 0, part{0, none}},
		{inf, minus + inf, part{nan, api.Invalid}},
		{one, lastNan, part{nan, none}},
		{loud, one, part{nan, api.Invalid}},
	})
	playMore(t, minus+two, []moreCase{
		{one, three, part{one, none}},
		{minus + one, three, part{0x4014000000000000, none}},
		{one, two, part{0, none}},
		{0, minus, part{minus, none}},
		{minus, minus, part{0, none}},
		{inf, last, part{minus + inf, none}},
		{inf, inf, part{nan, api.Invalid}},
		{one, minus + inf, part{minus + inf, none}},
		{one, minus + lastLoud, part{nan, api.Invalid}},
		{nan, loud, part{nan, api.Invalid}},
	})
}

// CP1: More, rounded once: each time a product that is rounded ahead of the sum would make another pattern, or other flags.
func TestMoreOnce(t *testing.T) {
	playMore(t, one+1, []moreCase{
		{one + 1, minus + one + 2, part{power(-104), none}},
		{minus + one + 1, one + 2, part{minus + power(-104), none}},
		{one - 1, minus + one, part{power(-53) - 2, none}},
		{power(-53), one, part{one + 1, off}},
		{last, minus + last, part{power(972) - 1, none}},
	})
	playMore(t, oneHalf, []moreCase{
		{one + 3, 1, part{oneHalf + 5, off}},
		{one + 1, minus + 1, part{oneHalf + 1, off}},
		{0x3ff5555555555555, minus + 1, part{two - 1, off}},
	})
	playMore(t, two, []moreCase{
		{last, minus + last, part{last, none}},
		{minus + last, last, part{minus + last, none}},
		{power(1023), minus + power(970), part{inf, great}},
		{power(1023), minus + power(971), part{last, none}},
	})
	playMore(t, half, []moreCase{
		{1, 1, part{2, tiny}},
		{1, minus + 1, part{minus, tiny}},
		{3, minus + 1, part{0, tiny}},
		{1, one, part{one, off}},
		{1, leastBig - 1, part{leastBig, tiny}},
	})
}

// CP1: More by 0, by what is endless, and by what is no number.
func TestMoreByNone(t *testing.T) {
	playMore(t, 0, []moreCase{
		{one, one, part{one, none}},
		{one, minus, part{0, none}},
		{minus + one, minus, part{minus, none}},
		{last, 1, part{1, none}},
		{one, inf, part{inf, none}},
		{inf, one, part{nan, api.Invalid}},
		{minus + inf, nan, part{nan, api.Invalid}},
		{nan, one, part{nan, none}},
		{one, loud, part{nan, api.Invalid}},
	})
	playMore(t, inf, []moreCase{
		{one, one, part{inf, none}},
		{minus + 1, last, part{minus + inf, none}},
		{one, inf, part{inf, none}},
		{one, minus + inf, part{nan, api.Invalid}},
		{0, one, part{nan, api.Invalid}},
		{minus, lastNan, part{nan, api.Invalid}},
		{one, lastNan, part{nan, none}},
		{minus + nan, inf, part{nan, none}},
		{one, lastLoud, part{nan, api.Invalid}},
	})
	for _, by := range quiets {
		playMore(t, by, []moreCase{{one, one, part{nan, none}}, {0, inf, part{nan, none}}, {nan, nan, part{nan, none}}, {loud, one, part{nan, api.Invalid}}, {inf, lastLoud, part{nan, api.Invalid}}})
	}
	for _, by := range louds {
		playMore(t, by, []moreCase{{one, one, part{nan, api.Invalid}}, {0, inf, part{nan, api.Invalid}}, {nan, nan, part{nan, api.Invalid}}})
	}
}

// CP1, of any patterns: More is the product and the sum of layer 6 in each part; with a number of 0 of its signs it is Scale, and by 1 Add.
func TestMoreAll(t *testing.T) {
	m := mixer{23}
	for range 40_000 {
		x, by, to := m.pair(), m.any(), m.pair()
		if m.Below(2) == 0 {
			x, by, to = m.close(), m.near(1023, 2), m.close()
		}
		var re, im part
		re.p, re.f = prod.Fma(x.Re, by, to.Re, api.Even)
		im.p, im.f = prod.Fma(x.Im, by, to.Im, api.Even)
		want(t, "More", got(cplx.More(x, by, to)), both(re, im), x, by, to)
		signs := pair((x.Re^by)&minus, (x.Im^by)&minus)
		want(t, "More of 0", got(cplx.More(x, by, signs)), got(cplx.Scale(x, by)), x, by)
		want(t, "More by 1", got(cplx.More(x, one, to)), got(cplx.Add(x, to)), x, to)
		if t.Failed() {
			return
		}
	}
}

// CP1, of any patterns: each part is the one of layers 5 to 7, rounded by Even; and a difference is a sum with the other signs.
func TestPartsAll(t *testing.T) {
	m := mixer{29}
	of := func(do func(a, b uint64, m api.Mode) (uint64, api.Flags), a, b uint64) part {
		p, f := do(a, b, api.Even)
		return part{p, f}
	}
	for range 40_000 {
		x, y, by := m.pair(), m.pair(), m.any()
		want(t, "Add", got(cplx.Add(x, y)), both(of(sums.Add, x.Re, y.Re), of(sums.Add, x.Im, y.Im)), x, y)
		want(t, "Sub", got(cplx.Sub(x, y)), both(of(sums.Sub, x.Re, y.Re), of(sums.Sub, x.Im, y.Im)), x, y)
		want(t, "Sub", got(cplx.Sub(x, y)), got(cplx.Add(x, pair(y.Re^minus, y.Im^minus))), x, y)
		want(t, "Scale", got(cplx.Scale(x, by)), both(of(prod.Mul, x.Re, by), of(prod.Mul, x.Im, by)), x, by)
		want(t, "Div", got(cplx.Div(x, by)), both(of(quot.Div, x.Re, by), of(quot.Div, x.Im, by)), x, by)
		if t.Failed() {
			return
		}
	}
}
