package cplx_test

import (
	"math"
	"testing"

	"tiller/api"
	"tiller/cplx"
	"tiller/pat"
)

// wantConjugates holds the product of conjugates against the conjugate of the product, flags and all, bit by bit. Two patterns are the same in both, by CP2 and chapter 5's words: that of what is no number, and +0 where unlike signs leave nothing.
func wantConjugates(t *testing.T, x, y api.Pair) {
	t.Helper()
	product, flags := cplx.Mul(x, y)
	wanted := cplx.Conj(product)
	conjugates, others := cplx.Mul(cplx.Conj(x), cplx.Conj(y))
	switch {
	case product.Im == nan:
		wanted.Im = nan
	case product.Im == 0 && conjugates.Im == 0:
		wanted.Im = 0
	}
	want(t, "the product of conjugates", answer{conjugates, others}, answer{wanted, flags}, x, y)
}

// CP4: the product of conjugates, of all named patterns and of odd ones.
func TestConjugates(t *testing.T) {
	m := mixer{41}
	for range 60_000 {
		wantConjugates(t, m.pair(), m.pair())
		wantConjugates(t, m.close(), m.close())
		if t.Failed() {
			return
		}
	}
	for _, a := range patterns {
		for _, b := range patterns {
			wantConjugates(t, pair(a, b), pair(one, two))
			wantConjugates(t, pair(three, minus+one), pair(a, b))
			wantConjugates(t, pair(a, b), pair(b, a))
		}
	}
}

// CP4 and CP2: where the imaginary part is a 0 that is none of one sign: +0, of the conjugates, too; and where it has a sign, the other one.
func TestConjugatesOfNought(t *testing.T) {
	for _, c := range []struct {
		x, y     api.Pair
		im, conj uint64
	}{
		{pair(one, one), pair(one, minus+one), 0, 0},
		{pair(one, minus+one), pair(one, one), 0, 0},
		{pair(two, 0), pair(three, 0), 0, minus},
		{pair(two, minus), pair(three, minus), minus, 0},
		{pair(two, 0), pair(three, minus), 0, 0},
		{pair(two, minus), pair(three, 0), 0, 0},
	} {
		product, _ := cplx.Mul(c.x, c.y)
		conjugates, _ := cplx.Mul(cplx.Conj(c.x), cplx.Conj(c.y))
		if product.Im != c.im || conjugates.Im != c.conj {
			t.Errorf("%#x by %#x: %#x, of conjugates %#x; want %#x, %#x", c.x, c.y, product.Im, conjugates.Im, c.im, c.conj)
		}
	}
}

// CP1, CP2: the machine's own numbers, which it rounds by Even, make the same patterns.
func TestMachine(t *testing.T) {
	m := mixer{43}
	for range 60_000 {
		x, y, to, by := m.pair(), m.pair(), m.pair(), m.any()
		if m.Below(2) == 0 {
			x, y, to, by = m.close(), m.close(), m.close(), m.near(1023, 2)
		}
		a, b, c, d, r := number(x.Re), number(x.Im), number(y.Re), number(y.Im), number(by)
		p, q := float64(b*d), float64(b*c)
		for _, z := range []struct {
			what   string
			has    api.Pair
			re, im float64
		}{
			{"Add", first(cplx.Add(x, y)), a + c, b + d},
			{"Sub", first(cplx.Sub(x, y)), a - c, b - d},
			{"Mul", first(cplx.Mul(x, y)), math.FMA(a, c, -p), math.FMA(a, d, q)},
			{"Scale", first(cplx.Scale(x, by)), a * r, b * r},
			{"Div", first(cplx.Div(x, by)), a / r, b / r},
			{"More", first(cplx.More(x, by, to)), math.FMA(a, r, number(to.Re)), math.FMA(b, r, number(to.Im))},
		} {
			wantPair(t, z.what, z.has, pair(pattern(z.re), pattern(z.im)), x)
		}
		if t.Failed() {
			t.Fatalf("%#x, %#x, %#x, %#x", x, y, by, to)
		}
	}
}

// first is an answer without its flags.
func first(p api.Pair, _ api.Flags) api.Pair { return p }

// CP1, CP2: what is finite, about 1, is nearly the exact number: the parts of a product are off by hardly more than the last bit of its greatest term.
func TestMulNear(t *testing.T) {
	m := mixer{47}
	for range 20_000 {
		x, y := m.close(), m.close()
		product, flags := cplx.Mul(x, y)
		if !pat.Finite(product.Re) || !pat.Finite(product.Im) || flags&^off != 0 {
			t.Fatalf("%#x by %#x: %#x, %d", x, y, product, flags)
		}
		exact := complex(number(x.Re), number(x.Im)) * complex(number(y.Re), number(y.Im))
		wrong := math.Hypot(number(product.Re)-real(exact), number(product.Im)-imag(exact))
		size := math.Hypot(number(x.Re), number(x.Im)) * math.Hypot(number(y.Re), number(y.Im))
		if wrong > size*0x1p-50 {
			t.Fatalf("%#x by %#x: %#x, off by %g", x, y, product, wrong)
		}
	}
}
