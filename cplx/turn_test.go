package cplx_test

import (
	"testing"

	"tiller/api"
	"tiller/cplx"
)

// wantPair fails, if a pair is another one.
func wantPair(t *testing.T, what string, has, wanted, asked api.Pair) {
	t.Helper()
	if has != wanted {
		t.Errorf("%s of %#x: %#x; want %#x", what, asked, has, wanted)
	}
}

// CP3: by their bits.
func TestConjAndTurn(t *testing.T) {
	for _, c := range []struct{ x, conj, forth, back api.Pair }{
		{pair(one, two), pair(one, minus+two), pair(minus+two, one), pair(two, minus+one)},
		{pair(minus+one, minus+three), pair(minus+one, three), pair(three, minus+one), pair(minus+three, one)},
		{pair(0, 0), pair(0, minus), pair(minus, 0), pair(0, minus)},
		{pair(0, minus), pair(0, 0), pair(0, 0), pair(minus, minus)},
		{pair(minus, minus), pair(minus, 0), pair(0, minus), pair(minus, 0)},
		{pair(inf, 1), pair(inf, minus+1), pair(minus+1, inf), pair(1, minus+inf)},
		{pair(nan, lastNan), pair(nan, minus+lastNan), pair(minus+lastNan, nan), pair(lastNan, minus+nan)},
		{pair(loud, minus+lastLoud), pair(loud, lastLoud), pair(lastLoud, loud), pair(minus+lastLoud, minus+loud)},
		{pair(minus+0x7ffc000000000001, 0x7ff4000000000003), pair(minus+0x7ffc000000000001, minus+0x7ff4000000000003), pair(minus+0x7ff4000000000003, minus+0x7ffc000000000001), pair(0x7ff4000000000003, 0x7ffc000000000001)},
	} {
		wantPair(t, "Conj", cplx.Conj(c.x), c.conj, c.x)
		wantPair(t, "Turn", cplx.Turn(c.x, false), c.forth, c.x)
		wantPair(t, "Turn back", cplx.Turn(c.x, true), c.back, c.x)
	}
}

// everyPair calls with every two of the named patterns, and with odd ones.
func everyPair(try func(x api.Pair)) {
	for _, a := range patterns {
		for _, b := range patterns {
			try(pair(a, b))
		}
	}
	m := mixer{37}
	for range 20_000 {
		try(pair(m.Word(), m.any()))
	}
}

// CP3, of all classes: a sign is turned, and all other bits stay, also of what is no number.
func TestSignsAlone(t *testing.T) {
	everyPair(func(x api.Pair) {
		wantPair(t, "Conj", cplx.Conj(x), pair(x.Re, x.Im^minus), x)
		wantPair(t, "Turn", cplx.Turn(x, false), pair(x.Im^minus, x.Re), x)
		wantPair(t, "Turn back", cplx.Turn(x, true), pair(x.Im, x.Re^minus), x)
	})
}

// CP4: forth and back, and back and forth, is the number, bit by bit; twice one way is its other sign, four times it.
func TestTurnForthAndBack(t *testing.T) {
	everyPair(func(x api.Pair) {
		other := pair(x.Re^minus, x.Im^minus)
		for _, back := range []bool{false, true} {
			once := cplx.Turn(x, back)
			wantPair(t, "Turn there and back", cplx.Turn(once, !back), x, x)
			twice := cplx.Turn(once, back)
			wantPair(t, "Turn twice", twice, other, x)
			wantPair(t, "Turn four times", cplx.Turn(cplx.Turn(twice, back), back), x, x)
		}
		wantPair(t, "Conj twice", cplx.Conj(cplx.Conj(x)), x, x)
	})
}
