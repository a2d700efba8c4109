package sums_test

import (
	"math"
	"testing"

	"tiller/aid"
	"tiller/api"
	"tiller/rnd"
	"tiller/sums"
	"tiller/wide"
)

// checkExact tells whether Exact answers, both ways round, a number that is rounded by every mode as the exact sum is.
func checkExact(t *testing.T, x, y rnd.Num, m api.Mode) {
	t.Helper()
	v, exp := exactly(x, y)
	for range 2 {
		sum, err := sums.Exact(x, y, m)
		if err != nil {
			t.Fatalf("Exact(%+v, %+v, %d): %v", x, y, m, err)
		}
		for _, mode := range aid.Modes() {
			want := answer{zeroOf(x, y, m), none}
			if v.Sign() != 0 {
				want.p, want.f = rounded(v, exp, mode)
			}
			if p, f := rnd.Round(sum, mode); p != want.p || f != want.f {
				t.Fatalf("Exact(%+v, %+v, %d): %+v, by %d %#x, %d; want %#x, %d", x, y, m, sum, mode, p, f, want.p, want.f)
			}
		}
		x, y = y, x
	}
}

// checkSigns is checkExact by both signs of both, and by some modes.
func checkSigns(t *testing.T, x, y rnd.Num) {
	t.Helper()
	for _, x.Minus = range []bool{false, true} {
		for _, y.Minus = range []bool{false, true} {
			for _, m := range []api.Mode{api.Even, api.Up, api.Down, -1} {
				checkExact(t, x, y, m)
			}
		}
	}
}

// SU1: what may be no operand, on either side and on both, of the size 0, too.
func TestExactErrors(t *testing.T) {
	wrong := []rnd.Num{
		{Sig: wide.W{2: 1}},
		{Sig: wide.W{3: 1}},
		{Sig: wide.W{full, full, full, full}},
		{Exp: -100_000, Sig: wide.W{1, 0, 1}},
		{More: true},
		{Sig: wide.Of(1), More: true},
		{Sig: wide.W{full, full}, More: true},
		{Exp: 100_001},
		{Exp: 100_001, Sig: wide.Of(1)},
		{Exp: -100_001},
		{Exp: -100_001, Sig: wide.Of(1)},
		{Exp: math.MaxInt},
		{Exp: math.MaxInt, Sig: wide.W{full, full}},
		{Exp: math.MinInt},
		{Exp: math.MinInt, Sig: wide.W{full, full}},
		{Exp: 1<<32 + 1, Sig: wide.Of(1)},
		{Exp: 100_001, Sig: wide.W{2: 1}, More: true},
	}
	right := []rnd.Num{{}, {Sig: wide.Of(1)}, {Exp: 100_000, Sig: wide.W{full, full}}, {Exp: -100_000}}
	try := func(x, y rnd.Num) {
		for _, m := range aid.AllModes() {
			if sum, err := sums.Exact(x, y, m); sum != (rnd.Num{}) || aid.Errno(err) != 1 {
				t.Errorf("Exact(%+v, %+v, %d): %+v, %v; want error 1", x, y, m, sum, err)
			}
		}
	}
	for _, x := range wrong {
		for _, x.Minus = range []bool{false, true} {
			for _, y := range right {
				try(x, y)
				try(y, x)
			}
			for _, y := range wrong {
				try(x, y)
			}
		}
	}
}

// SU1: Sig of 128 bits, and Exp as far as it may be, with what is 0 there, too.
func TestExactEdges(t *testing.T) {
	sigs := []wide.W{{}, wide.Of(1), bits(127, 127), bits(127, 0), {full, full}}
	exps := []int{-100_000, -1202, -1074, 0, 896, 100_000}
	for _, a := range sigs {
		for _, b := range sigs {
			for i, d := range exps {
				for _, e := range exps[i:] {
					checkSigns(t, rnd.Num{Exp: d, Sig: a}, rnd.Num{Exp: e, Sig: b})
				}
			}
		}
	}
}

// wantNought asks for a sum of 0 of that sign.
func wantNought(t *testing.T, x, y rnd.Num, m api.Mode, below0 bool) {
	t.Helper()
	sum, err := sums.Exact(x, y, m)
	if p, f := rnd.Round(sum, m); err != nil || p&^minus != 0 || f != none || (p == minus) != below0 {
		t.Errorf("Exact(%+v, %+v, %d): %+v, %v", x, y, m, sum, err)
	}
}

// SU1 and the words: the sign of 0, by Down and by the others.
func TestExactNought(t *testing.T) {
	noughts := []rnd.Num{{}, {Exp: 77}, {Exp: 100_000}, {Exp: -100_000}}
	sizes := []rnd.Num{{Sig: wide.Of(1)}, {Exp: -1074, Sig: wide.Of(1)}, {Exp: -100_000, Sig: wide.Of(1)}, {Exp: 100_000, Sig: wide.W{full, full}}}
	for _, m := range aid.AllModes() {
		for _, x := range append(noughts, sizes...) {
			y := x
			y.Minus = true
			wantNought(t, x, y, m, m == api.Down)
			wantNought(t, y, x, m, m == api.Down)
		}
		for _, x := range noughts {
			for _, y := range noughts {
				wantNought(t, x, y, m, false)
				x.Minus, y.Minus = true, true
				wantNought(t, x, y, m, true)
				x.Minus = false
				wantNought(t, x, y, m, m == api.Down)
			}
		}
	}
}

// SU1: one size told in two ways leaves nothing.
func TestExactSameSize(t *testing.T) {
	for up := range 128 {
		x := rnd.Num{Exp: up - 60, Sig: wide.Of(1)}
		y := rnd.Num{Exp: -60, Sig: bits(up, up)}
		checkSigns(t, x, y)
	}
}

// SU1: a halfway point, and what lies a little beyond it or before it, however far below.
func TestExactHalfway(t *testing.T) {
	for _, high := range []rnd.Num{{Exp: -53, Sig: wide.Of(1<<53 + 1)}, {Exp: -53, Sig: wide.Of(1<<53 + 3)}, {Exp: -53, Sig: wide.Of(1<<54 - 1)}, {Exp: -1075, Sig: wide.Of(1)}, {Exp: -1075, Sig: wide.Of(3)},
		{Exp: -1075, Sig: wide.Of(1<<53 - 1)}, {Exp: -1076, Sig: wide.Of(1<<54 - 1)}, {Exp: 970, Sig: wide.Of(1<<54 - 1)}, {Exp: -74, Sig: bits(127, 74)}} {
		for _, down := range []int{1, 2, 53, 54, 55, 64, 126, 127, 128, 129, 198, 199, 200, 201, 202, 252, 253, 254, 255, 256, 257, 300, 400, 5000, 90_000} {
			for _, sig := range []wide.W{wide.Of(1), {full, full}, bits(127, 0)} {
				checkSigns(t, high, rnd.Num{Exp: high.Exp - down, Sig: sig})
			}
		}
	}
}

// SU1, all of it, word for word: numbers of all lengths, with every distance between them that matters.
func TestExactAll(t *testing.T) {
	m := mixer{11}
	for distance := -400; distance <= 400; distance++ {
		for range 12 {
			x := rnd.Num{Exp: m.Below(2300) - 1300, Sig: m.sig(m.Below(129))}
			y := rnd.Num{Exp: x.Exp + distance, Sig: m.sig(m.Below(129))}
			checkSigns(t, x, y)
		}
	}
}

// SU1: differences of numbers close together.
func TestExactClose(t *testing.T) {
	m := mixer{13}
	for range 4000 {
		length := 1 + m.Below(128)
		x := rnd.Num{Exp: m.Below(2300) - 1300, Sig: m.sig(length)}
		y := x
		y.Sig[0] ^= uint64(m.Below(8))
		y.Sig[length/128] ^= 1 << uint(m.Below(min(length, 64)))
		checkSigns(t, x, y)
	}
}

// SU1: numbers far apart, up to all that may be.
func TestExactFar(t *testing.T) {
	m := mixer{17}
	for range 60 {
		x := rnd.Num{Exp: m.Below(200_001) - 100_000, Sig: m.sig(m.Below(129))}
		y := rnd.Num{Exp: m.Below(200_001) - 100_000, Sig: m.sig(m.Below(129))}
		checkSigns(t, x, y)
	}
}
