package rnd_test

import (
	"math"
	"testing"

	"tiller/aid"
	"tiller/api"
	"tiller/rnd"
	"tiller/wide"
)

// wholeCase is a number that is not below 0 and the whole numbers it is rounded to by Even, Away, Zero, Up and Down; each is another number.
type wholeCase struct {
	what string
	x    rnd.Num
	want [5]wide.W
}

// apart is what is rounded to low, or to high: by Even and Away to those that are told.
func apart(even, away, low, high wide.W) [5]wide.W { return [5]wide.W{even, away, low, high, low} }

// small is apart of small numbers.
func small(even, away, low, high uint64) [5]wide.W {
	return apart(wide.Of(even), wide.Of(away), wide.Of(low), wide.Of(high))
}

func wantWhole(t *testing.T, what string, x rnd.Num, m api.Mode, want rnd.Num, other bool) {
	t.Helper()
	if got, ok := rnd.Whole(x, m); got != want || ok != other {
		t.Errorf("%s: Whole(%+v, %d): %+v, %v; want %+v, %v", what, x, m, got, ok, want, other)
	}
}

// RN2, Whole: halves with an even and an odd number below them, what is next to them, and a mode that is none, by both signs.
func TestWhole(t *testing.T) {
	for _, c := range []wholeCase{
		{"a half", rnd.Num{Exp: -1, Sig: wide.Of(1)}, small(0, 1, 0, 1)},
		{"a half, by More", rnd.Num{More: true}, small(0, 1, 0, 1)},
		{"a half, of 256 bits", rnd.Num{Exp: -256, Sig: power(255)}, small(0, 1, 0, 1)},
		{"a half and a bit", rnd.Num{Exp: -256, Sig: power(255), More: true}, small(1, 1, 0, 1)},
		{"a half but a bit", rnd.Num{Exp: -257, Sig: most, More: true}, small(0, 0, 0, 1)},
		{"a quarter", rnd.Num{Exp: -2, Sig: wide.Of(1)}, small(0, 0, 0, 1)},
		{"a quarter, by More", rnd.Num{Exp: -1, More: true}, small(0, 0, 0, 1)},
		{"three quarters", rnd.Num{Exp: -1, Sig: wide.Of(1), More: true}, small(1, 1, 0, 1)},
		{"one but a bit", rnd.Num{Exp: -256, Sig: most, More: true}, small(1, 1, 0, 1)},
		{"1.5", rnd.Num{Exp: -1, Sig: wide.Of(3)}, small(2, 2, 1, 2)},
		{"1.5, by More", rnd.Num{Sig: wide.Of(1), More: true}, small(2, 2, 1, 2)},
		{"2.5", rnd.Num{Exp: -1, Sig: wide.Of(5)}, small(2, 3, 2, 3)},
		{"2.5, by More", rnd.Num{Sig: wide.Of(2), More: true}, small(2, 3, 2, 3)},
		{"2.25", rnd.Num{Exp: -2, Sig: wide.Of(9)}, small(2, 2, 2, 3)},
		{"2.25, by More", rnd.Num{Exp: -1, Sig: wide.Of(4), More: true}, small(2, 2, 2, 3)},
		{"2.75, by More", rnd.Num{Exp: -1, Sig: wide.Of(5), More: true}, small(3, 3, 2, 3)},
		{"2^64 but a half", rnd.Num{Sig: wide.Of(full), More: true}, apart(power(64), power(64), wide.Of(full), power(64))},
		{"2^255 and a half", rnd.Num{Sig: power(255), More: true}, apart(power(255), wide.W{1, 0, 0, 1 << 63}, power(255), wide.W{1, 0, 0, 1 << 63})},
		{"2^256 but one and a half", rnd.Num{Sig: wide.W{full - 1, full, full, full}, More: true}, apart(wide.W{full - 1, full, full, full}, most, wide.W{full - 1, full, full, full}, most)},
		{"2^255 but a half", rnd.Num{Exp: -1, Sig: most}, apart(power(255), power(255), below(255), power(255))},
		{"2^255 but a quarter", rnd.Num{Exp: -1, Sig: most, More: true}, apart(power(255), power(255), below(255), power(255))},
		{"2^255 but three quarters", rnd.Num{Exp: -1, Sig: wide.W{full - 1, full, full, full}, More: true}, apart(below(255), below(255), below(255), power(255))},
	} {
		mirror := c.want
		mirror[api.Up], mirror[api.Down] = mirror[api.Down], mirror[api.Up]
		x := c.x
		x.Minus = true
		for m := range c.want {
			wantWhole(t, c.what, c.x, api.Mode(m), rnd.Num{Sig: c.want[m]}, true)
			wantWhole(t, c.what, x, api.Mode(m), rnd.Num{Minus: true, Sig: mirror[m]}, true)
		}
		for _, m := range aid.NoModes() {
			wantWhole(t, c.what, c.x, m, rnd.Num{Sig: c.want[api.Even]}, true)
			wantWhole(t, c.what, x, m, rnd.Num{Minus: true, Sig: c.want[api.Even]}, true)
		}
	}
}

// RN2, Whole: up to 2^256, that has no room with Exp 0.
func TestWholeGreatest(t *testing.T) {
	for _, below0 := range []bool{false, true} {
		x := rnd.Num{Minus: below0, Sig: most, More: true}
		up := rnd.Num{Minus: below0, Exp: 1, Sig: power(255)}
		down := rnd.Num{Minus: below0, Sig: most}
		for _, m := range append(aid.NoModes(), api.Even, api.Away) {
			wantWhole(t, "2^256 but a half", x, m, up, true)
		}
		wantWhole(t, "2^256 but a half", x, api.Zero, down, true)
		if below0 {
			up, down = down, up
		}
		wantWhole(t, "2^256 but a half", x, api.Up, up, true)
		wantWhole(t, "2^256 but a half", x, api.Down, down, true)
	}
}

// RN2, Whole: what is whole by its Exp stays as it is told, the size 0 and what is far beyond 2^256, too.
func TestWholeStays(t *testing.T) {
	for _, x := range []rnd.Num{
		{},
		{Sig: wide.Of(1)},
		{Sig: most},
		{Exp: 1},
		{Exp: 1, More: true},
		{Exp: 1, Sig: wide.Of(1), More: true},
		{Exp: 1, Sig: most, More: true},
		{Exp: 971, Sig: wide.Of(1<<53 - 1)},
		{Exp: 2001, Sig: most, More: true},
		{Exp: math.MaxInt},
		{Exp: math.MaxInt, Sig: most, More: true},
	} {
		for _, x.Minus = range []bool{false, true} {
			for _, m := range aid.AllModes() {
				wantWhole(t, "whole", x, m, x, false)
			}
		}
	}
}

// RN2, Whole: whole numbers with Exp below 0, and 0, are told with Exp 0, and are no other ones.
func TestWholeSame(t *testing.T) {
	for _, c := range []struct {
		x    rnd.Num
		want wide.W
	}{
		{rnd.Num{Exp: -1}, wide.W{}},
		{rnd.Num{Exp: -1074}, wide.W{}},
		{rnd.Num{Exp: -2001}, wide.W{}},
		{rnd.Num{Exp: math.MinInt}, wide.W{}},
		{rnd.Num{Exp: -1, Sig: wide.Of(2)}, wide.Of(1)},
		{rnd.Num{Exp: -52, Sig: wide.Of(1 << 52)}, wide.Of(1)},
		{rnd.Num{Exp: -52, Sig: wide.Of(3 << 52)}, wide.Of(3)},
		{rnd.Num{Exp: -255, Sig: power(255)}, wide.Of(1)},
		{rnd.Num{Exp: -64, Sig: wide.W{0, full, full, full}}, below(192)},
		{rnd.Num{Exp: -1, Sig: power(255)}, power(254)},
	} {
		for _, below0 := range []bool{false, true} {
			c.x.Minus = below0
			for _, m := range aid.AllModes() {
				wantWhole(t, "the same", c.x, m, rnd.Num{Minus: below0, Sig: c.want}, false)
			}
		}
	}
}

// RN2, Whole: of Exp far below.
func TestWholeFar(t *testing.T) {
	for _, x := range []rnd.Num{{Sig: wide.Of(1)}, {More: true}, {Sig: power(255)}, {Sig: most}, {Sig: most, More: true}} {
		for _, exp := range []int{-258, -259, -300, -512, -1074, -1999, -2000, -2001, -4096, -100_000, -1 << 31, -1 << 32, math.MinInt + 256, math.MinInt + 1, math.MinInt} {
			for _, below0 := range []bool{false, true} {
				x.Exp, x.Minus = exp, below0
				for _, m := range aid.AllModes() {
					want := rnd.Num{Minus: below0}
					if m == api.Up && !below0 || m == api.Down && below0 {
						want.Sig = wide.Of(1)
					}
					wantWhole(t, "far below", x, m, want, true)
				}
			}
		}
	}
}

// RN2, Whole, all of it, word for word: numbers of all lengths, with every number of bits behind the point.
func TestWholeAll(t *testing.T) {
	m := mixer{5}
	for exp := -300; exp <= 3; exp++ {
		for bits := 0; bits <= 256; bits += 1 + int(m.Word()%7) {
			sig := m.wide(bits)
			if down := -exp; down >= 0 && down <= bits && m.Word()%4 > 0 {
				sig = m.nearHalf(bits, down)
			}
			x := rnd.Num{Minus: m.Word()%2 == 0, Exp: exp, Sig: sig, More: m.Word()%2 == 0}
			for _, mode := range append(aid.Modes(), m.Mode()) {
				checkWhole(t, x, mode)
			}
		}
	}
}

// RN2, Whole, all of it, word for word: all small numbers.
func TestWholeSmallAll(t *testing.T) {
	for exp := -6; exp <= 2; exp++ {
		for sig := range uint64(300) {
			for _, x := range []rnd.Num{{}, {More: true}, {Minus: true}, {Minus: true, More: true}} {
				x.Exp, x.Sig = exp, wide.Of(sig)
				for _, m := range aid.Modes() {
					checkWhole(t, x, m)
				}
			}
		}
	}
}
