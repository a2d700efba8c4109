package rnd_test

import (
	"math/big"
	"slices"
	"testing"

	"tiller/aid"
	"tiller/api"
	"tiller/rnd"
	"tiller/wide"
)

// RN2, Of.
func TestOf(t *testing.T) {
	for _, c := range []struct {
		p uint64
		x rnd.Num
	}{
		{0, rnd.Num{Exp: -1074}},
		{1, rnd.Num{Exp: -1074, Sig: wide.Of(1)}},
		{leastBig - 1, rnd.Num{Exp: -1074, Sig: wide.Of(1<<52 - 1)}},
		{leastBig, rnd.Num{Exp: -1074, Sig: wide.Of(1 << 52)}},
		{2 * leastBig, rnd.Num{Exp: -1073, Sig: wide.Of(1 << 52)}},
		{0x3fb999999999999a, rnd.Num{Exp: -56, Sig: wide.Of(0x1999999999999a)}},
		{one, rnd.Num{Exp: -52, Sig: wide.Of(1 << 52)}},
		{0x4330000000000000, rnd.Num{Exp: 0, Sig: wide.Of(1 << 52)}},
		{last, rnd.Num{Exp: 971, Sig: wide.Of(1<<53 - 1)}},
	} {
		for _, sign := range []uint64{0, minus} {
			c.x.Minus = sign != 0
			if x, err := rnd.Of(c.p + sign); x != c.x || err != nil {
				t.Errorf("Of(%#x): %+v, %v; want %+v", c.p+sign, x, err, c.x)
			}
		}
	}
}

// RN2, Of: patterns that are not finite.
func TestOfNone(t *testing.T) {
	for _, p := range []uint64{inf, inf + 1, 0x7ff4000000000000, 0x7ff7ffffffffffff, 0x7ff8000000000000, 0x7ff8000000000001, 0x7fffffffffffffff} {
		for _, sign := range []uint64{0, minus} {
			if x, err := rnd.Of(p + sign); x != (rnd.Num{}) || aid.Errno(err) != 1 {
				t.Errorf("Of(%#x): %+v, %v; want error 1", p+sign, x, err)
			}
		}
	}
}

// RN2, Of: of every exponent it is the number that the pattern stands for.
func TestOfAll(t *testing.T) {
	eachPattern(t, func(p uint64) bool {
		x, err := rnd.Of(p)
		return err == nil && x.Minus == (p >= minus) && !x.More && size(x).Cmp(sizeOf(p)) == 0
	})
}

// RN3: what a pattern is made of is rounded to it, by every mode, however many bits it is told with.
func TestRoundOfOf(t *testing.T) {
	m := mixer{13}
	all := aid.AllModes()
	eachPattern(t, func(p uint64) bool {
		x, _ := rnd.Of(p)
		up := int(m.Word() % 204)
		longer := rnd.Num{Minus: x.Minus, Exp: x.Exp - up, Sig: wide.Shl(x.Sig, up)}
		shorter := rnd.Num{Minus: x.Minus, Exp: x.Exp + 1, More: wide.Bit(x.Sig, 0) != 0}
		shorter.Sig, _ = wide.Shr(x.Sig, 1)
		for _, y := range []rnd.Num{x, longer, shorter} {
			for _, mode := range all {
				if q, f := rnd.Round(y, mode); q != p || f != 0 {
					t.Errorf("Round(%+v, %d): %#x, %d", y, mode, q, f)
					return false
				}
			}
		}
		return true
	})
}

// place is where a pattern that is a number stands in the order of all; -0 and 0 stand at one place.
func place(p uint64) int64 {
	if p >= minus {
		return -int64(p - minus)
	}
	return int64(p)
}

// value is a number, in units of 2^-far.
func value(x rnd.Num) *big.Int {
	v := size(x)
	if x.Minus {
		v.Neg(v)
	}
	return v
}

// crowd are numbers of both signs, many of them close together: next to the edges, next to patterns and halfway between those, and odd ones.
func crowd() []rnd.Num {
	m := mixer{17}
	var all []rnd.Num
	for n := -1090; n <= 1034; n++ {
		count := 1
		if n < -1015 || n > 1015 {
			count = 20
		}
		for range count {
			x := m.num(n)
			all = append(all, x)
			for _, less := range []uint64{1, 2} {
				y := x
				y.Sig, _ = wide.Sub(x.Sig, wide.Of(less))
				y.More = !x.More
				if wide.Cmp(x.Sig, wide.Of(less)) >= 0 {
					all = append(all, y)
				}
			}
		}
	}
	for sig := range uint64(40) {
		for _, base := range []wide.W{{}, wide.Of(1<<55 - 20), wide.Of(1<<54 - 20)} {
			base[0] += sig
			for _, exp := range []int{-1078, -1077, -1076, -55, 0, 968, 969, 970} {
				all = append(all, rnd.Num{Exp: exp, Sig: base}, rnd.Num{Exp: exp, Sig: base, More: true}, rnd.Num{Minus: true, Exp: exp, Sig: base, More: true})
			}
		}
	}
	return all
}

// RN3: of two numbers the greater one is never rounded to a less one.
func TestRoundKeepsOrder(t *testing.T) {
	type placed struct {
		x rnd.Num
		v *big.Int
	}
	var all []placed
	for _, x := range crowd() {
		all = append(all, placed{x, value(x)})
	}
	slices.SortStableFunc(all, func(a, b placed) int { return a.v.Cmp(b.v) })
	for _, m := range append(aid.Modes(), -1) {
		for i := range all[1:] {
			low, _ := rnd.Round(all[i].x, m)
			high, _ := rnd.Round(all[i+1].x, m)
			if place(low) > place(high) {
				t.Fatalf("mode %d: %+v is %#x, and the greater %+v %#x", m, all[i].x, low, all[i+1].x, high)
			}
			if all[i].v.Cmp(all[i+1].v) == 0 && place(low) != place(high) {
				t.Fatalf("mode %d: %+v is %#x, and the same number %+v %#x", m, all[i].x, low, all[i+1].x, high)
			}
		}
	}
}

// RN3: by no mode does one go past the patterns on both sides: Zero, Up and Down hold Even and Away between them.
func TestRoundSides(t *testing.T) {
	for _, x := range crowd() {
		down, _ := rnd.Round(x, api.Down)
		up, _ := rnd.Round(x, api.Up)
		for _, m := range []api.Mode{api.Even, api.Away, api.Zero} {
			p, _ := rnd.Round(x, m)
			if p != down && p != up {
				t.Fatalf("Round(%+v, %d): %#x, neither %#x nor %#x", x, m, p, down, up)
			}
		}
		if place(up)-place(down) > 1 || place(up) < place(down) {
			t.Fatalf("Round(%+v): %#x, %#x", x, down, up)
		}
	}
}
