package rnd_test

import (
	"math"
	"math/big"
	"testing"

	"tiller/aid"
	"tiller/api"
	"tiller/rnd"
	"tiller/wide"
)

const (
	minus = 1 << 63
	full  = math.MaxUint64
	far   = 3000 // how far down the exact sizes of numbers are counted
)

// most is 2^256 - 1.
var most = wide.W{full, full, full, full}

// power is 2^n, made without the calls of wide.
func power(n int) wide.W {
	var w wide.W
	w[n/64] = 1 << uint(n%64)
	return w
}

// below is 2^n - 1, made without the calls of wide.
func below(n int) wide.W {
	var w wide.W
	for i := range n {
		w[i/64] |= 1 << uint(i%64)
	}
	return w
}

func toBig(w wide.W) *big.Int {
	b := new(big.Int)
	for i := len(w) - 1; i >= 0; i-- {
		b.Lsh(b, 64)
		b.Or(b, new(big.Int).SetUint64(w[i]))
	}
	return b
}

// units is 2^n, counted in units of 2^-far.
func units(n int) *big.Int { return new(big.Int).Lsh(big.NewInt(1), uint(n+far)) }

// size is a number's size, in units of 2^-far, as the chapter tells it.
func size(x rnd.Num) *big.Int {
	v := new(big.Int).Mul(toBig(x.Sig), units(x.Exp))
	if x.More {
		v.Add(v, units(x.Exp-1))
	}
	return v
}

// sizeOf is a finite pattern's size, in units of 2^-far, as chapter 3 tells it.
func sizeOf(p uint64) *big.Int {
	e, f := int(p>>52&2047), p&(1<<52-1)
	if e == 0 {
		return new(big.Int).Mul(new(big.Int).SetUint64(f), units(-1074))
	}
	return new(big.Int).Mul(new(big.Int).SetUint64(f+1<<52), units(e-1075))
}

// multiple is a size, rounded to multiples of u word for word as the chapter has it.
func multiple(v, u *big.Int, below0 bool, m api.Mode) *big.Int {
	count, rest := new(big.Int).QuoRem(v, u, new(big.Int))
	if rest.Sign() == 0 {
		return v
	}
	less := new(big.Int).Mul(count, u)
	greater := new(big.Int).Add(less, u)
	switch {
	case m == api.Zero, m == api.Up && below0, m == api.Down && !below0:
		return less
	case m == api.Up, m == api.Down:
		return greater
	}
	down, up := new(big.Int).Sub(v, less), new(big.Int).Sub(greater, v)
	switch down.Cmp(up) {
	case -1:
		return less
	case 1:
		return greater
	}
	if m == api.Away || count.Bit(0) == 1 {
		return greater
	}
	return less
}

// wanted is what a number is rounded to: its size, or the pattern that stands for it, if it is too great, and the flags.
func wanted(x rnd.Num, m api.Mode) (*big.Int, uint64, api.Flags) {
	v := size(x)
	if v.Sign() == 0 {
		return v, 0, 0
	}
	n := v.BitLen() - 1 - far
	quantum := units(max(n-52, -1074))
	r := multiple(v, quantum, x.Minus, m)
	switch {
	case r.Cmp(units(1024)) >= 0 && (m == api.Zero || m == api.Up && x.Minus || m == api.Down && !x.Minus):
		return nil, 0x7fefffffffffffff, api.Overflow | api.Inexact
	case r.Cmp(units(1024)) >= 0:
		return nil, 0x7ff0000000000000, api.Overflow | api.Inexact
	case r.Cmp(v) == 0:
		return r, 0, 0
	case multiple(v, units(n-52), x.Minus, m).Cmp(units(-1022)) < 0:
		return r, 0, api.Underflow | api.Inexact
	}
	return r, 0, api.Inexact
}

// checkRound tells whether Round answers what is wanted.
func checkRound(t *testing.T, x rnd.Num, m api.Mode) {
	t.Helper()
	p, f := rnd.Round(x, m)
	v, great, flags := wanted(x, m)
	above := p &^ minus
	ok := f == flags && (p != above) == x.Minus
	if v == nil {
		ok = ok && above == great
	} else {
		ok = ok && above < api.Inf && sizeOf(above).Cmp(v) == 0
	}
	if !ok {
		t.Fatalf("Round(%+v, %d): %#x, %d; want the size %v (%#x), %d", x, m, p, f, v, great, flags)
	}
}

// checkWhole tells whether Whole answers what is wanted.
func checkWhole(t *testing.T, x rnd.Num, m api.Mode) {
	t.Helper()
	got, other := rnd.Whole(x, m)
	if x.Exp > 0 || x.Exp == 0 && !x.More {
		if got != x || other {
			t.Fatalf("Whole(%+v, %d): %+v, %v; want it itself", x, m, got, other)
		}
		return
	}
	v := size(x)
	want := multiple(v, units(0), x.Minus, m)
	ok := other == (want.Cmp(v) != 0) && got.Minus == x.Minus && !got.More && size(got).Cmp(want) == 0
	if want.Cmp(units(256)) == 0 {
		ok = ok && got.Exp == 1 && got.Sig == power(255)
	} else {
		ok = ok && got.Exp == 0
	}
	if !ok {
		t.Fatalf("Whole(%+v, %d): %+v, %v; want the size %v", x, m, got, other, want)
	}
}

// mixer makes odd numbers, and numbers of this layer by them.
type mixer struct{ aid.Mixer }

// wide is a number of just so many bits.
func (m *mixer) wide(bits int) wide.W {
	if bits == 0 {
		return wide.W{}
	}
	w, mask, top := wide.W{m.Word(), m.Word(), m.Word(), m.Word()}, below(bits), power(bits-1)
	for i := range w {
		w[i] = w[i]&mask[i] | top[i]
	}
	return w
}

// nearHalf is a number of so many bits that lies at, or next to, a multiple of 2^down, or halfway between two.
func (m *mixer) nearHalf(bits, down int) wide.W {
	w, mask := m.wide(bits), below(down)
	for i := range w {
		w[i] &^= mask[i]
	}
	if down > 0 && m.Word()%4 > 0 {
		middle := power(down - 1)
		for i := range w {
			w[i] |= middle[i]
		}
	}
	change := m.Word() % 3
	switch {
	case change == 1 && w != most:
		w, _ = wide.Add(w, wide.Of(1))
	case change == 2 && w != wide.W{}:
		w, _ = wide.Sub(w, wide.Of(1))
	}
	return w
}

// num is a number of either sign whose highest bit is some 2^n, of any length; most lie where Round decides.
func (m *mixer) num(n int) rnd.Num {
	bits := int(m.Word() % 257)
	sig := m.wide(bits)
	if m.Word()%2 == 0 {
		// Where the quantum lies, for a size that has more bits than that.
		down := max(bits-53, -1074-(n-bits+1), 0)
		if down <= bits {
			sig = m.nearHalf(bits, down)
		}
	}
	return rnd.Num{Minus: m.Word()%2 == 0, Exp: n - bits + 1, Sig: sig, More: m.Word()%2 == 0}
}

// eachPattern calls try with finite patterns of every exponent and both signs, of edge fractions and of odd ones.
func eachPattern(t *testing.T, try func(p uint64) bool) {
	t.Helper()
	m := mixer{7}
	for exponent := range uint64(2047) {
		for _, f := range []uint64{0, 1, 2, 1<<51 - 1, 1 << 51, 1<<51 + 1, 1<<52 - 2, 1<<52 - 1, m.Word() >> 12, m.Word() >> 12} {
			for _, sign := range []uint64{0, minus} {
				if p := sign + exponent<<52 + f; !try(p) {
					t.Fatalf("at %#x", p)
				}
			}
		}
	}
}
