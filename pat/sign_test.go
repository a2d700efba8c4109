package pat_test

import (
	"testing"

	"tiller/pat"
)

// PT2, Neg and Abs: of every class, also of what is no number.
func TestNegAbs(t *testing.T) {
	for _, e := range edges() {
		below := e.p + minus
		for _, c := range []struct {
			what           string
			p, neg, abs    uint64
			gotNeg, gotAbs uint64
		}{
			{"above 0", e.p, below, e.p, pat.Neg(e.p), pat.Abs(e.p)},
			{"below 0", below, e.p, e.p, pat.Neg(below), pat.Abs(below)},
		} {
			if c.gotNeg != c.neg {
				t.Errorf("%s: Neg(%#x): %#x; want %#x", c.what, c.p, c.gotNeg, c.neg)
			}
			if c.gotAbs != c.abs {
				t.Errorf("%s: Abs(%#x): %#x; want %#x", c.what, c.p, c.gotAbs, c.abs)
			}
		}
	}
}

// PT2, Copy: every class with the sign of every class, what is no number on either side.
func TestCopy(t *testing.T) {
	for _, e := range bothSigns() {
		for _, other := range bothSigns() {
			want := e.p % minus
			if other.x.Minus {
				want += minus
			}
			if got := pat.Copy(e.p, other.p); got != want {
				t.Errorf("Copy(%#x, %#x): %#x; want %#x", e.p, other.p, got, want)
			}
		}
	}
}

// PT2: a sign that is turned, left out or copied changes nothing else of the parts.
func TestSignAlone(t *testing.T) {
	eachPattern(t, func(p uint64) bool {
		x := pat.Take(p)
		turned, above := x, x
		turned.Minus, above.Minus = !x.Minus, false
		return pat.Take(pat.Neg(p)) == turned && pat.Take(pat.Abs(p)) == above &&
			pat.Neg(pat.Neg(p)) == p &&
			pat.Copy(p, p) == p && pat.Copy(p, ^p) == pat.Neg(p) && pat.Copy(p, p<<1>>1) == pat.Abs(p)
	})
}
