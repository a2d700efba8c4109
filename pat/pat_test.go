package pat_test

import (
	"fmt"
	"math"
	"math/big"
	"testing"

	"tiller/aid"
	"tiller/api"
	"tiller/pat"
)

// PT1, Take: every class, both signs, the least and the greatest of each.
func TestTake(t *testing.T) {
	for _, e := range bothSigns() {
		if got := pat.Take(e.p); got != e.x {
			t.Errorf("Take(%#x): %+v; want %+v", e.p, got, e.x)
		}
	}
}

// PT1, Take: the number of each class.
func TestClassNumbers(t *testing.T) {
	got := [...]int{pat.Nought, pat.Tiny, pat.Plain, pat.Endless, pat.Quiet, pat.Loud}
	if got != [...]int{0, 1, 2, 3, 4, 5} {
		t.Errorf("classes: %v", got)
	}
	for p, class := range map[uint64]int{0: pat.Nought, 1: pat.Tiny, api.One: pat.Plain, api.Inf: pat.Endless, api.NaN: pat.Quiet, api.Inf + 1: pat.Loud} {
		if got := pat.Class(p); got != class {
			t.Errorf("Class(%#x): %d; want %d", p, got, class)
		}
	}
}

// PT1, Class, IsNaN, Finite.
func TestClass(t *testing.T) {
	for _, e := range bothSigns() {
		if got := pat.Class(e.p); got != e.x.Class {
			t.Errorf("Class(%#x): %d; want %d", e.p, got, e.x.Class)
		}
		if got := pat.IsNaN(e.p); got != (e.x.Class == 4 || e.x.Class == 5) {
			t.Errorf("IsNaN(%#x): %v", e.p, got)
		}
		if got := pat.Finite(e.p); got != (e.x.Class <= 2) {
			t.Errorf("Finite(%#x): %v", e.p, got)
		}
	}
}

// PT1, all of it, by the chapter's words: of every exponent.
func TestTakeAll(t *testing.T) {
	eachPattern(t, func(p uint64) bool {
		x, want := pat.Take(p), wordForWord(p)
		return x == want && pat.Class(p) == want.Class && pat.IsNaN(p) == (want.Class >= 4) && pat.Finite(p) == (want.Class < 3)
	})
}

// wordForWord is a pattern's parts as the chapter tells them, from its digits of base 2.
func wordForWord(p uint64) pat.Parts {
	bits := fmt.Sprintf("%064b", p)
	var e int
	var f uint64
	fmt.Sscanf(bits[1:12], "%b", &e)
	fmt.Sscanf(bits[12:], "%b", &f)
	x := pat.Parts{Minus: bits[0] == '1', Sig: f}
	switch {
	case e == 2047 && f == 0:
		x.Class = 3
	case e == 2047 && bits[12] == '1':
		x.Class = 4
	case e == 2047:
		x.Class = 5
	case e == 0 && f == 0:
		x.Class, x.Exp = 0, -1074
	case e == 0:
		x.Class, x.Exp = 1, -1074
	default:
		x.Class, x.Exp, x.Sig = 2, e-1075, f+1<<52
	}
	return x
}

// value is the number of finite parts, in units of 2^-1074.
func value(x pat.Parts) *big.Int {
	v := new(big.Int).SetUint64(x.Sig)
	v.Lsh(v, uint(x.Exp+1074))
	if x.Minus {
		v.Neg(v)
	}
	return v
}

// PT1, Take: from each finite pattern to the next one the value grows by its lowest bit's, so that none is left out, over the bounds of the classes too.
func TestValuesGrow(t *testing.T) {
	eachPattern(t, func(p uint64) bool {
		if !pat.Finite(p) || !pat.Finite(p+1) {
			return true
		}
		x, next := pat.Take(p), pat.Take(p+1)
		step := pat.Parts{Minus: x.Minus, Exp: x.Exp, Sig: 1}
		return new(big.Int).Sub(value(next), value(x)).Cmp(value(step)) == 0
	})
}

// PT1, Make.
func TestMake(t *testing.T) {
	for _, e := range bothSigns() {
		got, err := pat.Make(e.x)
		wantPattern(t, fmt.Sprintf("Make(%+v)", e.x), got, err, e.p)
	}
}

// PT1, Make: parts that may not be.
func TestMakeNone(t *testing.T) {
	for _, x := range []pat.Parts{
		{},
		{Class: -1, Exp: -1074},
		{Class: 6, Exp: -1074},
		{Class: 6, Sig: half},
		{Class: math.MinInt},
		{Class: math.MaxInt},
		{Class: 256, Exp: -1074},
		{Class: 256 + pat.Plain, Exp: -52, Sig: leading},
		// Nought
		{Class: pat.Nought, Exp: -1073},
		{Class: pat.Nought, Exp: -1075},
		{Class: pat.Nought, Exp: -1074, Sig: 1},
		{Class: pat.Nought, Exp: -1074, Sig: leading},
		{Class: pat.Nought, Exp: -1074, Sig: minus},
		// Tiny
		{Class: pat.Tiny, Exp: -1074},
		{Class: pat.Tiny, Exp: 0, Sig: 1},
		{Class: pat.Tiny, Exp: -1073, Sig: 1},
		{Class: pat.Tiny, Exp: -1075, Sig: 1},
		{Class: pat.Tiny, Exp: -1074, Sig: leading},
		{Class: pat.Tiny, Exp: -1074, Sig: leading + 1},
		{Class: pat.Tiny, Exp: -1074, Sig: math.MaxUint64},
		// Plain
		{Class: pat.Plain},
		{Class: pat.Plain, Exp: -52, Sig: 0},
		{Class: pat.Plain, Exp: -52, Sig: 1},
		{Class: pat.Plain, Exp: -52, Sig: leading - 1},
		{Class: pat.Plain, Exp: -52, Sig: 2 * leading},
		{Class: pat.Plain, Exp: -52, Sig: 3 * leading},
		{Class: pat.Plain, Exp: -52, Sig: leading + minus},
		{Class: pat.Plain, Exp: -52, Sig: math.MaxUint64},
		{Class: pat.Plain, Exp: -1075, Sig: leading},
		{Class: pat.Plain, Exp: -1076, Sig: leading},
		{Class: pat.Plain, Exp: 972, Sig: leading},
		{Class: pat.Plain, Exp: 973, Sig: leading},
		{Class: pat.Plain, Exp: 2048 - 52, Sig: leading},
		{Class: pat.Plain, Exp: -2048 - 52, Sig: leading},
		{Class: pat.Plain, Exp: 4096 - 52, Sig: leading},
		{Class: pat.Plain, Exp: 1<<32 - 52, Sig: leading},
		{Class: pat.Plain, Exp: math.MinInt, Sig: leading},
		{Class: pat.Plain, Exp: math.MaxInt, Sig: leading},
		{Class: pat.Plain, Exp: math.MaxInt - 1075, Sig: leading},
		// Endless
		{Class: pat.Endless, Exp: 1},
		{Class: pat.Endless, Exp: -1},
		{Class: pat.Endless, Exp: 972},
		{Class: pat.Endless, Exp: 972, Sig: leading},
		{Class: pat.Endless, Sig: 1},
		{Class: pat.Endless, Sig: half},
		{Class: pat.Endless, Sig: leading},
		{Class: pat.Endless, Sig: api.Inf},
		// Quiet
		{Class: pat.Quiet},
		{Class: pat.Quiet, Sig: 1},
		{Class: pat.Quiet, Sig: half - 1},
		{Class: pat.Quiet, Sig: leading},
		{Class: pat.Quiet, Sig: leading + half},
		{Class: pat.Quiet, Sig: api.NaN},
		{Class: pat.Quiet, Exp: 1, Sig: half},
		{Class: pat.Quiet, Exp: -1074, Sig: half},
		// Loud
		{Class: pat.Loud},
		{Class: pat.Loud, Sig: half},
		{Class: pat.Loud, Sig: half + 1},
		{Class: pat.Loud, Sig: allFrac},
		{Class: pat.Loud, Sig: leading},
		{Class: pat.Loud, Sig: leading + 1},
		{Class: pat.Loud, Sig: api.Inf + 1},
		{Class: pat.Loud, Exp: 1, Sig: 1},
		{Class: pat.Loud, Exp: 972, Sig: 1},
	} {
		for _, x.Minus = range []bool{false, true} {
			got, err := pat.Make(x)
			wantError(t, fmt.Sprintf("Make(%+v)", x), got, err, api.ErrArg)
		}
	}
}

// PT3: Make of Take is the pattern.
func TestMakeOfTake(t *testing.T) {
	eachPattern(t, func(p uint64) bool {
		got, err := pat.Make(pat.Take(p))
		return got == p && err == nil
	})
}

// PT3: Take of Make are the parts, and whatever parts are near those of a pattern are those of one, or may not be.
func TestTakeOfMake(t *testing.T) {
	eachPattern(t, func(p uint64) bool {
		for _, x := range near(pat.Take(p)) {
			q, err := pat.Make(x)
			if err == nil && pat.Take(q) != x {
				return false
			}
			if err != nil && (q != 0 || aid.Errno(err) != int(api.ErrArg) || may(x)) {
				return false
			}
		}
		return true
	})
}

// near are parts, and those with one thing changed.
func near(x pat.Parts) []pat.Parts {
	all := []pat.Parts{x}
	for class := -1; class <= 6; class++ {
		y := x
		y.Class = class
		all = append(all, y)
	}
	for _, exp := range []int{0, x.Exp - 1, x.Exp + 1, x.Exp - 2048, x.Exp + 2048, -1075, -1074, 971, 972} {
		y := x
		y.Exp = exp
		all = append(all, y)
	}
	for _, sig := range []uint64{0, x.Sig ^ leading, x.Sig ^ half, x.Sig ^ 2*leading, x.Sig ^ minus, x.Sig + 1, x.Sig - 1} {
		y := x
		y.Sig = sig
		all = append(all, y)
	}
	return all
}

// may tells whether parts are those of a pattern, by the bounds of each class.
func may(x pat.Parts) bool {
	switch x.Class {
	case 0:
		return x.Exp == -1074 && x.Sig == 0
	case 1:
		return x.Exp == -1074 && x.Sig >= 1 && x.Sig < 1<<52
	case 2:
		return x.Exp >= -1074 && x.Exp <= 971 && x.Sig >= 1<<52 && x.Sig < 1<<53
	case 3:
		return x.Exp == 0 && x.Sig == 0
	case 4:
		return x.Exp == 0 && x.Sig >= 1<<51 && x.Sig < 1<<52
	case 5:
		return x.Exp == 0 && x.Sig >= 1 && x.Sig < 1<<51
	}
	return false
}
