package sums_test

import (
	"math"
	"testing"

	"tiller/api"
	"tiller/rnd"
	"tiller/sums"
	"tiller/wide"
)

// answers are all that the calls tell of two numbers, two patterns and a mode.
type answers struct {
	exact           rnd.Num
	err             error
	sum, difference answer
}

func ask(x, y rnd.Num, a, b uint64, m api.Mode) answers {
	var z answers
	z.exact, z.err = sums.Exact(x, y, m)
	z.sum.p, z.sum.f = sums.Add(a, b, m)
	z.difference.p, z.difference.f = sums.Sub(a, b, m)
	return z
}

// P7: every call ends, answers the same again, whatever was asked between, and leaves its arguments, at all of them.
func TestTotalAndAlone(t *testing.T) {
	var all []rnd.Num
	for _, exp := range []int{math.MinInt, math.MinInt + 1, -1 << 32, -100_001, -100_000, -1074, 0, 971, 100_000, 100_001, 1 << 32, math.MaxInt - 1, math.MaxInt} {
		for _, sig := range []wide.W{{}, wide.Of(1), {full, full}, {2: 1}, {full, full, full, full}} {
			for _, more := range []bool{false, true} {
				all = append(all, rnd.Num{Exp: exp, Sig: sig, More: more}, rnd.Num{Minus: true, Exp: exp, Sig: sig, More: more})
			}
		}
	}
	m := mixer{19}
	for _, x := range all {
		for _, y := range all {
			mode := m.Mode()
			a, b := m.Word(), m.Word()
			if m.Below(2) == 0 {
				a |= inf
			}
			c, d := x, y
			first := ask(c, d, a, b, mode)
			ask(y, rnd.Num{Sig: wide.Of(m.Word())}, m.Word(), a, api.Mode(m.Word()))
			if again := ask(c, d, a, b, mode); again != first {
				t.Fatalf("%+v, %+v, %#x, %#x, %d: %+v, then %+v", x, y, a, b, mode, first, again)
			}
			if c != x || d != y {
				t.Fatalf("%+v, %+v: changed to %+v, %+v", x, y, c, d)
			}
			if first.err != nil && first.exact != (rnd.Num{}) {
				t.Fatalf("Exact(%+v, %+v): %+v beside %v", x, y, first.exact, first.err)
			}
		}
	}
}
