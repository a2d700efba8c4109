package cplx_test

import (
	"testing"

	"tiller/api"
	"tiller/cplx"
)

// answers are all that the calls tell of three pairs and a pattern.
type answers struct {
	sum, difference, product, scaled, more, parted answer
	conj, forth, back                              api.Pair
}

func ask(x, y, to api.Pair, by uint64) answers {
	return answers{
		sum:        got(cplx.Add(x, y)),
		difference: got(cplx.Sub(x, y)),
		product:    got(cplx.Mul(x, y)),
		scaled:     got(cplx.Scale(x, by)),
		more:       got(cplx.More(x, by, to)),
		parted:     got(cplx.Div(x, by)),
		conj:       cplx.Conj(x),
		forth:      cplx.Turn(x, false),
		back:       cplx.Turn(x, true),
	}
}

// P7: every call ends, and answers the same again, whatever was asked between, at all arguments.
func TestTotalAndAlone(t *testing.T) {
	m := mixer{53}
	for _, a := range patterns {
		for _, b := range patterns {
			x, y, to, by := pair(a, b), m.pair(), m.pair(), m.any()
			first := ask(x, y, to, by)
			ask(y, m.pair(), x, m.Word())
			if again := ask(x, y, to, by); again != first {
				t.Fatalf("%#x, %#x, %#x, %#x: %+v, then %+v", x, y, to, by, first, again)
			}
		}
	}
}
