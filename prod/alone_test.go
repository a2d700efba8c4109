package prod_test

import (
	"testing"

	"tiller/api"
	"tiller/prod"
)

// answers are all that the calls tell of three patterns and a mode.
type answers struct{ product, sum answer }

func ask(a, b, c uint64, m api.Mode) answers {
	var z answers
	z.product.p, z.product.f = prod.Mul(a, b, m)
	z.sum.p, z.sum.f = prod.Fma(a, b, c, m)
	return z
}

// P7: every call ends, and answers the same again, whatever was asked between, at all arguments.
func TestTotalAndAlone(t *testing.T) {
	m := mixer{19}
	for _, a := range patterns {
		for _, b := range patterns {
			for _, c := range append(patterns, m.Word()) {
				mode := m.Mode()
				first := ask(a, b, c, mode)
				ask(m.Word(), c, m.any(), api.Mode(m.Word()))
				if again := ask(a, b, c, mode); again != first {
					t.Fatalf("%#x, %#x, %#x, %d: %+v, then %+v", a, b, c, mode, first, again)
				}
			}
		}
	}
}
