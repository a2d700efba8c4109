package quot_test

import (
	"testing"

	"tiller/api"
	"tiller/quot"
)

// answers are all that the calls tell of two patterns and a mode.
type answers struct{ quotient, root answer }

func ask(a, b uint64, m api.Mode) answers {
	var z answers
	z.quotient.p, z.quotient.f = quot.Div(a, b, m)
	z.root.p, z.root.f = quot.Sqrt(a, m)
	return z
}

// P7: every call ends, and answers the same again, whatever was asked between, at all arguments.
func TestTotalAndAlone(t *testing.T) {
	m := mixer{19}
	for range 20 {
		for _, a := range append(patterns, m.Word()) {
			for _, b := range append(patterns, m.Word()) {
				mode := m.Mode()
				first := ask(a, b, mode)
				ask(m.Word(), m.any(), api.Mode(m.Word()))
				if again := ask(a, b, mode); again != first {
					t.Fatalf("%#x, %#x, %d: %+v, then %+v", a, b, mode, first, again)
				}
			}
		}
	}
}
