package whole_test

import (
	"testing"

	"tiller/api"
)

// answers are all that the calls tell of two patterns and a mode.
type answers struct{ rem, mod, told, untold answer }

func ask(a, b uint64, m api.Mode) answers {
	return answers{rem(a, b), mod(a, b), round(a, m, true), round(a, m, false)}
}

// P7: every call ends, and answers the same again, whatever was asked between, at all arguments.
func TestTotalAndAlone(t *testing.T) {
	m := mixer{19}
	for range 20 {
		for _, a := range append(patterns, m.Word()) {
			for _, b := range append(patterns, m.Word()) {
				mode := m.Mode()
				first := ask(a, b, mode)
				ask(m.Word(), m.any(), api.Mode(m.Word()))
				if again := ask(a, b, mode); again != first {
					t.Fatalf("%#x, %#x, %d: %+v, then %+v", a, b, mode, first, again)
				}
			}
		}
	}
}
