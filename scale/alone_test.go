package scale_test

import (
	"testing"

	"tiller/api"
)

// answers are all that the calls tell of a pattern, a power and a mode.
type answers struct{ scaled, log, up, down, step answer }

func ask(a uint64, n int, m api.Mode) answers {
	return answers{scaled(a, n, m), log.of(a), up.of(a), down.of(a), step.of(a)}
}

// P7: every call ends, and answers the same again, whatever was asked between, at all arguments.
func TestTotalAndAlone(t *testing.T) {
	m := mixer{19}
	for range 20 {
		for _, a := range append(patterns, m.Word()) {
			for _, n := range append(powers, int(m.Word())) {
				mode := m.Mode()
				first := ask(a, n, mode)
				ask(m.any(), int(m.Word()), api.Mode(m.Word()))
				if again := ask(a, n, mode); again != first {
					t.Fatalf("%#x, %d, %d: %+v, then %+v", a, n, mode, first, again)
				}
			}
		}
	}
}
