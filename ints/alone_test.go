package ints_test

import (
	"testing"

	"tiller/api"
	"tiller/ints"
)

// answers are all that the calls tell of a pattern, that is a number too, and a mode.
type answers struct {
	patterns     [2]uint64
	flags        [2]api.Flags
	told, untold [4]answer
}

func ask(p uint64, m api.Mode) answers {
	var z answers
	z.patterns[0], z.flags[0] = ints.Of(int64(p), m)
	z.patterns[1], z.flags[1] = ints.OfPlain(p, m)
	for i, r := range roads {
		z.told[i], z.untold[i] = r.ask(p, m, true), r.ask(p, m, false)
	}
	return z
}

// P7: every call ends, and answers the same again, whatever was asked between, at all arguments.
func TestTotalAndAlone(t *testing.T) {
	m := mixer{19}
	for range 100 {
		for _, p := range append(patterns, m.Word(), m.number()) {
			mode := m.Mode()
			first := ask(p, mode)
			ask(m.any(), api.Mode(m.Word()))
			if again := ask(p, mode); again != first {
				t.Fatalf("%#x, %d: %+v, then %+v", p, mode, first, again)
			}
		}
	}
}

// P1 and IN2: a pattern is made with Inexact at most; a number with that, if it is told, or with Invalid alone.
func TestFlags(t *testing.T) {
	m := mixer{23}
	for range 50_000 {
		p, mode := m.any(), m.Mode()
		z := ask(p, mode)
		for _, f := range z.flags {
			if f != none && f != off {
				t.Fatalf("%#x, %d: a pattern with flags %d", p, mode, f)
			}
		}
		for i := range roads {
			if f := z.told[i].f; f != none && f != off && f != out {
				t.Fatalf("%s(%#x, %d, true): flags %d", roads[i].name, p, mode, f)
			}
			if f := z.untold[i].f; f != none && f != out {
				t.Fatalf("%s(%#x, %d, false): flags %d", roads[i].name, p, mode, f)
			}
		}
	}
}
