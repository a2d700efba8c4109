package order_test

import (
	"testing"

	"tiller/api"
	"tiller/order"
)

// answers are all that the calls tell of two patterns.
type answers struct {
	relations [2]int
	patterns  [6]uint64
	flags     [8]api.Flags
	total     bool
}

func ask(a, b uint64) answers {
	var z answers
	for i, c := range relations {
		z.relations[i], z.flags[i] = c.ask(a, b)
	}
	for i, c := range choices {
		z.patterns[i], z.flags[len(relations)+i] = c.ask(a, b)
	}
	z.total = order.Total(a, b)
	return z
}

// P7: every call ends, and answers the same again, whatever was asked between, at all arguments.
func TestTotalAndAlone(t *testing.T) {
	m := mixer{31}
	again := func(a, b uint64) {
		t.Helper()
		first := ask(a, b)
		ask(m.any(), m.any())
		if z := ask(a, b); z != first {
			t.Fatalf("%#x, %#x: %+v, then %+v", a, b, first, z)
		}
	}
	for _, a := range patterns {
		for _, b := range patterns {
			again(a, b)
		}
	}
	for range 50_000 {
		again(m.Word(), m.any())
	}
}

// P1: no call raises another flag than Invalid, and of numbers none at all.
func TestFlags(t *testing.T) {
	m := mixer{37}
	for range 50_000 {
		a, b := m.any(), m.any()
		for i, f := range ask(a, b).flags {
			if f&^api.Invalid != 0 || f != 0 && !isNone(a) && !isNone(b) {
				t.Fatalf("%#x, %#x: the flags of call %d are %d", a, b, i, f)
			}
		}
	}
}
