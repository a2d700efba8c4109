package wide_test

import (
	"testing"

	"tiller/wide"
)

// answers are all that the calls tell of two numbers and a count.
type answers struct {
	of, sum, difference, low, high, up, down, quotient, rest, root, left wide.W
	over, below, lost                                                    bool
	order, length                                                        int
	bit                                                                  uint
	err                                                                  error
}

func ask(a, b wide.W, n int) answers {
	var x answers
	x.of = wide.Of(a[0])
	x.sum, x.over = wide.Add(a, b)
	x.difference, x.below = wide.Sub(a, b)
	x.low, x.high = wide.Mul(a, b)
	x.order = wide.Cmp(a, b)
	x.length = wide.Len(a)
	x.bit = wide.Bit(a, n)
	x.up = wide.Shl(a, n)
	x.down, x.lost = wide.Shr(a, n)
	x.quotient, x.rest, x.err = wide.DivMod(a, b)
	x.root, x.left = wide.Sqrt(a)
	return x
}

// P7: every call ends, answers the same again, and leaves its arguments, whatever they are.
func TestTotalAndAlone(t *testing.T) {
	all := append(corners(0, full), wide.Of(1), wide.Of(10), power(63), power(64), power(200))
	for _, a := range all {
		for _, b := range all {
			for _, n := range counts() {
				x, y := a, b
				first := ask(x, y, n)
				if again := ask(x, y, n); again != first {
					t.Fatalf("%x, %x, %d: %v, then %v", a, b, n, first, again)
				}
				if x != a || y != b {
					t.Fatalf("%x, %x, %d: changed", a, b, n)
				}
			}
		}
	}
}
