package turn_test

import (
	"math"
	"testing"

	"tiller/api"
	"tiller/turn"
)

// eachParts calls try with parts of few, of great and of any turns; k is far enough from the least and the greatest int to be moved by some turns.
func eachParts(try func(k, n int)) {
	for _, n := range []int{1, 2, 3, 4, 5, 6, 7, 8, 9, 10, 11, 12, 13, 16, 20, 24, 60, 64} {
		for k := -2 * n; k <= 2*n; k++ {
			try(k, n)
		}
	}
	for _, n := range greatTurns() {
		for _, k := range places(n) {
			try(k, n)
		}
	}
	m := mixer{107}
	for range 5000 {
		try(m.parts()>>2, m.turn())
	}
}

// TU3: Cos of k is that of -k, and Sin of -k that of k with the other sign; 0 stays.
func TestOtherWay(t *testing.T) {
	eachParts(func(k, n int) {
		there, back := ask(t, k, n), ask(t, -k, n)
		if back.Re != there.Re || back.Im != negative(there.Im) {
			t.Fatalf("%d of %d: %x, %x", k, n, there, back)
		}
	})
}

// TU3: a turn more, or less, changes nothing.
func TestTurns(t *testing.T) {
	eachParts(func(k, n int) {
		for _, turns := range []int{1, -1, 2, -3, 1 << 34} {
			if got, want := ask(t, k+turns*n, n), ask(t, k, n); got != want {
				t.Fatalf("%d of %d, %d turns more: %x, not %x", k, n, turns, got, want)
			}
		}
	})
}

// TU3: where n is a multiple of 4, Sin of k is Cos of k - n / 4.
func TestQuarters(t *testing.T) {
	eachParts(func(k, n int) {
		if n *= 4; n > turn.MaxParts {
			n = turn.MaxParts
		}
		if got, want := ask(t, k, n).Im, ask(t, k-n/4, n).Re; got != want {
			t.Fatalf("%d of %d: %x, not %x", k, n, got, want)
		}
	})
}

// TU3: no size is above 1, and what is 0 is +0.
func TestSizes(t *testing.T) {
	eachParts(func(k, n int) {
		p := ask(t, k, n)
		for _, part := range []uint64{p.Re, p.Im} {
			if part&^api.Sign > api.One || part == api.Sign {
				t.Fatalf("%d of %d: %x", k, n, p)
			}
		}
	})
}

// TU1: parts that are a whole number of times as many, and as great, are the same point.
func TestSamePoint(t *testing.T) {
	eachParts(func(k, n int) {
		for _, more := range []int{2, 3, 7} {
			if n*more > turn.MaxParts || k > math.MaxInt/8 || k < math.MinInt/8 {
				continue
			}
			if got, want := ask(t, k*more, n*more), ask(t, k, n); got != want {
				t.Fatalf("%d of %d: %x, not %x", k*more, n*more, got, want)
			}
		}
	})
}

// TU2: Root's parts are Cos and Sin.
func TestRoot(t *testing.T) {
	eachParts(func(k, n int) {
		got, err := turn.Root(k, n)
		if want := ask(t, k, n); err != nil || got != want {
			t.Fatalf("Root(%d, %d): %x, %v, not %x", k, n, got, err, want)
		}
	})
}
