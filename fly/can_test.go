package fly_test

import (
	"math"
	"slices"
	"testing"

	"tiller/aid"
	"tiller/api"
	"tiller/fly"
)

// FL1: Can of all lengths that there are, and of neighbours, products and powers of them, 0, those below it, and the farthest.
func TestCan(t *testing.T) {
	for _, n := range lengths() {
		if !fly.Can(n) {
			t.Errorf("Can(%d) is false", n)
		}
	}
	for n := -300; n <= 70_000; n++ {
		if fly.Can(n) != slices.Contains(lengths(), n) {
			t.Errorf("Can(%d) is %v", n, fly.Can(n))
		}
	}
	for _, n := range []int{math.MinInt, math.MinInt + 2, math.MinInt + 4, -1 << 32, 1 << 31, 1 << 32, math.MaxInt - 1, math.MaxInt} {
		for _, more := range []int{0, 2, 3, 4, 5, 7, 11, 13} {
			if n > 0 && n+more < 0 {
				continue
			}
			if fly.Can(n + more) {
				t.Errorf("Can(%d) is true", n+more)
			}
		}
	}
}

// FL1: ErrArg, and nothing beside it, of no numbers, and of as many as have no little transform, whatever they are.
func TestNoLittle(t *testing.T) {
	m := mixer{11}
	lists := [][]api.Pair{nil, {}, make([]api.Pair, 0, 4), make([]api.Pair, 1<<16), make([]api.Pair, 65_537)}
	for n := range 300 {
		if !fly.Can(n) {
			lists = append(lists, make([]api.Pair, n), m.list(n, m.any), make([]api.Pair, n, n+13))
		}
	}
	for _, x := range lists {
		for _, back := range ways() {
			if answers, flags, err := fly.Little(x, back); answers != nil || flags != 0 || aid.Errno(err) != int(api.ErrArg) {
				t.Errorf("Little of %d numbers: %#x, %d, %v", len(x), answers, flags, err)
			}
		}
	}
}
