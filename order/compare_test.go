package order_test

import (
	"testing"

	"tiller/order"
)

// OR1: the numbers of the relations.
func TestRelations(t *testing.T) {
	if order.Less != -1 || order.Same != 0 || order.Greater != 1 || order.Apart != 2 {
		t.Error(order.Less, order.Same, order.Greater, order.Apart)
	}
}

// OR1: the chapter's example.
func TestCompareExample(t *testing.T) { compare.want(t, "noughts", 0, minus, 0, none) }

// OR1: what is no number is apart from all, itself too, on either side and on both; Compare tells only of Loud.
func TestCompareNoNumber(t *testing.T) {
	for _, a := range noNumbers {
		for _, b := range patterns {
			compare.want(t, "left", a, b, order.Apart, loudIn(a, b))
			compare.want(t, "right", b, a, order.Apart, loudIn(a, b))
		}
	}
	for _, a := range quiets {
		compare.want(t, "Quiet by a number", a, one, order.Apart, none)
		compare.want(t, "a number by Quiet", one, a, order.Apart, none)
		compare.want(t, "Quiet by itself", a, a, order.Apart, none)
		for _, b := range louds {
			compare.want(t, "Quiet by Loud", a, b, order.Apart, loud)
			compare.want(t, "Loud by Quiet", b, a, order.Apart, loud)
		}
	}
	for _, a := range louds {
		compare.want(t, "Loud by a number", a, one, order.Apart, loud)
		compare.want(t, "a number by Loud", one, a, order.Apart, loud)
		compare.want(t, "Loud by itself", a, a, order.Apart, loud)
	}
}

// OR1: Signal tells of Quiet, too.
func TestSignalNoNumber(t *testing.T) {
	for _, a := range noNumbers {
		for _, b := range patterns {
			signal.want(t, "left", a, b, order.Apart, loud)
			signal.want(t, "right", b, a, order.Apart, loud)
		}
	}
}

// OR1: noughts of both signs are the same, by either call.
func TestCompareNoughts(t *testing.T) {
	for _, c := range relations {
		for _, a := range bothSigns(0) {
			for _, b := range bothSigns(0) {
				c.want(t, "noughts", a, b, order.Same, none)
			}
			c.bothWays(t, "0 by the least one", a, 1, order.Less)
			c.bothWays(t, "0 by the greatest one below", a, 1+minus, order.Greater)
			c.bothWays(t, "0 by Endless", a, inf, order.Less)
			c.bothWays(t, "0 by Endless below 0", a, inf+minus, order.Greater)
		}
	}
}

// OR1: Endless is the same as itself, and beyond all other numbers.
func TestCompareEndless(t *testing.T) {
	for _, c := range relations {
		c.want(t, "Endless", inf, inf, order.Same, none)
		c.want(t, "Endless below 0", inf+minus, inf+minus, order.Same, none)
		c.bothWays(t, "both", inf+minus, inf, order.Less)
		for _, a := range finites {
			c.bothWays(t, "below Endless", a, inf, order.Less)
			c.bothWays(t, "above Endless below 0", a, inf+minus, order.Greater)
		}
	}
}

// OR1: the same number.
func TestCompareSame(t *testing.T) {
	for _, c := range relations {
		for _, a := range numbers {
			c.want(t, "the same", a, a, order.Same, none)
		}
	}
}

// OR1: neighbours on both sides of 0, and numbers of both sides; every power of two with those next to it.
func TestCompareNeighbours(t *testing.T) {
	for _, c := range relations {
		next := func(what string, a, b uint64) {
			t.Helper()
			c.bothWays(t, what, a, b, order.Less)
			c.bothWays(t, what, a+minus, b+minus, order.Greater)
			c.bothWays(t, what, a+minus, b, order.Less)
			c.bothWays(t, what, b+minus, a, order.Less)
		}
		next("the least", 1, 2)
		next("the last tiny one", leastBig-1, leastBig)
		next("around 1", one-1, one+1)
		next("the last finite ones", last-1, last)
		next("the greatest and Endless", last, inf)
		for e := range uint64(2047) {
			p := (e + 1) << 52
			next("below a power", p-1, p)
			if p < inf {
				next("above a power", p, p+1)
			}
		}
		c.bothWays(t, "the two next to 0", 1+minus, 1, order.Less)
	}
}

// OR1, all of it, word for word: by what the numbers are.
func TestCompareAll(t *testing.T) {
	m := mixer{3}
	for range 100_000 {
		a := m.number()
		b := m.numberBeside(a)
		want := valueOf(a).Cmp(valueOf(b))
		for _, c := range relations {
			if c.bothWays(t, "all", a, b, want); t.Failed() {
				return
			}
		}
	}
}

// OR1: patterns of all classes: apart just where one is no number, with the flags of each call.
func TestCompareApart(t *testing.T) {
	m := mixer{5}
	for range 100_000 {
		a := m.any()
		b := m.beside(a)
		if isNone(a) || isNone(b) {
			compare.want(t, "all", a, b, order.Apart, loudIn(a, b))
			signal.want(t, "all", a, b, order.Apart, loud)
		} else if r, _ := order.Compare(a, b); r == order.Apart {
			t.Errorf("%#x, %#x: apart", a, b)
		}
		if t.Failed() {
			return
		}
	}
}
