package order_test

import (
	"math/big"
	"testing"

	"tiller/order"
)

// OR2: the chapter's example.
func TestMinExample(t *testing.T) { least.want(t, "noughts", 0, minus, minus, none) }

// OR2: -0 is less than +0 in all of these calls, both ways round.
func TestNoughts(t *testing.T) {
	for _, c := range leastOnes {
		c.bothWays(t, "noughts", 0, minus, minus, none)
		c.want(t, "+0", 0, 0, 0, none)
		c.want(t, "-0", minus, minus, minus, none)
	}
	for _, c := range greatOnes {
		c.bothWays(t, "noughts", 0, minus, 0, none)
		c.want(t, "+0", 0, 0, 0, none)
		c.want(t, "-0", minus, minus, minus, none)
	}
}

// OR2: one that is no number, on either side and on both, makes NaN, without its sign and its fraction; only Loud raises Invalid.
func TestStrictNoNumber(t *testing.T) {
	for _, c := range strict {
		for _, a := range noNumbers {
			for _, b := range patterns {
				c.bothWays(t, "no number", a, b, nan, loudIn(a, b))
			}
		}
		for _, b := range numbers {
			c.bothWays(t, "Quiet and a number", 0xfff8000000000001, b, nan, none)
			c.bothWays(t, "Loud and a number", 0xfff0000000000001, b, nan, loud)
		}
	}
}

// OR2: MinNumber and MaxNumber answer the only number, Invalid or not; of two that are none NaN.
func TestNumberNoNumber(t *testing.T) {
	for _, c := range byNumber {
		for _, b := range numbers {
			for _, a := range quiets {
				c.bothWays(t, "Quiet and a number", a, b, b, none)
			}
			for _, a := range louds {
				c.bothWays(t, "Loud and a number", a, b, b, loud)
			}
		}
		for _, a := range noNumbers {
			for _, b := range noNumbers {
				c.bothWays(t, "two that are none", a, b, nan, loudIn(a, b))
			}
		}
		c.want(t, "Quiet twice", nan+1, 0xfff8000000000001, nan, none)
		c.want(t, "Loud twice", inf+1, 0xfff0000000000001, nan, loud)
		c.bothWays(t, "Quiet and Loud", nan+1, inf+1, nan, loud)
	}
}

// OR2: some numbers, the answers written out; each line's first one is the less.
func TestLeastKnown(t *testing.T) {
	for _, c := range []struct {
		what        string
		less, great uint64
	}{
		{"1 and 2", one, two},
		{"-2 and -1", two + minus, one + minus},
		{"-2 and 1", two + minus, one},
		{"-1 and 2", one + minus, two},
		{"-1 and 1", one + minus, one},
		{"0 and the least", 0, 1},
		{"-0 and the least", minus, 1},
		{"the greatest one below 0 and -0", 1 + minus, minus},
		{"the greatest one below 0 and 0", 1 + minus, 0},
		{"the two next to 0", 1 + minus, 1},
		{"neighbours", one, one + 1},
		{"neighbours below 0", one + 1 + minus, one + minus},
		{"tiny and plain", leastBig - 1, leastBig},
		{"tiny and plain below 0", leastBig + minus, leastBig - 1 + minus},
		{"the greatest and Endless", last, inf},
		{"Endless below 0 and the last one", inf + minus, last + minus},
		{"Endless of both signs", inf + minus, inf},
		{"Endless below 0 and 1", inf + minus, one},
		{"-1 and Endless", one + minus, inf},
	} {
		least.bothWays(t, c.what, c.less, c.great, c.less, none)
		leastNumber.bothWays(t, c.what, c.less, c.great, c.less, none)
		greatest.bothWays(t, c.what, c.less, c.great, c.great, none)
		greatNumber.bothWays(t, c.what, c.less, c.great, c.great, none)
	}
}

// OR2: some sizes, the answers written out; each line's first one is the less size, whatever the signs are.
func TestSizeKnown(t *testing.T) {
	for _, c := range []struct {
		what        string
		less, great uint64
	}{
		{"1 and 2", one, two},
		{"0 and the least", 0, 1},
		{"the least ones", 1, 2},
		{"tiny and plain", leastBig - 1, leastBig},
		{"next to 1", one - 1, one + 1},
		{"the last ones", last - 1, last},
		{"the greatest and Endless", last, inf},
		{"1 and Endless", one, inf},
		{"0 and Endless", 0, inf},
	} {
		for _, a := range bothSigns(c.less) {
			for _, b := range bothSigns(c.great) {
				leastSize.bothWays(t, c.what, a, b, a, none)
				greatestSize.bothWays(t, c.what, a, b, b, none)
			}
		}
	}
}

// OR2: of the same sizes MinSize is the one below 0, MaxSize the one above it, both ways round.
func TestSizeSame(t *testing.T) {
	for _, a := range []uint64{0, 1, leastBig - 1, leastBig, tenth, one, two, last, inf} {
		leastSize.bothWays(t, "other signs", a, a+minus, a+minus, none)
		greatestSize.bothWays(t, "other signs", a, a+minus, a, none)
		for _, b := range bothSigns(a) {
			leastSize.want(t, "the same", b, b, b, none)
			greatestSize.want(t, "the same", b, b, b, none)
		}
	}
}

// sorted are two numbers, the less one first: by a first measure, by their values where that is the same, and by their signs of noughts.
func sorted(a, b uint64, measure func(uint64) *big.Int) (uint64, uint64) {
	r := measure(a).Cmp(measure(b))
	if r == 0 {
		r = valueOf(a).Cmp(valueOf(b))
	}
	if r > 0 || r == 0 && a < minus {
		return b, a
	}
	return a, b
}

// OR2, all of it of numbers, word for word.
func TestLeastAll(t *testing.T) {
	m := mixer{7}
	for range 100_000 {
		a := m.number()
		b := m.numberBeside(a)
		less, great := sorted(a, b, valueOf)
		least.bothWays(t, "all", a, b, less, none)
		leastNumber.bothWays(t, "all", a, b, less, none)
		greatest.bothWays(t, "all", a, b, great, none)
		greatNumber.bothWays(t, "all", a, b, great, none)
		less, great = sorted(a, b, sizeOf)
		leastSize.bothWays(t, "all", a, b, less, none)
		greatestSize.bothWays(t, "all", a, b, great, none)
		if t.Failed() {
			return
		}
	}
}

// OR2: patterns of which one at least is no number, of all fractions.
func TestNoNumberAll(t *testing.T) {
	m := mixer{11}
	for range 100_000 {
		a := m.any()
		b := m.beside(a)
		if !isNone(a) && !isNone(b) {
			continue
		}
		only := uint64(nan)
		if !isNone(a) {
			only = a
		} else if !isNone(b) {
			only = b
		}
		for _, c := range strict {
			c.want(t, "all", a, b, nan, loudIn(a, b))
		}
		for _, c := range byNumber {
			c.want(t, "all", a, b, only, loudIn(a, b))
		}
		if t.Failed() {
			return
		}
	}
}

// OR2: the least and the greatest of two numbers are the two; Min is ahead of Max, and as Compare has them.
func TestLeastLaw(t *testing.T) {
	m := mixer{13}
	for range 100_000 {
		a := m.number()
		b := m.numberBeside(a)
		for i, c := range leastOnes {
			p, _ := c.ask(a, b)
			q, _ := greatOnes[i].ask(a, b)
			if !(p == a && q == b) && !(p == b && q == a) {
				t.Fatalf("%s(%#x, %#x): %#x and %#x", c.name, a, b, p, q)
			}
		}
		p, _ := order.Min(a, b)
		q, _ := order.Max(a, b)
		if r, _ := order.Compare(p, q); r != order.Less && r != order.Same {
			t.Fatalf("Min(%#x, %#x): %#x; Max: %#x", a, b, p, q)
		}
	}
}
