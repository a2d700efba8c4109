package order_test

import (
	"testing"

	"tiller/order"
)

// row are patterns of all kinds, of two fractions and more, in the order of all.
func row() []uint64 {
	return []uint64{
		0xffffffffffffffff, 0xfffc000000000000, 0xfff8000000000001, 0xfff8000000000000, // Quiet, below 0
		0xfff7ffffffffffff, 0xfff4000000000000, 0xfff0000000000002, 0xfff0000000000001, // Loud, below 0
		0xfff0000000000000,                                         // Endless, below 0
		0xffefffffffffffff, 0xffeffffffffffffe, 0xffe0000000000000, // the greatest sizes
		0xc000000000000000, 0xbff0000000000001, 0xbff0000000000000, 0xbfefffffffffffff, 0xbfe0000000000000, // about -1
		0x8010000000000001, 0x8010000000000000, // the least plain ones
		0x800fffffffffffff, 0x8000000000000002, 0x8000000000000001, // Tiny, below 0
		0x8000000000000000, // -0
		0x0000000000000000, // +0
		0x0000000000000001, 0x0000000000000002, 0x000fffffffffffff,
		0x0010000000000000, 0x0010000000000001,
		0x3fe0000000000000, 0x3fefffffffffffff, 0x3ff0000000000000, 0x3ff0000000000001, 0x4000000000000000,
		0x7fe0000000000000, 0x7feffffffffffffe, 0x7fefffffffffffff,
		0x7ff0000000000000,
		0x7ff0000000000001, 0x7ff0000000000002, 0x7ff4000000000000, 0x7ff7ffffffffffff,
		0x7ff8000000000000, 0x7ff8000000000001, 0x7ffc000000000000, 0x7fffffffffffffff,
	}
}

// OR3: each of the kinds by each other one, of both signs, and fractions of one kind; OR4 of these.
func TestTotalRow(t *testing.T) {
	all := row()
	for i, a := range all {
		for k, b := range all {
			if got := order.Total(a, b); got != (i <= k) {
				t.Errorf("Total(%#x, %#x): %v", a, b, got)
			}
		}
	}
}

// OR3: noughts are told apart by their signs, and so are sizes of all kinds.
func TestTotalSigns(t *testing.T) {
	for _, a := range patterns {
		for _, b := range patterns {
			if (a >= minus) == (b >= minus) {
				continue
			}
			if got := order.Total(a, b); got != (a >= minus) {
				t.Errorf("Total(%#x, %#x): %v", a, b, got)
			}
		}
	}
}

// kindOf is the place of a pattern's kind among those of one sign, as the rule lists them.
func kindOf(p uint64) int {
	switch {
	case p<<1 == 0:
		return 0
	case p>>52&2047 < 2047:
		return 1
	case p<<12 == 0:
		return 2
	case isLoud(p):
		return 3
	}
	return 4
}

// bySize tells whether a pattern is not behind another one of the same sign, above 0: by the kinds, and within one by the numbers, or the fractions of what is none.
func bySize(a, b uint64) bool {
	switch {
	case kindOf(a) != kindOf(b):
		return kindOf(a) < kindOf(b)
	case isNone(a):
		return a<<12 <= b<<12
	}
	return sizeOf(a).Cmp(sizeOf(b)) <= 0
}

// OR3, all of it, word for word.
func TestTotalAll(t *testing.T) {
	m := mixer{17}
	for range 200_000 {
		a := m.any()
		b := m.beside(a)
		var want bool
		switch {
		case (a >= minus) != (b >= minus):
			want = a >= minus
		case a >= minus:
			want = bySize(b, a)
		default:
			want = bySize(a, b)
		}
		if got := order.Total(a, b); got != want {
			t.Fatalf("Total(%#x, %#x): %v", a, b, got)
		}
	}
}

// OR3: of numbers that are not the same Total tells what Compare does.
func TestTotalAsCompare(t *testing.T) {
	m := mixer{19}
	for range 100_000 {
		a := m.number()
		b := m.numberBeside(a)
		r, _ := order.Compare(a, b)
		if r != order.Same && order.Total(a, b) != (r == order.Less) {
			t.Fatalf("Total(%#x, %#x): %v; Compare: %d", a, b, order.Total(a, b), r)
		}
	}
}

// law asks of two patterns that one is ahead, and both ways only the same one.
func law(t *testing.T, a, b uint64) {
	t.Helper()
	forth, back := order.Total(a, b), order.Total(b, a)
	if !forth && !back {
		t.Fatalf("Total(%#x, %#x): neither is ahead", a, b)
	}
	if (forth && back) != (a == b) {
		t.Fatalf("Total(%#x, %#x): %v, and %v the other way round", a, b, forth, back)
	}
}

// OR4: of any two patterns.
func TestTotalLaw(t *testing.T) {
	for _, a := range patterns {
		for _, b := range patterns {
			law(t, a, b)
		}
	}
	m := mixer{23}
	for range 200_000 {
		a := m.any()
		law(t, a, a)
		law(t, a, m.beside(a))
	}
}

// OR4: every exponent of both signs, with fractions at its ends.
func TestTotalLawOfExponents(t *testing.T) {
	for e := range uint64(2048) {
		low := e << 52
		for _, a := range bothSigns(low, low+1, low+1<<51-1, low+1<<51, low+1<<52-1) {
			law(t, a, a)
			law(t, a, a^minus)
			law(t, a, a+1)
			law(t, a, a-1)
			law(t, a, one)
			law(t, a, nan+minus)
		}
	}
}

// OR3: what is ahead of one that is ahead of a third is ahead of that.
func TestTotalIsAnOrder(t *testing.T) {
	m := mixer{29}
	for range 200_000 {
		a := m.any()
		b := m.beside(a)
		c := m.beside(b)
		if order.Total(a, b) && order.Total(b, c) && !order.Total(a, c) {
			t.Fatalf("%#x, %#x, %#x are in no order", a, b, c)
		}
	}
}
