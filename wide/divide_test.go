package wide_test

import (
	"errors"
	"math/big"
	"testing"

	"tiller/api"
	"tiller/wide"
)

// WD3.
func TestDivModByZero(t *testing.T) {
	for _, a := range []wide.W{wide.Of(0), wide.Of(1), wide.Of(10), power(200), most} {
		quotient, rest, err := wide.DivMod(a, wide.Of(0))
		var number api.Errno
		if !errors.As(err, &number) || number != api.ErrZero || int(number) != 5 {
			t.Errorf("DivMod(%x, 0): error %v", a, err)
		}
		if quotient != (wide.W{}) || rest != (wide.W{}) {
			t.Errorf("DivMod(%x, 0): %x, %x", a, quotient, rest)
		}
	}
}

// WD3.
func TestDivMod(t *testing.T) {
	two := wide.W{0x123456789abcdef0, 7}
	three := wide.W{full, 1, 0x8000000000000001}
	four := wide.W{1, 2, 3, 4}
	for _, c := range []struct{ a, b, quotient, rest wide.W }{
		{wide.Of(17), wide.Of(5), wide.Of(3), wide.Of(2)},
		{wide.Of(15), wide.Of(5), wide.Of(3), wide.Of(0)},
		{wide.Of(0), wide.Of(5), wide.Of(0), wide.Of(0)},
		{wide.Of(0), most, wide.Of(0), wide.Of(0)},
		{wide.Of(1), wide.Of(1), wide.Of(1), wide.Of(0)},
		{most, wide.Of(1), most, wide.Of(0)},
		{wide.Of(4), wide.Of(5), wide.Of(0), wide.Of(4)},
		{below(255), most, wide.Of(0), below(255)},
		{wide.Of(7), power(192), wide.Of(0), wide.Of(7)},
		{most, most, wide.Of(1), wide.Of(0)},
		{most, power(255), wide.Of(1), below(255)},
		{most, wide.Of(full), wide.W{1, 1, 1, 1}, wide.Of(0)},
		{most, below(128), wide.W{1, 0, 1}, wide.Of(0)},
		{most, power(128), below(128), below(128)},
		{most, two, wide.W{0xb0990b7a8aa7f047, 0x3fc4fd3bec109411, 0x2434221ca41f8993}, wide.W{0x5d4da3b9360d2b6f, 1}},
		{most, three, wide.W{0xfffffffffffffffc, 1}, wide.W{0xfffffffffffffffb, 9}},
		{most, four, wide.Of(0x3fffffffffffffff), wide.W{0xc000000000000000, 0x8000000000000001, 0x4000000000000002, 3}},
	} {
		quotient, rest, err := wide.DivMod(c.a, c.b)
		if err != nil || quotient != c.quotient || rest != c.rest {
			t.Errorf("DivMod(%x, %x): %x, %x, %v", c.a, c.b, quotient, rest, err)
		}
	}
}

// WD3, the chapter's example.
func TestDivModExample(t *testing.T) {
	quotient, rest, err := wide.DivMod(power(200), wide.Of(3))
	if err != nil || rest != wide.Of(1) || quotient != (wide.W{0x5555555555555555, 0x5555555555555555, 0x5555555555555555, 0x55}) {
		t.Errorf("DivMod(2^200, 3): %x, %x, %v", quotient, rest, err)
	}
}

// WD3.
func TestDivModAll(t *testing.T) {
	eachPair(t, func(a, b wide.W) bool {
		if b == wide.Of(0) {
			return true
		}
		exact, left := new(big.Int).QuoRem(toBig(a), toBig(b), new(big.Int))
		quotient, rest, err := wide.DivMod(a, b)
		ok := err == nil && quotient == fromBig(exact) && rest == fromBig(left)
		if !ok {
			t.Errorf("DivMod(%x, %x): %x, %x, %v", a, b, quotient, rest, err)
		}
		return ok
	})
}

// divides tells whether WD4 holds of a and b, that is not 0.
func divides(a, b wide.W) bool {
	quotient, rest, err := wide.DivMod(a, b)
	product, beyond := wide.Mul(quotient, b)
	sum, over := wide.Add(product, rest)
	return err == nil && beyond == wide.Of(0) && !over && sum == a && wide.Cmp(rest, b) < 0
}

// WD4: words next to 0, to 2^63 and to 2^64 are those at which a digit of the quotient is guessed wrong.
func TestDivModLaw(t *testing.T) {
	all := corners(0, 1, 1<<63-1, 1<<63, full-1, full)
	for _, a := range all {
		for _, b := range all {
			if b != wide.Of(0) && !divides(a, b) {
				t.Fatalf("DivMod(%x, %x)", a, b)
			}
		}
	}
}

// WD4: of what is next to a multiple.
func TestDivModNextToMultiples(t *testing.T) {
	m := mixer{3}
	for range 50000 {
		a, b := m.wide(), m.wide()
		if b == wide.Of(0) {
			continue
		}
		_, rest, _ := wide.DivMod(a, b)
		a, _ = wide.Sub(a, rest)
		less, _ := wide.Sub(a, wide.Of(1))
		more, _ := wide.Add(a, wide.Of(1))
		if !divides(a, b) || !divides(less, b) || !divides(more, b) {
			t.Fatalf("DivMod next to %x, by %x", a, b)
		}
	}
}

// WD3, with the chapter's example.
func TestSqrt(t *testing.T) {
	for _, c := range []struct{ a, root, rest wide.W }{
		{wide.Of(0), wide.Of(0), wide.Of(0)},
		{wide.Of(1), wide.Of(1), wide.Of(0)},
		{wide.Of(2), wide.Of(1), wide.Of(1)},
		{wide.Of(3), wide.Of(1), wide.Of(2)},
		{wide.Of(4), wide.Of(2), wide.Of(0)},
		{wide.Of(8), wide.Of(2), wide.Of(4)},
		{wide.Of(9), wide.Of(3), wide.Of(0)},
		{wide.Of(10), wide.Of(3), wide.Of(1)},
		{wide.Of(full), wide.Of(1<<32 - 1), wide.Of(1<<33 - 2)},
		{power(64), power(32), wide.Of(0)},
		{power(254), power(127), wide.Of(0)},
		{below(254), below(127), wide.W{full - 1, full}},
		{most, below(128), wide.W{full - 1, full, 1}},
		{wide.W{1, 0, full - 1, full}, below(128), wide.Of(0)},
		{wide.W{0, 0, full - 1, full}, wide.W{full - 1, full}, wide.W{full - 3, full, 1}},
	} {
		if root, rest := wide.Sqrt(c.a); root != c.root || rest != c.rest {
			t.Errorf("Sqrt(%x): %x, %x", c.a, root, rest)
		}
	}
}

// roots tells whether WD4 holds of a.
func roots(a wide.W) bool {
	root, rest := wide.Sqrt(a)
	square, beyond := wide.Mul(root, root)
	sum, over := wide.Add(square, rest)
	twice, _ := wide.Add(root, root)
	return beyond == wide.Of(0) && !over && sum == a && wide.Cmp(rest, twice) <= 0
}

// WD4.
func TestSqrtLaw(t *testing.T) {
	for n := range uint64(5000) {
		if !roots(wide.Of(n)) {
			t.Fatalf("Sqrt(%d)", n)
		}
	}
	eachOne(t, func(a wide.W) bool {
		ok := roots(a)
		if !ok {
			t.Errorf("Sqrt(%x)", a)
		}
		return ok
	})
}

// WD3: of squares, and of one less.
func TestSqrtOfSquares(t *testing.T) {
	eachOne(t, func(a wide.W) bool {
		number := wide.W{a[0], a[1]}
		if number == wide.Of(0) {
			return true
		}
		square, _ := wide.Mul(number, number)
		if root, rest := wide.Sqrt(square); root != number || rest != wide.Of(0) {
			t.Errorf("Sqrt(%x): %x, %x", square, root, rest)
			return false
		}
		less, _ := wide.Sub(square, wide.Of(1))
		fewer, _ := wide.Sub(number, wide.Of(1))
		twice, _ := wide.Add(fewer, fewer)
		if root, rest := wide.Sqrt(less); root != fewer || rest != twice {
			t.Errorf("Sqrt(%x): %x, %x", less, root, rest)
			return false
		}
		return true
	})
}

// WD3.
func TestSqrtAll(t *testing.T) {
	eachOne(t, func(a wide.W) bool {
		exact := new(big.Int).Sqrt(toBig(a))
		left := new(big.Int).Sub(toBig(a), new(big.Int).Mul(exact, exact))
		root, rest := wide.Sqrt(a)
		ok := root == fromBig(exact) && rest == fromBig(left)
		if !ok {
			t.Errorf("Sqrt(%x): %x, %x", a, root, rest)
		}
		return ok
	})
}
