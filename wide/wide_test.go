package wide_test

import (
	"math"
	"math/big"
	"testing"

	"tiller/wide"
)

// WD1.
func TestOf(t *testing.T) {
	for _, n := range []uint64{0, 1, 10, 1 << 32, 1 << 63, full} {
		if got := wide.Of(n); got != (wide.W{n, 0, 0, 0}) {
			t.Errorf("Of(%d): %v", n, got)
		}
	}
}

// WD1.
func TestAdd(t *testing.T) {
	for _, c := range []struct {
		a, b, sum wide.W
		over      bool
	}{
		{wide.Of(2), wide.Of(3), wide.Of(5), false},
		{wide.Of(0), wide.Of(0), wide.Of(0), false},
		{wide.Of(full), wide.Of(1), power(64), false},
		{below(128), wide.Of(1), power(128), false},
		{below(192), wide.Of(1), power(192), false},
		{below(255), power(255), most, false},
		{most, wide.Of(0), most, false},
		{most, wide.Of(1), wide.Of(0), true},
		{wide.Of(1), most, wide.Of(0), true},
		{power(255), power(255), wide.Of(0), true},
		{most, wide.Of(2), wide.Of(1), true},
		{most, most, wide.W{full - 1, full, full, full}, true},
	} {
		if sum, over := wide.Add(c.a, c.b); sum != c.sum || over != c.over {
			t.Errorf("Add(%x, %x): %x, %v", c.a, c.b, sum, over)
		}
	}
}

// WD1.
func TestAddAll(t *testing.T) {
	eachPair(t, func(a, b wide.W) bool {
		exact := new(big.Int).Add(toBig(a), toBig(b))
		sum, over := wide.Add(a, b)
		ok := sum == fromBig(exact) && over == (exact.BitLen() > 256)
		if !ok {
			t.Errorf("Add(%x, %x): %x, %v", a, b, sum, over)
		}
		return ok
	})
}

// WD1.
func TestSub(t *testing.T) {
	for _, c := range []struct {
		a, b, difference wide.W
		below            bool
	}{
		{wide.Of(5), wide.Of(3), wide.Of(2), false},
		{wide.Of(0), wide.Of(0), wide.Of(0), false},
		{most, most, wide.Of(0), false},
		{most, wide.Of(0), most, false},
		{power(64), wide.Of(1), below(64), false},
		{power(192), wide.Of(1), below(192), false},
		{power(255), wide.Of(1), below(255), false},
		{wide.Of(0), wide.Of(1), most, true},
		{wide.Of(3), wide.Of(5), wide.W{full - 1, full, full, full}, true},
		{wide.Of(0), most, wide.Of(1), true},
		{wide.Of(full), power(64), most, true},
		{below(255), power(255), most, true},
	} {
		if difference, below := wide.Sub(c.a, c.b); difference != c.difference || below != c.below {
			t.Errorf("Sub(%x, %x): %x, %v", c.a, c.b, difference, below)
		}
	}
}

// WD1.
func TestSubAll(t *testing.T) {
	eachPair(t, func(a, b wide.W) bool {
		exact := new(big.Int).Sub(toBig(a), toBig(b))
		difference, below := wide.Sub(a, b)
		ok := difference == fromBig(exact) && below == (exact.Sign() < 0)
		if !ok {
			t.Errorf("Sub(%x, %x): %x, %v", a, b, difference, below)
		}
		return ok
	})
}

// WD1.
func TestMul(t *testing.T) {
	for _, c := range []struct{ a, b, low, high wide.W }{
		{wide.Of(6), wide.Of(7), wide.Of(42), wide.Of(0)},
		{wide.Of(0), most, wide.Of(0), wide.Of(0)},
		{most, wide.Of(0), wide.Of(0), wide.Of(0)},
		{most, wide.Of(1), most, wide.Of(0)},
		{wide.Of(full), wide.Of(full), wide.W{1, full - 1}, wide.Of(0)},
		{power(127), power(128), power(255), wide.Of(0)},
		{power(128), power(128), wide.Of(0), wide.Of(1)},
		{power(255), wide.Of(2), wide.Of(0), wide.Of(1)},
		{power(255), wide.Of(3), power(255), wide.Of(1)},
		{power(255), power(255), wide.Of(0), power(254)},
		{most, wide.Of(2), wide.W{full - 1, full, full, full}, wide.Of(1)},
		{most, most, wide.Of(1), wide.W{full - 1, full, full, full}},
	} {
		if low, high := wide.Mul(c.a, c.b); low != c.low || high != c.high {
			t.Errorf("Mul(%x, %x): %x, %x", c.a, c.b, low, high)
		}
	}
}

// WD1.
func TestMulAll(t *testing.T) {
	eachPair(t, func(a, b wide.W) bool {
		exact := new(big.Int).Mul(toBig(a), toBig(b))
		low, high := wide.Mul(a, b)
		ok := low == fromBig(exact) && high == fromBig(new(big.Int).Rsh(exact, 256))
		if !ok {
			t.Errorf("Mul(%x, %x): %x, %x", a, b, low, high)
		}
		return ok
	})
}

// WD1.
func TestCmp(t *testing.T) {
	for _, c := range []struct {
		a, b wide.W
		want int
	}{
		{wide.Of(0), wide.Of(0), 0},
		{most, most, 0},
		{wide.Of(2), wide.Of(3), -1},
		{wide.Of(0), most, -1},
		{below(64), power(64), -1},
		{below(128), power(128), -1},
		{below(192), power(192), -1},
		{below(255), power(255), -1},
		{wide.W{full, 0, 0, 1}, wide.W{0, 1, 0, 1}, -1},
	} {
		if got := wide.Cmp(c.a, c.b); got != c.want {
			t.Errorf("Cmp(%x, %x): %d", c.a, c.b, got)
		}
		if got := wide.Cmp(c.b, c.a); got != -c.want {
			t.Errorf("Cmp(%x, %x): %d", c.b, c.a, got)
		}
	}
}

// WD1.
func TestCmpAll(t *testing.T) {
	eachPair(t, func(a, b wide.W) bool {
		got := wide.Cmp(a, b)
		ok := got == toBig(a).Cmp(toBig(b))
		if !ok {
			t.Errorf("Cmp(%x, %x): %d", a, b, got)
		}
		return ok
	})
}

// WD1.
func TestLen(t *testing.T) {
	if got := wide.Len(wide.Of(0)); got != 0 {
		t.Errorf("Len(0): %d", got)
	}
	if got := wide.Len(most); got != 256 {
		t.Errorf("Len(2^256 - 1): %d", got)
	}
	for n := range 256 {
		if got := wide.Len(power(n)); got != n+1 {
			t.Errorf("Len(2^%d): %d", n, got)
		}
		if got := wide.Len(below(n)); got != n {
			t.Errorf("Len(2^%d - 1): %d", n, got)
		}
	}
	eachOne(t, func(a wide.W) bool {
		got := wide.Len(a)
		ok := got == toBig(a).BitLen()
		if !ok {
			t.Errorf("Len(%x): %d", a, got)
		}
		return ok
	})
}

// WD1.
func TestBitOutside(t *testing.T) {
	for _, n := range []int{math.MinInt, math.MinInt + 1, -256, -64, -1, 256, 257, 320, 512, math.MaxInt - 63, math.MaxInt} {
		if got := wide.Bit(most, n); got != 0 {
			t.Errorf("Bit(2^256 - 1, %d): %d", n, got)
		}
	}
}

// WD1.
func TestBit(t *testing.T) {
	for _, n := range []int{0, 1, 63, 64, 127, 128, 191, 192, 254, 255} {
		if got := wide.Bit(most, n); got != 1 {
			t.Errorf("Bit(2^256 - 1, %d): %d", n, got)
		}
		if got := wide.Bit(power(n), n); got != 1 {
			t.Errorf("Bit(2^%d, %d): %d", n, n, got)
		}
		if got := wide.Bit(wide.Of(0), n); got != 0 {
			t.Errorf("Bit(0, %d): %d", n, got)
		}
	}
	eachOne(t, func(a wide.W) bool {
		exact := toBig(a)
		for n := range 256 {
			if got := wide.Bit(a, n); got != exact.Bit(n) {
				t.Errorf("Bit(%x, %d): %d", a, n, got)
				return false
			}
		}
		return true
	})
}
