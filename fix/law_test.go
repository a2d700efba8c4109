package fix_test

import (
	"math/big"
	"testing"

	"tiller/fix"
	"tiller/wide"
)

// span are two bounds, as whole numbers of any size.
type span struct{ low, high *big.Int }

func sine(t *testing.T, x wide.W) span {
	t.Helper()
	low, high, err := fix.Sin(x)
	if err != nil {
		t.Fatalf("Sin(%x): %v", x, err)
	}
	return span{toBig(low), toBig(high)}
}

func cosine(t *testing.T, x wide.W) span {
	t.Helper()
	low, high, err := fix.Cos(x)
	if err != nil {
		t.Fatalf("Cos(%x): %v", x, err)
	}
	return span{toBig(low), toBig(high)}
}

// times is a product; neither factor is below 0.
func (s span) times(o span) span {
	return span{new(big.Int).Mul(s.low, o.low), new(big.Int).Mul(s.high, o.high)}
}

func (s span) plus(o span) span {
	return span{new(big.Int).Add(s.low, o.low), new(big.Int).Add(s.high, o.high)}
}

func (s span) holds(x *big.Int) bool { return s.low.Cmp(x) <= 0 && x.Cmp(s.high) <= 0 }

// meets tells whether a number can lie between both bounds.
func (s span) meets(o span) bool { return s.low.Cmp(o.high) <= 0 && o.low.Cmp(s.high) <= 0 }

// FI3: the squares are together 1, between their bounds.
func TestSquares(t *testing.T) {
	for _, x := range angles() {
		s, c := sine(t, x), cosine(t, x)
		if !s.times(s).plus(c.times(c)).holds(bigPower(2 * fix.Bits)) {
			t.Fatalf("of %x: %v, %v", x, s, c)
		}
	}
}

// FI3: by Mul, too, whose products are cut.
func TestSquaresByMul(t *testing.T) {
	for _, x := range angles() {
		sineLow, sineHigh, _ := fix.Sin(x)
		cosineLow, cosineHigh, _ := fix.Cos(x)
		sum := func(a, b wide.W) wide.W {
			aa, _ := fix.Mul(a, a)
			bb, _ := fix.Mul(b, b)
			both, _ := wide.Add(aa, bb)
			return both
		}
		if wide.Cmp(sum(sineLow, cosineLow), one) > 0 || wide.Cmp(sum(sineHigh, cosineHigh), one) < 0 {
			t.Fatalf("of %x", x)
		}
	}
}

// FI2: the sine of twice an angle is twice the sine times the cosine, between the bounds.
func TestTwice(t *testing.T) {
	for _, x := range angles() {
		twice := wide.Shl(x, 1)
		if wide.Cmp(twice, one) > 0 {
			continue
		}
		product := sine(t, x).times(cosine(t, x))
		want := span{product.low.Lsh(product.low, 1), product.high.Lsh(product.high, 1)}
		s := sine(t, twice)
		got := span{s.low.Lsh(s.low, fix.Bits), s.high.Lsh(s.high, fix.Bits)}
		if !got.meets(want) {
			t.Fatalf("of %x", x)
		}
	}
}

// FI2: the sine of a sixth of Pi is a half, and of a quarter of it sine and cosine are the same; those parts are cut by a last bit at most.
func TestPartsOfPi(t *testing.T) {
	sixth, _, _ := wide.DivMod(fix.Pi(), wide.Of(6))
	s := sine(t, sixth)
	s.high.Add(s.high, big.NewInt(1))
	if !s.holds(toBig(half)) {
		t.Errorf("the sine of a sixth of Pi: %v", s)
	}
	quarter, _ := wide.Shr(fix.Pi(), 2)
	s, c := sine(t, quarter), cosine(t, quarter)
	s.high.Add(s.high, big.NewInt(1))
	c.low.Sub(c.low, big.NewInt(1))
	if !s.meets(c) {
		t.Errorf("of a quarter of Pi: %v, %v", s, c)
	}
}
