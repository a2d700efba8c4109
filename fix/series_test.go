package fix_test

import (
	"math/big"
	"testing"

	"tiller/aid"
	"tiller/api"
	"tiller/fix"
	"tiller/wide"
)

const (
	// bits are those behind the point of the sines and cosines that the bounds are held against.
	bits = 640
	// halvings is how often the angle is halved there.
	halvings = 128
)

// circle are the sine and the cosine of x, of many more bits: of a tiny part of x they are nearly the part itself, and 1 less half its square; the whole is reached by doubling the angle. What is kept is 1 less the cosine, that is as tiny, so that no bits of it are lost. What is left out of the tiny part is below the last bit, and as each doubling doubles what is off, that is below 2^-500 at last.
func circle(x wide.W) (*big.Int, *big.Int) {
	cut := func(a, b *big.Int) *big.Int {
		product := new(big.Int).Mul(a, b)
		return product.Rsh(product, bits)
	}
	tiny := new(big.Int).Lsh(toBig(x), bits-fix.Bits-halvings)
	square := cut(tiny, tiny)
	sine := new(big.Int).Sub(tiny, new(big.Int).Quo(cut(tiny, square), big.NewInt(6)))
	lack := new(big.Int).Sub(new(big.Int).Rsh(square, 1), new(big.Int).Quo(cut(square, square), big.NewInt(24)))
	for range halvings {
		cosine := new(big.Int).Sub(bigPower(bits), lack)
		lack = cut(sine, sine)
		lack.Lsh(lack, 1)
		sine = cut(sine, cosine)
		sine.Lsh(sine, 1)
	}
	return sine, new(big.Int).Sub(bigPower(bits), lack)
}

// holds tells whether FI2's bounds hold a number of many more bits, that is found but for 2^-300, and are near enough to each other.
func holds(low, high wide.W, exact *big.Int) bool {
	const more, unsure = bits - fix.Bits, bits - 300
	least := new(big.Int).Lsh(toBig(low), more)
	greatest := new(big.Int).Lsh(toBig(high), more)
	least.Sub(least, bigPower(unsure))
	greatest.Add(greatest, bigPower(unsure))
	width := new(big.Int).Sub(toBig(high), toBig(low))
	return least.Cmp(exact) <= 0 && exact.Cmp(greatest) <= 0 && width.Sign() >= 0 && width.Cmp(bigPower(fix.Bits-236)) <= 0
}

// FI2: of angles at the edges, of all lengths and odd ones, against sines and cosines that are found in another way.
func TestBounds(t *testing.T) {
	for _, x := range angles() {
		sine, cosine := circle(x)
		if low, high, err := fix.Sin(x); err != nil || !holds(low, high, sine) {
			t.Fatalf("Sin(%x): %x, %x, %v, not %x", x, low, high, err, sine)
		}
		if low, high, err := fix.Cos(x); err != nil || !holds(low, high, cosine) {
			t.Fatalf("Cos(%x): %x, %x, %v, not %x", x, low, high, err, cosine)
		}
	}
}

// decimal is the number 0.digits, in so many bits as circle's.
func decimal(digits string) *big.Int {
	n, _ := new(big.Int).SetString(digits, 10)
	n.Lsh(n, bits)
	return n.Quo(n, new(big.Int).Exp(big.NewInt(10), big.NewInt(int64(len(digits))), nil))
}

// FI2: the sines and cosines of 1 and of a half, by their decimal digits.
func TestKnown(t *testing.T) {
	for _, c := range []struct {
		x            wide.W
		sine, cosine string
	}{
		{one,
			"8414709848078965066525023216302989996225630607983710656727517099919104043912396689486397435430526958543490",
			"5403023058681397174009366074429766037323104206179222276700972553811003947744717645179518560871830893435717"},
		{half,
			"4794255386042030002732879352155713880818033679406006751886166131255350002878148322096312746843482690861320",
			"8775825618903727161162815826038296519916451971097440529976108683159507632742139474057941840846822583554784"},
	} {
		if low, high, err := fix.Sin(c.x); err != nil || !holds(low, high, decimal(c.sine)) {
			t.Errorf("Sin(%x): %x, %x, %v", c.x, low, high, err)
		}
		if low, high, err := fix.Cos(c.x); err != nil || !holds(low, high, decimal(c.cosine)) {
			t.Errorf("Cos(%x): %x, %x, %v", c.x, low, high, err)
		}
	}
}

// FI2: of 0 and of angles so small that the sine is the angle, and the cosine 1, but for less than the last bit: the first bound is not below 0, that would be the greatest fractions.
func TestLeast(t *testing.T) {
	for _, x := range []wide.W{{}, wide.Of(1), wide.Of(2), wide.Of(31), wide.Of(32), wide.Of(33), wide.Of(full), power(64), power(82)} {
		low, high, err := fix.Sin(x)
		if err != nil || wide.Cmp(low, x) > 0 || wide.Cmp(high, x) < 0 || wide.Len(high) > 84 {
			t.Errorf("Sin(%x): %x, %x, %v", x, low, high, err)
		}
		low, high, err = fix.Cos(x)
		if err != nil || wide.Cmp(low, one) > 0 || wide.Cmp(high, next(one, -1)) < 0 || wide.Len(low) < 248 {
			t.Errorf("Cos(%x): %x, %x, %v", x, low, high, err)
		}
	}
}

// FI2: 1 itself is no error, all above it is.
func TestAboveOne(t *testing.T) {
	above := []wide.W{next(one, 1), next(one, 2), {0, 0, 0, 1<<56 + 1}, power(249), fix.Pi(), power(255), most}
	m := mixer{89}
	for len(above) < 200 {
		if x := m.any(256); toBig(x).Cmp(toBig(one)) > 0 {
			above = append(above, x)
		}
	}
	for _, x := range above {
		if low, high, err := fix.Sin(x); low != (wide.W{}) || high != (wide.W{}) || aid.Errno(err) != int(api.ErrArg) {
			t.Errorf("Sin(%x): %x, %x, %v", x, low, high, err)
		}
		if low, high, err := fix.Cos(x); low != (wide.W{}) || high != (wide.W{}) || aid.Errno(err) != int(api.ErrArg) {
			t.Errorf("Cos(%x): %x, %x, %v", x, low, high, err)
		}
	}
	for _, x := range []wide.W{one, next(one, -1)} {
		_, _, err := fix.Sin(x)
		if _, _, too := fix.Cos(x); err != nil || too != nil {
			t.Errorf("of %x: %v, %v", x, err, too)
		}
	}
}
