package fix_test

import (
	"math/big"
	"testing"

	"tiller/aid"
	"tiller/api"
	"tiller/fix"
	"tiller/wide"
)

// FI1, with the chapter's example: quotients that need no cutting, and such as are cut.
func TestOf(t *testing.T) {
	for _, c := range []struct {
		n, by uint64
		want  wide.W
	}{
		{1, 2, half},
		{0, 1, wide.W{}},
		{0, full, wide.W{}},
		{1, 1, one},
		{7, 7, one},
		{full, full, one},
		{3, 2, wide.W{0, 0, 0, 3 << 55}},
		{5, 1, wide.W{0, 0, 0, 5 << 56}},
		{1, 3, wide.W{0x5555555555555555, 0x5555555555555555, 0x5555555555555555, 0x0055555555555555}},
		{2, 3, wide.W{0xaaaaaaaaaaaaaaaa, 0xaaaaaaaaaaaaaaaa, 0xaaaaaaaaaaaaaaaa, 0x00aaaaaaaaaaaaaa}},
		{1, 1 << 63, power(248 - 63)},
		{1, full, wide.W{1 << 56, 1 << 56, 1 << 56, 0}},
		{full - 1, full, wide.W{0xfeffffffffffffff, 0xfeffffffffffffff, 0xfeffffffffffffff, 0x00ffffffffffffff}},
		{full, full - 1, wide.W{1 << 58, 1 << 57, 1 << 56, 1 << 56}},
		{255, 1, wide.W{0, 0, 0, 255 << 56}},
		{511, 2, wide.W{0, 0, 0, 511 << 55}},
		{full, 1<<56 + 1, wide.W{0x0000000100ffffff, 0xfffffffffeff0000, 0x00000000000100ff, 0xfffffffffffffeff}},
	} {
		exact := new(big.Int).Lsh(new(big.Int).SetUint64(c.n), fix.Bits)
		exact.Quo(exact, new(big.Int).SetUint64(c.by))
		if got, err := fix.Of(c.n, c.by); err != nil || got != c.want || got != fromBig(exact) {
			t.Errorf("Of(%d, %d): %x, %v, not %x", c.n, c.by, got, err, c.want)
		}
	}
}

// FI1: ErrZero by 0, whatever n is; ErrLong from just 256 on.
func TestOfErrors(t *testing.T) {
	for _, c := range []struct {
		n, by uint64
		want  error
	}{
		{0, 0, api.ErrZero},
		{1, 0, api.ErrZero},
		{256, 0, api.ErrZero},
		{full, 0, api.ErrZero},
		{256, 1, api.ErrLong},
		{257, 1, api.ErrLong},
		{full, 1, api.ErrLong},
		{512, 2, api.ErrLong},
		{513, 2, api.ErrLong},
		{769, 3, api.ErrLong},
		{1 << 63, 1 << 55, api.ErrLong},
		{full, 1 << 55, api.ErrLong},
		{full, 1<<56 - 1, api.ErrLong},
		{full - 255, 1<<56 - 1, api.ErrLong},
		{255, 1, nil},
		{511, 2, nil},
		{767, 3, nil},
		{1<<63 - 1, 1 << 55, nil},
		{full, 1 << 56, nil},
		{full - 256, 1<<56 - 1, nil},
	} {
		got, err := fix.Of(c.n, c.by)
		if aid.Errno(err) != aid.Errno(c.want) || err != nil && got != (wide.W{}) {
			t.Errorf("Of(%d, %d): %x, %v, not %v", c.n, c.by, got, err, c.want)
		}
	}
}

// FI1: word for word as the chapter says.
func TestOfAll(t *testing.T) {
	m := mixer{73}
	for range 50_000 {
		n, by := m.word(), m.word()
		if m.Below(2) == 0 && by < 1<<56 {
			n = by<<8 + uint64(m.Below(3)) - 1
		}
		got, err := fix.Of(n, by)
		if by == 0 {
			if got != (wide.W{}) || aid.Errno(err) != int(api.ErrZero) {
				t.Fatalf("Of(%d, 0): %x, %v", n, got, err)
			}
			continue
		}
		exact := new(big.Int).Lsh(new(big.Int).SetUint64(n), fix.Bits)
		exact.Quo(exact, new(big.Int).SetUint64(by))
		if exact.BitLen() > 256 {
			if got != (wide.W{}) || aid.Errno(err) != int(api.ErrLong) {
				t.Fatalf("Of(%d, %d): %x, %v", n, by, got, err)
			}
			continue
		}
		if err != nil || got != fromBig(exact) {
			t.Fatalf("Of(%d, %d): %x, %v", n, by, got, err)
		}
	}
}

// FI1: just below 256, just 256 and above it; what is 256 or more is told, and the product modulo 256 stays.
func TestMul(t *testing.T) {
	sixteen, third := power(252), wide.W{0x5555555555555555, 0x5555555555555555, 0x5555555555555555, 0x0055555555555555}
	for _, c := range []struct {
		a, b, want wide.W
		over       bool
	}{
		{wide.W{}, wide.W{}, wide.W{}, false},
		{wide.W{}, one, wide.W{}, false},
		{wide.W{}, most, wide.W{}, false},
		{one, one, one, false},
		{most, one, most, false},
		{wide.Of(1), one, wide.Of(1), false},
		{half, half, power(246), false},
		{most, half, below(255), false},
		{wide.Of(1), half, wide.W{}, false},
		{wide.Of(2), half, wide.Of(1), false},
		{wide.Of(3), half, wide.Of(1), false},
		{third, power(249), wide.W{0xaaaaaaaaaaaaaaaa, 0xaaaaaaaaaaaaaaaa, 0xaaaaaaaaaaaaaaaa, 0x00aaaaaaaaaaaaaa}, false},
		{third, wide.W{0, 0, 0, 3 << 56}, next(one, -1), false},
		{power(124), power(124), wide.Of(1), false},
		{power(124), power(123), wide.W{}, false},
		{power(124), below(124), wide.W{}, false},
		{sixteen, next(sixteen, -1), next(wide.W{}, -16), false},
		{sixteen, sixteen, wide.W{}, true},
		{sixteen, next(sixteen, 1), wide.Of(16), true},
		{power(255), power(249), wide.W{}, true},
		{power(255), next(power(249), -1), wide.W{^uint64(127), full, full, full}, false},
		{next(sixteen, -1), next(sixteen, 1), most, false},
		{wide.W{0, 0, 0, 17 << 56}, wide.W{0, 0, 0, 17 << 56}, wide.W{0, 0, 0, 33 << 56}, true},
		{most, most, wide.W{^uint64(511), full, full, full}, true},
		{most, next(one, 1), wide.Of(254), true},
		{most, next(one, -1), wide.W{^uint64(256), full, full, full}, false},
	} {
		for _, p := range [][2]wide.W{{c.a, c.b}, {c.b, c.a}} {
			if got, over := fix.Mul(p[0], p[1]); got != c.want || over != c.over {
				t.Errorf("Mul(%x, %x): %x, %v, not %x, %v", p[0], p[1], got, over, c.want, c.over)
			}
		}
	}
}

// FI1: word for word as the chapter says, both ways round.
func TestMulAll(t *testing.T) {
	m := mixer{79}
	for range 50_000 {
		a, b := m.any(256), m.any(256)
		exact := new(big.Int).Mul(toBig(a), toBig(b))
		exact.Rsh(exact, fix.Bits)
		got, over := fix.Mul(a, b)
		again, too := fix.Mul(b, a)
		if got != fromBig(exact) || over != (exact.BitLen() > 256) || again != got || too != over {
			t.Fatalf("Mul(%x, %x): %x, %v; %x, %v", a, b, got, over, again, too)
		}
	}
}

// FI1: products whose whole part is next to 256.
func TestMulNextToTheEnd(t *testing.T) {
	m := mixer{83}
	for range 20_000 {
		a := m.any(256)
		if a == (wide.W{}) {
			continue
		}
		// the least b with which the product is 256 or more
		end := new(big.Int).Add(bigPower(504), toBig(a))
		end.Sub(end, big.NewInt(1)).Quo(end, toBig(a))
		if end.BitLen() > 256 {
			continue
		}
		b := fromBig(end)
		if _, over := fix.Mul(a, b); !over {
			t.Fatalf("Mul(%x, %x): not 256 or more", a, b)
		}
		if got, over := fix.Mul(a, next(b, -1)); over || wide.Len(got) == 0 {
			t.Fatalf("Mul(%x, %x): %x, 256 or more", a, next(b, -1), got)
		}
	}
}

// arcTan is the angle whose tangent is 1 by n, in bits, a little too small or too great.
func arcTan(n int64, bits uint) *big.Int {
	power := new(big.Int).Quo(bigPower(bits), big.NewInt(n))
	sum := new(big.Int)
	for k := int64(1); power.Sign() != 0; k += 2 {
		term := new(big.Int).Quo(power, big.NewInt(k))
		if k%4 == 3 {
			term.Neg(term)
		}
		sum.Add(sum, term)
		power.Quo(power, big.NewInt(n*n))
	}
	return sum
}

// FI1: Pi's bits, cut, as Machin found them: 16 times the angle of 1 by 5, less 4 times that of 1 by 239.
func TestPi(t *testing.T) {
	const more = 64
	pi := new(big.Int).Mul(arcTan(5, fix.Bits+more), big.NewInt(16))
	pi.Sub(pi, new(big.Int).Mul(arcTan(239, fix.Bits+more), big.NewInt(4)))
	if got := fix.Pi(); got != fromBig(pi.Rsh(pi, more)) {
		t.Errorf("Pi: %x, not %x", got, pi)
	}
	digits, _ := new(big.Int).SetString("31415926535897932384626433832795028841971693993751058209749445923078164062862", 10)
	scale := new(big.Int).Exp(big.NewInt(10), big.NewInt(76), nil)
	low := new(big.Int).Mul(toBig(fix.Pi()), scale)
	high := new(big.Int).Add(low, scale)
	digits.Lsh(digits, fix.Bits)
	if low.Cmp(digits) > 0 || high.Cmp(digits) <= 0 {
		t.Errorf("Pi: %x: not its decimal digits, cut", fix.Pi())
	}
}

// FI1: so many bits stand behind the point.
func TestBits(t *testing.T) {
	if fix.Bits != 248 {
		t.Errorf("Bits: %d", fix.Bits)
	}
}
