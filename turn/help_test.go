package turn_test

import (
	"math"
	"math/big"
	"testing"

	"tiller/aid"
	"tiller/api"
	"tiller/turn"
)

// The patterns of -1, a half, and a half below 0.
const (
	minusOne  = api.One | api.Sign
	half      = 0x3fe0000000000000
	minusHalf = half | api.Sign
)

const (
	// bits are those behind the point of the cosines and sines that the points are held against.
	bits = 640
	// unsure are the last ones of them that may be wrong.
	unsure = 240
	// halvings is how often the angle is halved to find them.
	halvings = 160
)

// bigPower is 2^n.
func bigPower(n uint) *big.Int { return new(big.Int).Lsh(big.NewInt(1), n) }

// cut is a product of two numbers of so many bits, cut.
func cut(a, b *big.Int) *big.Int {
	product := new(big.Int).Mul(a, b)
	return product.Rsh(product, bits)
}

// arcTan is the angle whose tangent is 1 by n, in so many bits.
func arcTan(n int64) *big.Int {
	power := new(big.Int).Quo(bigPower(bits), big.NewInt(n))
	sum := new(big.Int)
	for k := int64(1); power.Sign() != 0; k += 2 {
		term := new(big.Int).Quo(power, big.NewInt(k))
		if k%4 == 3 {
			term.Neg(term)
		}
		sum.Add(sum, term)
		power.Quo(power, big.NewInt(n*n))
	}
	return sum
}

// wholeTurn is two times Pi, as Machin found it: 32 times the angle of 1 by 5, less 8 times that of 1 by 239.
var wholeTurn = new(big.Int).Sub(new(big.Int).Mul(arcTan(5), big.NewInt(32)), new(big.Int).Mul(arcTan(239), big.NewInt(8)))

// rest is k modulo n, from 0 to n - 1, also of a k whose other sign is no int.
func rest(k, n int) int {
	return int(new(big.Int).Mod(big.NewInt(int64(k)), big.NewInt(int64(n))).Int64())
}

// circle are the cosine and the sine of k parts of a turn of n, but for the unsure bits. The whole angle, wherever it lies on the circle, is halved till its sine is nearly the angle itself and its cosine 1 less half its square, and then doubled again. What is kept is 1 less the cosine, that is as tiny, so that no bits of it are lost. What is left out of the tiny angle is below the last bit; each doubling makes what is off twice as great, and the last ones, where the angle is no longer tiny, at most five times.
func circle(k, n int) (cosine, sine *big.Int) {
	tiny := new(big.Int).Mul(wholeTurn, big.NewInt(int64(rest(k, n))))
	tiny.Quo(tiny, big.NewInt(int64(n))).Rsh(tiny, halvings)
	square := cut(tiny, tiny)
	sine = new(big.Int).Sub(tiny, new(big.Int).Quo(cut(tiny, square), big.NewInt(6)))
	lack := new(big.Int).Sub(new(big.Int).Rsh(square, 1), new(big.Int).Quo(cut(square, square), big.NewInt(24)))
	for range halvings {
		cosine := new(big.Int).Sub(bigPower(bits), lack)
		lack = cut(sine, sine)
		lack.Lsh(lack, 1)
		sine = cut(sine, cosine)
		sine.Lsh(sine, 1)
	}
	return new(big.Int).Sub(bigPower(bits), lack), sine
}

// nearest is the pattern next to a number that is known but for the unsure bits; it fails, if they may matter. What is 0 but for them is 0.
func nearest(t *testing.T, x *big.Int) uint64 {
	t.Helper()
	if x.BitLen() <= unsure {
		return 0
	}
	low, high := new(big.Int).Sub(x, bigPower(unsure)), new(big.Int).Add(x, bigPower(unsure))
	p := pattern(low)
	if pattern(high) != p {
		t.Fatalf("%v lies in the middle of two patterns", x)
	}
	return p
}

// pattern is that next to a number of so many bits.
func pattern(x *big.Int) uint64 {
	rounded := new(big.Float).SetPrec(53).SetMode(big.ToNearestEven).SetInt(x)
	f, _ := rounded.SetMantExp(rounded, -bits).Float64()
	return math.Float64bits(f)
}

// exact is the point of k parts of n, rounded by circle alone.
func exact(t *testing.T, k, n int) api.Pair {
	t.Helper()
	cosine, sine := circle(k, n)
	return api.Pair{Re: nearest(t, cosine), Im: nearest(t, sine)}
}

// negative is a pattern with the other sign, but 0 stays.
func negative(p uint64) uint64 {
	if p == 0 {
		return 0
	}
	return p ^ api.Sign
}

// ask is a point by Cos and Sin, of parts that may be.
func ask(t *testing.T, k, n int) api.Pair {
	t.Helper()
	cosine, err := turn.Cos(k, n)
	sine, too := turn.Sin(k, n)
	if err != nil || too != nil {
		t.Fatalf("%d of %d: %v, %v", k, n, err, too)
	}
	return api.Pair{Re: cosine, Im: sine}
}

// greatTurns are of the most parts that there may be, and of fewer; 67108859 is prime.
func greatTurns() []int {
	return []int{turn.MaxParts, turn.MaxParts - 1, turn.MaxParts - 2, turn.MaxParts - 3, turn.MaxParts - 4, 67108859, 3 << 24, 5 << 23, 7 << 23, 1 << 25, 1<<25 + 1, 1 << 24, 1<<24 - 1, 12 * 1000003, 1000000}
}

// places are those of a turn of n where cosines or sines are next to 0, to a half, to 1, or to each other.
func places(n int) []int {
	var all []int
	for _, eighths := range []int{0, 1, 2, 3, 4, 5, 6, 7, 8} {
		all = append(all, n*eighths/8)
	}
	for _, twelfths := range []int{1, 2, 4, 5, 7, 8, 10, 11} {
		all = append(all, n*twelfths/12)
	}
	for _, k := range all {
		all = append(all, k-2, k-1, k+1, k+2)
	}
	return all
}

// noTurns are numbers of parts that a turn has not.
func noTurns() []int {
	return []int{math.MinInt, math.MinInt + 1, -turn.MaxParts, -1 << 32, -8, -4, -1, 0, turn.MaxParts + 1, turn.MaxParts + 4, 2 * turn.MaxParts, 1 << 31, 1 << 32, 1<<32 + 8, 1 << 60, 1 << 61, 1 << 62, 1<<62 + 4, math.MaxInt - 1, math.MaxInt}
}

// anyParts are numbers of parts of all kinds: of a turn, beyond it, and the farthest.
func anyParts() []int {
	return []int{0, 1, -1, 2, 3, -3, 5, 7, 8, -8, 12, 100, turn.MaxParts, -turn.MaxParts, 1 << 31, -1 << 31, 1 << 60, 1 << 61, -1 << 61, 1 << 62, -1 << 62, 1<<62 + 1, math.MaxInt - 1, math.MaxInt, math.MinInt, math.MinInt + 1}
}

// mixer makes odd numbers, and parts by them.
type mixer struct{ aid.Mixer }

// turn is a number of parts that a turn may have, of any length.
func (m *mixer) turn() int { return 1 + m.Below(turn.MaxParts>>uint(m.Below(27))) }

// parts is any int, of any length and sign.
func (m *mixer) parts() int { return int(m.Word()) >> uint(m.Below(64)) }
