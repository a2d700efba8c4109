package turn_test

import (
	"math/big"
	"testing"
)

// whole is a whole number, in so many bits.
func whole(n int64) *big.Int { return new(big.Int).Lsh(big.NewInt(n), bits) }

// root is the root of a number of so many bits.
func root(x *big.Int) *big.Int {
	square := new(big.Int).Lsh(x, bits)
	return square.Sqrt(square)
}

func plus(a, b *big.Int) *big.Int  { return new(big.Int).Add(a, b) }
func minus(a, b *big.Int) *big.Int { return new(big.Int).Sub(a, b) }

// by is a number parted by a whole one.
func by(a *big.Int, n int64) *big.Int { return new(big.Int).Quo(a, big.NewInt(n)) }

// TU1: cosines and sines that roots alone tell.
func TestRootsOfNumbers(t *testing.T) {
	two, three, five := root(whole(2)), root(whole(3)), root(whole(5))
	ten, six := root(minus(whole(10), plus(five, five))), root(whole(6))
	for _, c := range []struct {
		k, n         int
		cosine, sine *big.Int
	}{
		{1, 3, by(whole(-1), 2), by(three, 2)},
		{1, 5, by(minus(five, whole(1)), 4), by(root(plus(whole(10), plus(five, five))), 4)},
		{2, 5, by(minus(whole(-1), five), 4), by(ten, 4)},
		{1, 8, by(two, 2), by(two, 2)},
		{1, 10, by(plus(five, whole(1)), 4), by(ten, 4)},
		{1, 12, by(three, 2), by(whole(1), 2)},
		{5, 12, by(three, -2), by(whole(1), 2)},
		{1, 16, by(root(plus(whole(2), two)), 2), by(root(minus(whole(2), two)), 2)},
		{11, 16, by(root(minus(whole(2), two)), -2), by(root(plus(whole(2), two)), -2)},
		{1, 24, by(plus(six, two), 4), by(minus(six, two), 4)},
		{13, 24, by(plus(six, two), -4), by(minus(six, two), -4)},
		{1, 32, by(root(plus(whole(2), root(plus(whole(2), two)))), 2), by(root(minus(whole(2), root(plus(whole(2), two)))), 2)},
	} {
		got := ask(t, c.k, c.n)
		if got.Re != nearest(t, c.cosine) || got.Im != nearest(t, c.sine) {
			t.Errorf("%d of %d: %x, not %x and %x", c.k, c.n, got, nearest(t, c.cosine), nearest(t, c.sine))
		}
	}
}

// TU1: halving the angle again and again by roots, down to the least part that there is.
func TestHalvings(t *testing.T) {
	cosine := new(big.Int)
	for n := 8; n <= 1<<26; n *= 2 {
		sine := root(by(minus(whole(1), cosine), 2))
		cosine = root(by(plus(whole(1), cosine), 2))
		got := ask(t, 1, n)
		if got.Re != nearest(t, cosine) || got.Im != nearest(t, sine) {
			t.Errorf("1 of %d: %x, not %x and %x", n, got, nearest(t, cosine), nearest(t, sine))
		}
	}
}
