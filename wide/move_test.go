package wide_test

import (
	"math"
	"math/big"
	"testing"

	"tiller/wide"
)

// moves are the counts, and all that lie in and around a number.
func moves() []int {
	all := counts()
	for n := -2; n <= 260; n++ {
		all = append(all, n)
	}
	return all
}

// WD2.
func TestShl(t *testing.T) {
	for _, c := range []struct {
		a    wide.W
		n    int
		want wide.W
	}{
		{wide.Of(5), 1, wide.Of(10)},
		{wide.Of(1), 200, power(200)},
		{most, math.MinInt, most},
		{most, -1, most},
		{most, 0, most},
		{most, 63, wide.W{1 << 63, full, full, full}},
		{most, 64, wide.W{0, full, full, full}},
		{most, 65, wide.W{0, full - 1, full, full}},
		{most, 255, power(255)},
		{most, 256, wide.Of(0)},
		{most, 320, wide.Of(0)},
		{most, math.MaxInt, wide.Of(0)},
	} {
		if got := wide.Shl(c.a, c.n); got != c.want {
			t.Errorf("Shl(%x, %d): %x", c.a, c.n, got)
		}
	}
}

// WD2.
func TestShlAll(t *testing.T) {
	eachOne(t, func(a wide.W) bool {
		exact := toBig(a)
		for _, n := range moves() {
			want := fromBig(new(big.Int).Lsh(exact, uint(min(max(n, 0), 256))))
			if got := wide.Shl(a, n); got != want {
				t.Errorf("Shl(%x, %d): %x", a, n, got)
				return false
			}
		}
		return true
	})
}

// WD2.
func TestShr(t *testing.T) {
	for _, c := range []struct {
		a    wide.W
		n    int
		want wide.W
		lost bool
	}{
		{wide.Of(10), 1, wide.Of(5), false},
		{wide.Of(11), 1, wide.Of(5), true},
		{power(200), 200, wide.Of(1), false},
		{power(200), 201, wide.Of(0), true},
		{most, math.MinInt, most, false},
		{most, -1, most, false},
		{most, 0, most, false},
		{most, 63, below(193), true},
		{most, 64, below(192), true},
		{wide.W{0, full, full, full}, 64, below(192), false},
		{most, 65, below(191), true},
		{most, 255, wide.Of(1), true},
		{power(255), 255, wide.Of(1), false},
		{most, 256, wide.Of(0), true},
		{power(255), 256, wide.Of(0), true},
		{wide.Of(0), 256, wide.Of(0), false},
		{most, math.MaxInt, wide.Of(0), true},
		{wide.Of(0), math.MaxInt, wide.Of(0), false},
	} {
		if got, lost := wide.Shr(c.a, c.n); got != c.want || lost != c.lost {
			t.Errorf("Shr(%x, %d): %x, %v", c.a, c.n, got, lost)
		}
	}
}

// WD2.
func TestShrAll(t *testing.T) {
	eachOne(t, func(a wide.W) bool {
		exact := toBig(a)
		for _, n := range moves() {
			by := uint(min(max(n, 0), 256))
			cut := new(big.Int).Rsh(exact, by)
			lost := new(big.Int).Lsh(cut, by).Cmp(exact) != 0
			if got, told := wide.Shr(a, n); got != fromBig(cut) || told != lost {
				t.Errorf("Shr(%x, %d): %x, %v", a, n, got, told)
				return false
			}
		}
		return true
	})
}
