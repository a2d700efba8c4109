package nat_test

import (
	"math"
	"math/big"
	"math/bits"
	"testing"

	"tiller/api"
	"tiller/nat"
)

// NT2, Pow: the chapter's example, and edges.
func TestPow(t *testing.T) {
	twenty, err := nat.Pow(10, 20)
	wantNumber(t, "Pow(10, 20)", twenty, err, nat.N{0x63100000, 0x6bc75e2d, 5})
	if got := nat.Len(twenty); got != 67 {
		t.Errorf("Len of Pow(10, 20): %d", got)
	}
	for _, c := range []struct {
		base uint32
		n    int
		want nat.N
	}{
		{0, 0, nat.N{1}},
		{0, 1, nil},
		{0, 2, nil},
		{0, 1_000_000, nil},
		{1, 0, nat.N{1}},
		{1, 1, nat.N{1}},
		{1, 1_000_000, nat.N{1}},
		{2, 0, nat.N{1}},
		{2, 1, nat.N{2}},
		{2, 31, nat.N{1 << 31}},
		{2, 32, nat.N{0, 1}},
		{2, 262143, power(262143)},
		{4, 131071, power(262142)},
		{1 << 31, 8456, power(262136)},
		{3, 165394, fromBig(new(big.Int).Exp(big.NewInt(3), big.NewInt(165394), nil))},
		{10, 78913, fromBig(new(big.Int).Exp(big.NewInt(10), big.NewInt(78913), nil))},
		{full, 0, nat.N{1}},
		{full, 1, nat.N{full}},
		{full, 2, nat.N{1, full - 1}},
		{full, 8192, fromBig(new(big.Int).Exp(big.NewInt(full), big.NewInt(8192), nil))},
	} {
		got, err := nat.Pow(c.base, c.n)
		wantNumber(t, "Pow", got, err, c.want)
	}
}

// NT2, Pow: how often is no number, and what is too long.
func TestPowErrors(t *testing.T) {
	for _, base := range []uint32{0, 1, 2, 10, full} {
		for _, n := range []int{-1, -2, math.MinInt, 1_000_001, 1 << 32, math.MaxInt} {
			got, err := nat.Pow(base, n)
			wantError(t, "Pow", got, err, api.ErrArg)
		}
	}
	for _, c := range []struct {
		base uint32
		n    int
	}{{2, 262144}, {2, 1_000_000}, {3, 165395}, {4, 131072}, {10, 78914}, {10, 1_000_000}, {1 << 31, 8457}, {full, 8193}, {full, 1_000_000}} {
		got, err := nat.Pow(c.base, c.n)
		wantError(t, "Pow", got, err, api.ErrLong)
	}
}

// NT2, Pow: against other means, as far as a number may go.
func TestPowAll(t *testing.T) {
	for _, base := range []uint32{2, 3, 5, 7, 10, 16, 1000, 65535, 65536, 1_000_000_007, full} {
		last := 262144 / bits.Len32(base-1)
		for _, n := range []int{2, 3, 4, 5, 6, 7, 8, 9, 15, 16, 17, 31, 100, 255, 1000, last - 1, last, last + 1} {
			got, err := nat.Pow(base, n)
			if !holds(got, err, new(big.Int).Exp(big.NewInt(int64(base)), big.NewInt(int64(n)), nil)) {
				t.Errorf("Pow(%d, %d): %s, %v", base, n, brief(got), err)
			}
		}
	}
}

// NT2, Shl.
func TestShl(t *testing.T) {
	for _, c := range []struct {
		a    nat.N
		n    int
		want nat.N
	}{
		{nil, 0, nil},
		{nil, 1, nil},
		{nil, 262144, nil},
		{nil, math.MaxInt, nil},
		{nat.N{5}, 0, nat.N{5}},
		{nat.N{5}, 1, nat.N{10}},
		{nat.N{1}, 31, nat.N{1 << 31}},
		{nat.N{1}, 32, nat.N{0, 1}},
		{nat.N{1}, 33, nat.N{0, 2}},
		{nat.N{1 << 31}, 1, nat.N{0, 1}},
		{nat.N{full, full}, 4, nat.N{full - 15, full, 15}},
		{nat.N{full, full}, 36, nat.N{0, full - 15, full, 15}},
		{nat.N{0x89abcdef, 0x1234567}, 64, nat.N{0, 0, 0x89abcdef, 0x1234567}},
		{nat.N{1}, 262143, power(262143)},
		{nat.N{3}, 262142, append(words(8191, 0), 3<<30)},
		{nat.N{full}, 262112, append(words(8191, 0), full)},
		{most(), 0, most()},
		{power(262142), 1, power(262143)},
	} {
		got, err := nat.Shl(c.a, c.n)
		wantNumber(t, "Shl", got, err, c.want)
	}
}

// NT2, Shl: moved by less than nothing, and too far.
func TestShlErrors(t *testing.T) {
	for _, a := range []nat.N{nil, {1}, {full, full}, most()} {
		for _, n := range []int{-1, -32, -33, math.MinInt, math.MinInt + 1} {
			got, err := nat.Shl(a, n)
			wantError(t, "Shl", got, err, api.ErrArg)
		}
	}
	for _, c := range []struct {
		a nat.N
		n int
	}{{nat.N{1}, 262144}, {nat.N{2}, 262143}, {nat.N{3}, 262143}, {nat.N{full}, 262113}, {most(), 1}, {power(262143), 1}, {most(), math.MaxInt}, {nat.N{1}, math.MaxInt}, {nat.N{1}, math.MaxInt - 31}} {
		got, err := nat.Shl(c.a, c.n)
		wantError(t, "Shl", got, err, api.ErrLong)
	}
}

// NT2, Shl and Len: against other means.
func TestShlAll(t *testing.T) {
	m := mixer{5}
	all := corners()
	for range 200 {
		all = append(all, m.number(9))
	}
	for _, a := range all {
		for _, n := range []int{0, 1, 2, 5, 16, 30, 31, 32, 33, 63, 64, 65, 95, 96, 1000, 262048, 262080, 262112, 262143, 262144} {
			got, err := nat.Shl(a, n)
			want := new(big.Int).Lsh(toBig(a), uint(n))
			if !holds(got, err, want) {
				t.Fatalf("Shl(%s, %d): %s, %v", brief(a), n, brief(got), err)
			}
			if err == nil && nat.Len(got) != want.BitLen() {
				t.Fatalf("Len of %s: %d", brief(got), nat.Len(got))
			}
		}
	}
}

// NT2, Len.
func TestLen(t *testing.T) {
	for _, c := range []struct {
		a    nat.N
		want int
	}{{nil, 0}, {nat.N{}, 0}, {nat.N{1}, 1}, {nat.N{2}, 2}, {nat.N{3}, 2}, {nat.N{full}, 32}, {nat.N{0, 1}, 33}, {nat.N{full, 1}, 33}, {nat.N{0, 0, 1 << 31}, 96}, {power(262112), 262113}, {power(262143), 262144}, {most(), 262144}} {
		if got := nat.Len(c.a); got != c.want {
			t.Errorf("Len(%s): %d; want %d", brief(c.a), got, c.want)
		}
	}
	for n := range 200 {
		if got := nat.Len(power(n)); got != n+1 {
			t.Errorf("Len of 2^%d: %d", n, got)
		}
	}
}
