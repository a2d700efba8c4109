package nat_test

import (
	"math/big"
	"slices"
	"testing"

	"tiller/api"
	"tiller/nat"
)

// NT1, DivMod.
func TestDivMod(t *testing.T) {
	for _, c := range []struct{ a, b, quotient, rest nat.N }{
		{nil, nat.N{1}, nil, nil},
		{nil, most(), nil, nil},
		{nat.N{7}, nat.N{2}, nat.N{3}, nat.N{1}},
		{nat.N{7}, nat.N{7}, nat.N{1}, nil},
		{nat.N{6}, nat.N{7}, nil, nat.N{6}},
		{nat.N{full}, nat.N{0, 1}, nil, nat.N{full}},
		{nat.N{5, 6, 7}, nat.N{1}, nat.N{5, 6, 7}, nil},
		{nat.N{5, 6, 7}, nat.N{0, 1}, nat.N{6, 7}, nat.N{5}},
		{nat.N{5, 6, 7}, nat.N{5, 6, 7}, nat.N{1}, nil},
		{nat.N{5, 6, 7}, nat.N{6, 6, 7}, nil, nat.N{5, 6, 7}},
		{nat.N{full, full, full}, nat.N{full}, nat.N{1, 1, 1}, nil},
		{nat.N{0, 0, 1}, nat.N{10}, nat.N{0x99999999, 0x19999999}, nat.N{6}},
		// the highest words are the same, so that the guess is as great as a word can be
		{nat.N{0, 0, 1 << 31}, nat.N{1, 1 << 31}, nat.N{full}, nat.N{1, 1<<31 - 1}},
		// what is guessed is too great by one, and by two
		{nat.N{0, 0, 1}, nat.N{1, 1 << 31}, nat.N{1}, nat.N{full, 1<<31 - 1}},
		{nat.N{0, 0, 1 << 31}, nat.N{1<<31 + 1, 1 << 31}, nat.N{full - 1}, nat.N{2, 1 << 31}},
		{nat.N{0, 0, 1<<31 - 1}, nat.N{full, 1 << 31}, nat.N{full - 3}, nat.N{full - 3, 4}},
		{nat.N{0, 0, 0, 1<<31 - 1}, nat.N{0, full, 1 << 31}, nat.N{full - 3}, nat.N{0, full - 3, 4}},
		{most(), nat.N{1}, most(), nil},
		{most(), most(), nat.N{1}, nil},
		{most(), power(131072), words(4096, full), words(4096, full)},
		{power(262143), most(), nil, power(262143)},
	} {
		quotient, rest, err := nat.DivMod(c.a, c.b)
		wantNumber(t, "DivMod of "+brief(c.a)+", "+brief(c.b), quotient, err, c.quotient)
		wantNumber(t, "DivMod of "+brief(c.a)+", "+brief(c.b)+", the rest", rest, err, c.rest)
	}
}

// NT1, DivMod: division by nothing.
func TestDivModByNothing(t *testing.T) {
	for _, a := range []nat.N{nil, {1}, {full, full}, most()} {
		for _, b := range []nat.N{nil, {}} {
			quotient, rest, err := nat.DivMod(a, b)
			wantError(t, "DivMod", quotient, err, api.ErrZero)
			wantError(t, "DivMod, the rest", rest, err, api.ErrZero)
		}
	}
}

// NT4: quotient times b and the rest are a, the rest below b.
func TestDivModLaw(t *testing.T) {
	eachPair(t, func(a, b nat.N) bool { return len(b) == 0 || parted(a, b) })
	m := mixer{3}
	// Divisors that are close to a power of 2^32 make guesses that are too great.
	for range 20000 {
		a := m.number(7)
		b := append(m.number(2), 0, 1<<31)
		b[len(b)-2] = uint32(m.Word() % 3)
		if !parted(a, b) || !parted(append(a, 1<<31-1+uint32(m.Word()%2)), b) {
			t.Fatalf("at %s, %s", brief(a), brief(b))
		}
	}
	for range 8 {
		if a, b := m.number(8192), m.number(8192); len(b) > 0 && !parted(a, b) {
			t.Fatalf("at %s, %s", brief(a), brief(b))
		}
	}
}

// parted tells whether a quotient and a rest are right, by the law and by other means.
func parted(a, b nat.N) bool {
	quotient, rest, err := nat.DivMod(a, b)
	if err != nil || nat.Check(quotient) != nil || nat.Check(rest) != nil {
		return false
	}
	q, r := new(big.Int).QuoRem(toBig(a), toBig(b), new(big.Int))
	if !slices.Equal(quotient, fromBig(q)) || !slices.Equal(rest, fromBig(r)) {
		return false
	}
	product, err := nat.Mul(quotient, b)
	if err != nil {
		return false
	}
	whole, err := nat.Add(product, rest)
	if err != nil || !slices.Equal(whole, a) {
		return false
	}
	order, err := nat.Cmp(rest, b)
	return err == nil && order == -1
}
