package ints_test

import (
	"cmp"
	"math"
	"math/big"
	"slices"
	"testing"

	"tiller/aid"
	"tiller/api"
	"tiller/ints"
)

// again asks that a number of at most 53 bits is itself again, by every call that makes it a pattern, and every one whose type has it.
func again(t *testing.T, n int64, m, back api.Mode) {
	t.Helper()
	p, f := ints.Of(n, m)
	if f != none {
		t.Errorf("Of(%d, %d): flags %d", n, m, f)
	}
	if n >= 0 {
		if q, f := ints.OfPlain(uint64(n), m); q != p || f != none {
			t.Errorf("OfPlain(%d, %d): %#x, %d; want %#x", n, m, q, f, p)
		}
	}
	v := big.NewInt(n)
	for _, r := range roads {
		if r.has(v) {
			r.want(t, "again", p, back, answer{v.String(), none})
		}
	}
}

// IN3: whole numbers of at most 53 bits, the greatest and the least among them, by all roads and every mode.
func TestAgain(t *testing.T) {
	sizes := []int64{0, 1, 2, 3, 1<<31 - 1, 1 << 31, 1<<31 + 1, 1<<32 - 1, 1 << 32, 1<<32 + 1, 1<<52 - 1, 1 << 52, 1<<52 + 1, 1<<53 - 2, 1<<53 - 1}
	for n := range 53 {
		sizes = append(sizes, 1<<uint(n))
	}
	for _, n := range sizes {
		for _, m := range aid.AllModes() {
			again(t, n, m, m)
			again(t, -n, m, m)
		}
	}
}

// IN3: odd numbers of all lengths up to 53 bits, there by one mode, back by another.
func TestAgainAll(t *testing.T) {
	m := mixer{11}
	for range 50_000 {
		n := int64(m.number() & (1<<53 - 1) >> uint(m.Below(53)))
		again(t, n, m.Mode(), m.Mode())
		again(t, -n, m.Mode(), m.Mode())
		if t.Failed() {
			return
		}
	}
}

// IN3: small numbers, every one.
func TestAgainSmall(t *testing.T) {
	for n := int64(-5_000); n <= 5_000; n++ {
		again(t, n, api.Even, api.Even)
	}
}

// place is a pattern's place among numbers, from the least one up; noughts of both signs have the same one.
func place(p uint64) int64 {
	if p >= minus {
		return -int64(p &^ minus)
	}
	return int64(p)
}

// growing are numbers from -Endless up to Endless: those that are named with some of their neighbours, and odd ones.
func growing() []uint64 {
	m := mixer{13}
	all := bothSigns(0, 1, last, inf)
	for range 3_000 {
		all = append(all, m.finite())
	}
	for _, bound := range []uint64{half, one, oneHalf, two, of(1<<31-1, 0), power(31), of(1<<32-1, 0), of(1<<32+1, -1), of(1<<33-1, -1), power(32), power(52), power(53), power(63), power(64)} {
		for near := range uint64(7) {
			all = append(all, bothSigns(bound+near-3)...)
		}
	}
	slices.SortFunc(all, func(a, b uint64) int { return cmp.Compare(place(a), place(b)) })
	return all
}

// neverLess asks that numbers grow with their patterns, or stay.
func neverLess[T int32 | int64 | uint32 | uint64](t *testing.T, name string, m api.Mode, rising []uint64, call func(uint64, api.Mode, bool) (T, api.Flags)) {
	t.Helper()
	before, _ := call(rising[0], m, false)
	for _, p := range rising {
		n, _ := call(p, m, false)
		if n < before {
			t.Fatalf("%s(%#x, %d): %d, after %d", name, p, m, n, before)
		}
		before = n
	}
}

// IN3: greater patterns never become less numbers, by every mode.
func TestGreaterNeverLess(t *testing.T) {
	rising := growing()
	if rising[0] != inf+minus || rising[len(rising)-1] != inf {
		t.Fatalf("from %#x to %#x", rising[0], rising[len(rising)-1])
	}
	for _, m := range aid.AllModes() {
		neverLess(t, "To", m, rising, ints.To)
		neverLess(t, "ToPlain", m, rising, ints.ToPlain)
		neverLess(t, "ToHalf", m, rising, ints.ToHalf)
		neverLess(t, "ToPlainHalf", m, rising, ints.ToPlainHalf)
	}
}

// IN1, RN3: greater numbers never become less patterns.
func TestGreaterNumbersNeverLess(t *testing.T) {
	m := mixer{17}
	all := []int64{math.MinInt64, math.MinInt64 + 1, -1, 0, 1, math.MaxInt64 - 1, math.MaxInt64}
	for range 3_000 {
		all = append(all, int64(m.number()), -int64(m.number()))
	}
	slices.Sort(all)
	for _, mode := range aid.AllModes() {
		before := inf + uint64(minus)
		for _, n := range all {
			p, _ := ints.Of(n, mode)
			if place(p) < place(before) {
				t.Fatalf("Of(%d, %d): %#x, after %#x", n, mode, p, before)
			}
			before = p
		}
	}
}
