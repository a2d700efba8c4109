package narrow_test

import (
	"cmp"
	"slices"
	"testing"

	"tiller/aid"
	"tiller/api"
	"tiller/narrow"
)

// again asks that a number of 32 bits is the same pattern again, by a mode.
func again(t *testing.T, q uint32, m api.Mode) {
	t.Helper()
	p, f := narrow.From(q)
	if f != none {
		t.Fatalf("From(%#x): flags %d", q, f)
	}
	if z := to(p, m); z != (answer{q, none}) {
		t.Fatalf("To of From(%#x), by %d: %#x, %d", q, m, z.q, z.f)
	}
}

// NA3: numbers of every exponent and both signs, of edge fractions and of odd ones, Endless among them, by every mode.
func TestAgain(t *testing.T) {
	m := mixer{13}
	for e := range uint32(255) {
		for _, f := range []uint32{0, 1, 2, 3, 1<<22 - 1, 1 << 22, 1<<22 + 1, 1<<23 - 2, 1<<23 - 1, uint32(m.Below(1 << 23)), uint32(m.Below(1 << 23))} {
			for _, q := range bothSigns4(e<<23 + f) {
				for _, mode := range aid.AllModes() {
					again(t, q, mode)
				}
			}
		}
	}
	for _, q := range numbers4 {
		for _, mode := range aid.AllModes() {
			again(t, q, mode)
		}
	}
}

// NA3: odd numbers, each by a mode.
func TestAgainAll(t *testing.T) {
	m := mixer{17}
	for range 300_000 {
		if q := m.any4(); q&^minus4 <= inf4 {
			again(t, q, m.Mode())
		}
	}
}

// NA1: the other sign is rounded as the size is, Up and Down changing places.
func TestMirror(t *testing.T) {
	m := mixer{29}
	turned := map[api.Mode]api.Mode{api.Up: api.Down, api.Down: api.Up}
	for range 50_000 {
		p, mode := m.finite(), m.Mode()
		other, ok := turned[mode]
		if !ok {
			other = mode
		}
		z := to(p, mode)
		wantTo(t, "mirrored", p^minus, other, answer{z.q ^ minus4, z.f})
		if t.Failed() {
			return
		}
	}
}

// place is a pattern's place among numbers, from the least one up; noughts of both signs have the same one.
func place(p uint64) int64 {
	if p >= minus {
		return -int64(p &^ minus)
	}
	return int64(p)
}

func place4(q uint32) int64 { return place(uint64(q)<<32) >> 32 }

// NA1 and RN3: of two numbers the greater one is never rounded to a less one, by every mode.
func TestGreaterNeverLess(t *testing.T) {
	m := mixer{31}
	rising := slices.Clone(numbers)
	for range 5_000 {
		p := m.finite()
		rising = append(rising, p, p+1, p-1)
	}
	rising = slices.DeleteFunc(rising, func(p uint64) bool { return p&^minus > inf })
	slices.SortFunc(rising, func(a, b uint64) int { return cmp.Compare(place(a), place(b)) })
	for _, mode := range aid.AllModes() {
		before := uint32(inf4 + minus4)
		for _, p := range rising {
			q, _ := narrow.To(p, mode)
			if place4(q) < place4(before) {
				t.Fatalf("To(%#x, %d): %#x, after %#x", p, mode, q, before)
			}
			before = q
		}
	}
}
