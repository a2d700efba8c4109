package scale_test

import (
	"math/big"
	"testing"
)

// SC2 and chapter 5's words: what is no number.
func TestStepNoNumber(t *testing.T) { step.noNumbers(t) }

// SC2: noughts, and Endless: a distance has no sign.
func TestStepEnds(t *testing.T) {
	for _, a := range noughts {
		step.pattern(t, "0", a, 1)
	}
	for _, a := range endless {
		step.pattern(t, "Endless", a, inf)
	}
}

// SC2: some patterns, the answers written out.
func TestStepKnown(t *testing.T) {
	for _, c := range []struct {
		what    string
		a, want uint64
	}{
		{"the least", 1, 1},
		{"two of it", 2, 1},
		{"the last tiny one", leastBig - 1, 1},
		{"the least plain one", leastBig, 1},
		{"next above it", leastBig + 1, 1},
		{"the last of its power", 2*leastBig - 1, 1},
		{"the next power", 2 * leastBig, 2},
		{"the last of that", 3*leastBig - 1, 2},
		{"the greatest with a tiny step", power(-970) - 1, leastBig / 2},
		{"the least with a plain step", power(-970), leastBig},
		{"1", one, 0x3cb0000000000000},
		{"next above 1", one + 1, 0x3cb0000000000000},
		{"next below 1", one - 1, 0x3ca0000000000000},
		{"next below 2", two - 1, 0x3cb0000000000000},
		{"2", two, 0x3cc0000000000000},
		{"2^52", power(52), one},
		{"next below 2^52", power(52) - 1, half},
		{"2^53", power(53), two},
		{"next below the greatest power", power(1023) - 1, power(970)},
		{"the greatest power", power(1023), power(971)},
		{"next above it", power(1023) + 1, power(971)},
		{"below the greatest", last - 1, power(971)},
		{"the greatest", last, 0x7ca0000000000000},
	} {
		for _, a := range bothSigns(c.a) {
			step.pattern(t, c.what, a, c.want)
		}
	}
}

// SC2: every power of two, and the patterns next to it on both sides.
func TestStepOfPowers(t *testing.T) {
	unit := func(n int) uint64 { return power(max(n-52, -1074)) }
	for n := -1073; n <= 1023; n++ {
		for _, sign := range []uint64{0, minus} {
			step.pattern(t, "next below a power", power(n)-1+sign, unit(n-1))
			step.pattern(t, "a power", power(n)+sign, unit(n))
			step.pattern(t, "next above a power", power(n)+1+sign, unit(n))
		}
	}
}

// SC2, all of it of finite patterns, word for word: the next greater size less the size; of the greatest one, that less the one below it.
func TestStepAll(t *testing.T) {
	m := mixer{23}
	for range 60_000 {
		a := m.finite()
		size := min(a&^minus, last-1)
		distance := new(big.Int).Sub(sizeOf(size+1, 0), sizeOf(size, 0))
		z := step.of(a)
		if z.f != none || z.p >= inf || sizeOf(z.p, 0).Cmp(distance) != 0 {
			t.Fatalf("Step(%#x): %#x, %d", a, z.p, z.f)
		}
	}
}
