package plan_test

import (
	"math"
	"slices"
	"testing"

	"tiller/plan"
)

// PL1: plans part by part: radices in any order, and 2s that might be 4s.
func TestCheckParts(t *testing.T) {
	for _, p := range []plan.Plan{
		byParts(1), {N: 1, Radix: []int{}}, byParts(12, 3, 4), byParts(12, 4, 3), byParts(12, 2, 3, 2), byParts(4, 2, 2), byParts(8, 2, 4),
		byParts(greatest, slices.Repeat([]int{2}, 24)...), byParts(greatest, slices.Repeat([]int{4}, 12)...), byParts(11*13, 13, 11), byParts(14_348_907, slices.Repeat([]int{3}, 15)...),
	} {
		if err := plan.Check(p); err != nil {
			t.Errorf("Check(%v): %v", p, err)
		}
	}
}

// PL1, PL2, PL3: ErrPlan of lengths that are none, of both kinds.
func TestNoLength(t *testing.T) {
	for _, n := range []int{0, -1, -2, -17, math.MinInt, math.MinInt + 1, greatest + 1, 2 * greatest, farthest, 1<<32 + 1, math.MaxInt, math.MaxInt/2 + 1, math.MaxInt/2 + 2} {
		for _, p := range []plan.Plan{byParts(n), byParts(n, 2), byParts(n, n), padded(n, 1), padded(n, 64), padded(n, farthest), padded(n, math.MinInt)} {
			wantNone(t, p)
		}
	}
	wantNone(t, byParts(2*greatest, slices.Repeat([]int{2}, 25)...))
	wantNone(t, byParts(3*greatest/2, append(slices.Repeat([]int{4}, 11), 2, 3)...))
	wantNone(t, byParts(0))
	wantNone(t, plan.Plan{})
}

// PL1, PL2, PL3: ErrPlan of radices whose product is another one, none or too great to be a number of the machine.
func TestWrongProduct(t *testing.T) {
	for _, p := range []plan.Plan{
		byParts(2), byParts(17), byParts(12), byParts(1, 2), byParts(12, 4), byParts(12, 3), byParts(12, 4, 3, 2), byParts(12, 3, 3), byParts(12, 2, 2, 2), byParts(24, 4, 3), byParts(6, 4, 3), byParts(5, 2, 3),
		byParts(1, slices.Repeat([]int{4}, 32)...), byParts(4, slices.Repeat([]int{4}, 33)...), byParts(greatest, slices.Repeat([]int{4}, 13)...), byParts(greatest, slices.Repeat([]int{4}, 11)...), byParts(1, slices.Repeat([]int{2}, 64)...), byParts(1, slices.Repeat([]int{2}, 1_000_000)...),
	} {
		wantNone(t, p)
	}
	// A product that in 64 bits would be as asked for, since what is beyond 2^24 is 1 more than a number times 2^40.
	wrapped := slices.Concat(slices.Repeat([]int{4}, 12), slices.Repeat([]int{3}, 36), slices.Repeat([]int{5}, 75), slices.Repeat([]int{7}, 88), slices.Repeat([]int{11}, 554), slices.Repeat([]int{13}, 265))
	product := 1
	for _, r := range wrapped {
		product *= r
	}
	if product != greatest {
		t.Fatalf("the product is %d", product)
	}
	wantNone(t, byParts(greatest, wrapped...))
}

// PL1, PL2, PL3: ErrPlan of radices that are none, though the product is right.
func TestWrongRadix(t *testing.T) {
	for _, p := range []plan.Plan{
		byParts(1, 1), byParts(1, 1, 1), byParts(2, 1, 2), byParts(2, 2, 1), byParts(6, 6), byParts(8, 8), byParts(9, 9), byParts(10, 10), byParts(12, 12), byParts(12, 2, 6), byParts(14, 14), byParts(15, 15), byParts(16, 16), byParts(17, 17), byParts(19, 19), byParts(34, 2, 17), byParts(26, 26), byParts(169, 169),
		byParts(4, -2, -2), byParts(4, -4, -1), byParts(1, -1, -1), byParts(12, 4, -3, -1), byParts(12, 4, 3, 1), byParts(2, 0), byParts(2, 2, 0), byParts(1, 0), byParts(0, 0), byParts(2, math.MinInt, 2), byParts(2, 2, math.MaxInt),
		byParts(12, 4, 1<<32+3), byParts(4, 256+4), byParts(lastPrime, lastPrime), byParts(greatest, greatest), byParts(greatest, 4096, 4096),
	} {
		wantNone(t, p)
	}
	for k := 4; k < 63; k++ {
		wantNone(t, byParts(1<<k, 1<<k))
		wantNone(t, byParts(1<<(k/2+1)*4, 1<<(k/2+1), 4))
	}
	for r := -20; r <= 400; r++ {
		wantAny(t, byParts(r, r))
		wantAny(t, byParts(3*r, 3, r))
		wantAny(t, byParts(4*r, r, 4))
	}
}

// PL1: padded plans from the least Pad to the greatest, of lengths of parts, too.
func TestCheckPadded(t *testing.T) {
	for _, p := range []plan.Plan{
		padded(1, 1), padded(1, 2), padded(1, farthest), padded(2, 4), padded(3, 8), padded(4, 8), padded(12, 32), padded(17, 64), padded(17, 128), padded(17, farthest), {N: 17, Radix: []int{}, Pad: 64}, {N: 17, Radix: make([]int, 0, 4), Pad: 64},
		padded(lastPrime, 2*greatest), padded(lastPrime, farthest), padded(greatest, 2*greatest), padded(greatest, farthest), padded(greatest/2, greatest),
	} {
		if err := plan.Check(p); err != nil {
			t.Errorf("Check(%v): %v", p, err)
		}
	}
}

// PL1, PL2, PL3: ErrPlan of a Pad that is no power of two, too little or too great, or beside radices.
func TestWrongPad(t *testing.T) {
	for _, p := range []plan.Plan{
		padded(2, 1), padded(2, 2), padded(3, 4), padded(17, 32), padded(17, 16), padded(17, 1), padded(33, 64), padded(greatest, greatest), padded(greatest/2+1, greatest), padded(lastPrime, greatest),
		padded(17, 33), padded(17, 34), padded(17, 63), padded(17, 65), padded(17, 96), padded(1, 3), padded(2, 3), padded(2, 6), padded(17, farthest-1), padded(17, farthest-64), padded(17, farthest/2+1),
		padded(17, 2*farthest), padded(17, farthest+1), padded(17, farthest+64), padded(1, 1<<32), padded(1, 1<<32+1), padded(1, 1<<62), padded(1, math.MaxInt),
		padded(1, -1), padded(1, -2), padded(17, -64), padded(17, math.MinInt), padded(17, math.MinInt+64), padded(1, math.MinInt),
		{N: 12, Radix: []int{4, 3}, Pad: 32}, {N: 12, Radix: []int{4}, Pad: 32}, {N: 12, Radix: []int{4, 3}, Pad: 12}, {N: 1, Radix: []int{1}, Pad: 1}, {N: 17, Radix: []int{17}, Pad: 64}, {N: 17, Radix: []int{0}, Pad: 64}, {N: 12, Radix: []int{4, 3}, Pad: -1},
	} {
		wantNone(t, p)
	}
	for n := 1; n <= 70; n++ {
		for pad := -40; pad <= 300; pad++ {
			wantAny(t, padded(n, pad))
		}
	}
	// The least Pad of lengths about each power of two.
	for k := 1; k <= 24; k++ {
		for n := 1<<k - 1; n <= min(1<<k+1, greatest); n++ {
			for pad := 1; pad <= 4*farthest; pad *= 2 {
				wantAny(t, padded(n, pad))
			}
		}
	}
}
