package plan_test

import (
	"math"
	"slices"
	"testing"

	"tiller/aid"
	"tiller/api"
	"tiller/plan"
)

// wantMade fails, if the plan of a length is another one.
func wantMade(t *testing.T, n int, wanted plan.Plan) {
	t.Helper()
	if has, err := plan.Make(n); !same(has, wanted) || err != nil {
		t.Errorf("Make(%d): %v, %v; want %v", n, has, err, wanted)
	}
}

// PL1: the chapter's examples, and lengths that a plan of each kind is told for here.
func TestMake(t *testing.T) {
	wantMade(t, 12, byParts(12, 4, 3))
	wantMade(t, 17, padded(17, 64))
	wantMade(t, 1, byParts(1))
	for _, r := range lengths() {
		wantMade(t, r, byParts(r, r))
	}
	wantMade(t, 6, byParts(6, 2, 3))
	wantMade(t, 8, byParts(8, 4, 2))
	wantMade(t, 16, byParts(16, 4, 4))
	wantMade(t, 26, byParts(26, 2, 13))
	wantMade(t, 143, byParts(143, 11, 13))
	wantMade(t, 1000, byParts(1000, 4, 2, 5, 5, 5))
	wantMade(t, 60_060, byParts(60_060, 4, 3, 5, 7, 11, 13))
	wantMade(t, 120_120, byParts(120_120, 4, 2, 3, 5, 7, 11, 13))
	wantMade(t, 1_081_080, byParts(1_081_080, 4, 2, 3, 3, 3, 5, 7, 11, 13))
}

// PL1: powers of each radix alone, up to the greatest: 2s are 4s, and one 2 behind them where their number is odd.
func TestMakeOfPowers(t *testing.T) {
	for k := range 25 {
		fours := slices.Repeat([]int{4}, k/2)
		if k%2 == 1 {
			fours = append(fours, 2)
		}
		wantMade(t, 1<<k, byParts(1<<k, fours...))
	}
	for _, r := range []int{3, 5, 7, 11, 13} {
		var all []int
		for n := r; n <= greatest; n *= r {
			all = append(all, r)
			wantMade(t, n, byParts(n, all...))
		}
	}
}

// PL1: ErrArg, and nothing beside it, of lengths below 1, and above the greatest.
func TestMakeOfNone(t *testing.T) {
	for _, n := range []int{0, -1, -2, -12, -greatest, math.MinInt32, math.MinInt, greatest + 1, greatest + 2, 2 * greatest, farthest, math.MaxInt32, 1 << 32, 1<<32 + 12, math.MaxInt} {
		if p, err := plan.Make(n); !empty(p) || aid.Errno(err) != int(api.ErrArg) {
			t.Errorf("Make(%d): %v, %v", n, p, err)
		}
	}
	if api.MaxLen != greatest || plan.MaxPad != farthest {
		t.Errorf("limits %d, %d", api.MaxLen, plan.MaxPad)
	}
}

// PL1: lengths with a number in them that no little transform has are padded, with the least power of two that is at least 2 n - 1.
func TestMakePadded(t *testing.T) {
	wantMade(t, 19, padded(19, 64))
	wantMade(t, 31, padded(31, 64))
	wantMade(t, 34, padded(34, 128))
	wantMade(t, 17*17, padded(289, 1024))
	wantMade(t, 257, padded(257, 1024))
	wantMade(t, 511, padded(511, 1024))
	wantMade(t, 514, padded(514, 2048))
	wantMade(t, 4*3*17, padded(204, 512))
	wantMade(t, 13*17, padded(221, 512))
	wantMade(t, 8_388_593, padded(8_388_593, greatest))
	wantMade(t, lastPrime, padded(lastPrime, 2*greatest))
	wantMade(t, greatest-1, padded(greatest-1, 2*greatest))
	wantMade(t, greatest/17*17, padded(16_777_215, 2*greatest))
	wantMade(t, 17<<19, padded(17<<19, greatest*2))
	wantMade(t, 31<<19, padded(31<<19, greatest*2))
	wantMade(t, 31<<18, padded(31<<18, greatest))
	// Next to a power of two the least Pad changes: 2^23 itself has parts, 2^23 + 1 is the least that 2^24 is too little for.
	wantMade(t, 1<<23-1, padded(1<<23-1, greatest))
	wantMade(t, 1<<23+1, padded(1<<23+1, 2*greatest))
}

// PL1, PL4: the plans of all little lengths and of odd greater ones are those of the rule, and may be, and none with less padding may be.
func TestMakeOfAll(t *testing.T) {
	m := mixer{3}
	var all []int
	for n := 1; n <= 20_000; n++ {
		all = append(all, n)
	}
	for k := 1; k <= 24; k++ {
		all = append(all, 1<<k-1, 1<<k, min(1<<k+1, greatest))
	}
	for range 5000 {
		all = append(all, 1+m.Below(greatest), m.product().N)
	}
	for _, n := range all {
		wanted := made(n)
		wantMade(t, n, wanted)
		wantAny(t, wanted)
		if wanted.Pad != 0 && plan.Check(padded(n, wanted.Pad/2)) == nil {
			t.Errorf("%d may be padded to less than %d", n, wanted.Pad)
		}
	}
}
