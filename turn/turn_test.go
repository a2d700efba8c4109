package turn_test

import (
	"math"
	"testing"

	"tiller/aid"
	"tiller/api"
	"tiller/turn"
)

// TU1, the chapter's examples.
func TestExamples(t *testing.T) {
	if p, err := turn.Cos(1, 6); p != 0x3fe0000000000000 || err != nil {
		t.Errorf("Cos(1, 6): %x, %v", p, err)
	}
	if p, err := turn.Sin(1, 8); p != 0x3fe6a09e667f3bcd || err != nil {
		t.Errorf("Sin(1, 8): %x, %v", p, err)
	}
}

// TU1: of so many parts a turn may be.
func TestMaxParts(t *testing.T) {
	if turn.MaxParts != 67108864 {
		t.Errorf("MaxParts: %d", turn.MaxParts)
	}
	for _, n := range []int{1, 2, turn.MaxParts - 1, turn.MaxParts} {
		for _, k := range anyParts() {
			ask(t, k, n)
			if _, err := turn.Root(k, n); err != nil {
				t.Errorf("Root(%d, %d): %v", k, n, err)
			}
		}
	}
}

// TU1, TU2: of no parts, of fewer, and of too many, whatever k is.
func TestNoTurn(t *testing.T) {
	for _, n := range noTurns() {
		for _, k := range anyParts() {
			if p, err := turn.Cos(k, n); p != 0 || aid.Errno(err) != int(api.ErrArg) {
				t.Errorf("Cos(%d, %d): %x, %v", k, n, p, err)
			}
			if p, err := turn.Sin(k, n); p != 0 || aid.Errno(err) != int(api.ErrArg) {
				t.Errorf("Sin(%d, %d): %x, %v", k, n, p, err)
			}
			if p, err := turn.Root(k, n); p != (api.Pair{}) || aid.Errno(err) != int(api.ErrArg) {
				t.Errorf("Root(%d, %d): %x, %v", k, n, p, err)
			}
		}
	}
}

// TU1: the points that are just 0, a half, 1 and their other signs, 0 always +0, of all turns of few parts that have them.
func TestJustPoints(t *testing.T) {
	const third = 0x3febb67ae8584caa // the root of 3 by 2: those of a half have it on the other side
	twelfths := []api.Pair{
		{Re: api.One, Im: 0}, {Re: third, Im: half}, {Re: half, Im: third},
		{Re: 0, Im: api.One}, {Re: minusHalf, Im: third}, {Re: third | api.Sign, Im: half},
		{Re: minusOne, Im: 0}, {Re: third | api.Sign, Im: minusHalf}, {Re: minusHalf, Im: third | api.Sign},
		{Re: 0, Im: minusOne}, {Re: half, Im: third | api.Sign}, {Re: third, Im: minusHalf},
	}
	for _, by := range []int{1, 2, 3, 4, 6, 12} {
		n := 12 / by
		for k, want := range twelfths {
			if k%by != 0 {
				continue
			}
			for _, turns := range []int{0, 1, 2, -1, -2, 1000, -1000, 1 << 58, -1 << 58} {
				if got := ask(t, k/by+turns*n, n); got != want {
					t.Errorf("%d of %d: %x, not %x", k/by+turns*n, n, got, want)
				}
			}
		}
	}
}

// TU1: so, too, where a turn has many parts.
func TestJustPointsOfMany(t *testing.T) {
	for _, n := range []int{24, 120, 12 * 1000003, 12 * 5592405, 3 << 24, turn.MaxParts, turn.MaxParts - 4} {
		for k := range 12 {
			if k*n%12 != 0 {
				continue
			}
			few, many := ask(t, k, 12), ask(t, k*n/12, n)
			if few != many {
				t.Errorf("%d of %d: %x, not %x", k*n/12, n, many, few)
			}
		}
	}
}

// TU1: the eighths, of which cosine and sine are the same but for the sign.
func TestEighths(t *testing.T) {
	const root = 0x3fe6a09e667f3bcd
	for _, n := range []int{8, 16, 1 << 25, turn.MaxParts} {
		for k, want := range map[int]api.Pair{
			1: {Re: root, Im: root}, 3: {Re: root | api.Sign, Im: root},
			5: {Re: root | api.Sign, Im: root | api.Sign}, 7: {Re: root, Im: root | api.Sign},
		} {
			if got := ask(t, k*(n/8), n); got != want {
				t.Errorf("%d of %d: %x", k*(n/8), n, got)
			}
		}
	}
}

// TU1: the least and the greatest k, and those that four times would not fit an int.
func TestFarParts(t *testing.T) {
	m := mixer{101}
	for _, n := range []int{1, 2, 3, 4, 5, 6, 7, 8, 12, 1000, 67108859, turn.MaxParts - 1, turn.MaxParts, m.turn(), m.turn()} {
		for _, k := range append(anyParts(), m.parts(), m.parts()) {
			if got, want := ask(t, k, n), ask(t, rest(k, n), n); got != want {
				t.Errorf("%d of %d: %x, not %x", k, n, got, want)
			}
			if got, want := ask(t, k, n), exact(t, k, n); got != want {
				t.Errorf("%d of %d: %x, not %x", k, n, got, want)
			}
		}
	}
	// 2^63 is 1 modulo 7, and 2 modulo 3.
	if ask(t, math.MinInt, 7) != ask(t, 6, 7) || ask(t, math.MinInt, 3) != ask(t, 1, 3) || ask(t, math.MaxInt, 7) != ask(t, 0, 7) {
		t.Error("the least and the greatest int")
	}
}

// TU1: next to 0 and next to 1, of the most parts: the sine is less than Pi by 2^25 by a sixth of its cube, that is 10.3 last bits of Pi's pattern 0x..2d18.5, and the cosine less than 1 by half its square, 39.5 times 2^-53.
func TestLeastAngle(t *testing.T) {
	const n, cosine, sine = turn.MaxParts, 0x3fefffffffffffd9, 0x3e7921fb54442d0e
	for k, want := range map[int]api.Pair{
		1: {Re: cosine, Im: sine}, -1: {Re: cosine, Im: sine | api.Sign},
		n/4 - 1: {Re: sine, Im: cosine}, n/4 + 1: {Re: sine | api.Sign, Im: cosine},
		n/2 - 1: {Re: cosine | api.Sign, Im: sine}, n/2 + 1: {Re: cosine | api.Sign, Im: sine | api.Sign},
		3*n/4 - 1: {Re: sine | api.Sign, Im: cosine | api.Sign}, 3*n/4 + 1: {Re: sine, Im: cosine | api.Sign},
	} {
		if got := ask(t, k, n); got != want {
			t.Errorf("%d of %d: %x, not %x", k, n, got, want)
		}
	}
}

// TU1: all points of turns of few parts, against cosines and sines that are found in another way, with more bits.
func TestFew(t *testing.T) {
	for n := 1; n <= 128; n++ {
		for k := range n {
			if got, want := ask(t, k, n), exact(t, k, n); got != want {
				t.Fatalf("%d of %d: %x, not %x", k, n, got, want)
			}
		}
	}
}

// TU1: so, too, where cosines and sines are next to 0, to a half, to 1 or to each other, of great n.
func TestGreat(t *testing.T) {
	for _, n := range greatTurns() {
		for _, k := range places(n) {
			if got, want := ask(t, k, n), exact(t, k, n); got != want {
				t.Fatalf("%d of %d: %x, not %x", k, n, got, want)
			}
		}
	}
}

// TU1: so, too, any parts of any turn.
func TestAny(t *testing.T) {
	m := mixer{103}
	for range 10_000 {
		k, n := m.parts(), m.turn()
		if got, want := ask(t, k, n), exact(t, k, n); got != want {
			t.Fatalf("%d of %d: %x, not %x", k, n, got, want)
		}
	}
}
