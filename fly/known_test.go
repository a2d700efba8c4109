package fly_test

import (
	"slices"
	"testing"

	"tiller/api"
	"tiller/turn"
)

// FL1: the chapter's example, and others of 2 numbers.
func TestTwo(t *testing.T) {
	for _, back := range ways() {
		want(t, reals(one, two), back, reals(three, minus+one), none)
		want(t, []api.Pair{pair(one, two), pair(two, minus+two)}, back, []api.Pair{pair(three, 0), pair(minus+one, four)}, none)
		want(t, reals(minus, minus), back, []api.Pair{pair(minus, 0), pair(0, 0)}, none)
		want(t, reals(one, power(-53)), back, reals(one, one-1), off)
		want(t, reals(one, power(-54)), back, reals(one, one), off)
		want(t, reals(last, last), back, reals(inf, 0), great)
		want(t, reals(last, minus+last), back, reals(0, inf), great)
		want(t, reals(inf, inf), back, reals(inf, nan), api.Invalid)
		want(t, reals(inf, minus+inf), back, reals(nan, inf), api.Invalid)
		want(t, []api.Pair{pair(0, loud), pair(0, one)}, back, []api.Pair{pair(0, nan), pair(0, nan)}, api.Invalid)
		want(t, []api.Pair{pair(lastNan, 1), pair(one, 1)}, back, []api.Pair{pair(nan, 2), pair(nan, 0)}, none)
	}
}

// FL1: of 4 numbers, and of an i forth, which is -i where the transform goes forth, and i where it goes back.
func TestFour(t *testing.T) {
	up, down := pair(minus+two, two), pair(minus+two, minus+two)
	want(t, reals(one, two, three, four), false, []api.Pair{pair(ten, 0), up, pair(minus+two, 0), down}, none)
	want(t, reals(one, two, three, four), true, []api.Pair{pair(ten, 0), down, pair(minus+two, 0), up}, none)
	want(t, reals(0, one, 0, 0), false, []api.Pair{pair(one, 0), pair(0, minus+one), pair(minus+one, 0), pair(0, one)}, none)
	want(t, reals(0, one, 0, 0), true, []api.Pair{pair(one, 0), pair(0, one), pair(minus+one, 0), pair(0, minus+one)}, none)
	alone := []api.Pair{{}, {}, {}, pair(0, one)}
	want(t, alone, false, []api.Pair{pair(0, one), pair(minus+one, 0), pair(0, minus+one), pair(one, 0)}, none)
	want(t, alone, true, []api.Pair{pair(0, one), pair(one, 0), pair(0, minus+one), pair(minus+one, 0)}, none)
}

// FL1: of 4 numbers, flags of each of the steps alone: of a, b, c, d, and of the answers.
func TestFlagsOfFour(t *testing.T) {
	great := uint64(power(53)) // 1 more is in the middle of two patterns, 1 less is a pattern
	for _, back := range ways() {
		want(t, reals(inf, 0, minus+inf, 0), back, reals(nan, inf, nan, inf), api.Invalid)
		want(t, reals(inf, 0, inf, 0), back, reals(inf, nan, inf, nan), api.Invalid)
		want(t, reals(0, inf, 0, minus+inf), back, imaginary(reals(nan, 0, nan, 0), inf, back), api.Invalid)
		want(t, reals(0, inf, 0, inf), back, imaginary(reals(inf, 0, minus+inf, 0), nan, back), api.Invalid)
		want(t, reals(great, one, 0, 0), back, imaginary(reals(great, great, great-1, great), one, back), off)
		want(t, reals(great, minus+one, 0, 0), back, imaginary(reals(great-1, great, great, great), minus+one, back), off)
		want(t, []api.Pair{pair(0, great), pair(one, 0), {}, {}}, false, []api.Pair{pair(one, great), pair(0, great-1), pair(minus+one, great), pair(0, great)}, off)
		want(t, []api.Pair{pair(0, great), pair(minus+one, 0), {}, {}}, false, []api.Pair{pair(minus+one, great), pair(0, great), pair(one, great), pair(0, great-1)}, off)
	}
}

// imaginary are four answers of which two have a part more by x[1] less x[3], that an i forth turned.
func imaginary(answers []api.Pair, by uint64, back bool) []api.Pair {
	first, second := by^minus, by
	if by == nan {
		first = nan
	}
	if back {
		first, second = second, first
	}
	answers[1].Im, answers[3].Im = first, second
	return answers
}

// FL1: of 3 numbers, whose cosines are -1/2, by the sine alone.
func TestThree(t *testing.T) {
	sine, _ := turn.Sin(1, 3)
	for _, back := range ways() {
		ahead, behind := sine^minus, sine
		if back {
			ahead, behind = sine, sine^minus
		}
		want(t, reals(0, one, 0), back, []api.Pair{pair(one, 0), pair(minus+half, ahead), pair(minus+half, behind)}, none)
		want(t, reals(0, 0, one), back, []api.Pair{pair(one, 0), pair(minus+half, behind), pair(minus+half, ahead)}, none)
		want(t, reals(one, one, one), back, reals(three, 0, 0), none)
		want(t, reals(power(53)-1, one, one), back, reals(power(53), power(53)-2, power(53)-2), off)
		want(t, reals(minus+inf, inf, 0), back, []api.Pair{pair(nan, 0), pair(minus+inf, ahead&minus+inf), pair(minus+inf, behind&minus+inf)}, api.Invalid)
		want(t, reals(0, inf, inf), back, []api.Pair{pair(inf, 0), pair(minus+inf, nan), pair(minus+inf, nan)}, api.Invalid)
		want(t, reals(0, inf, minus+inf), back, []api.Pair{pair(nan, 0), pair(nan, ahead&minus+inf), pair(nan, behind&minus+inf)}, api.Invalid)
	}
}

// FL1: a single 1 at any place makes the points, forth those below 0, and nothing happens: each step is exact.
func TestSingleOne(t *testing.T) {
	for _, n := range lengths() {
		for j := range n {
			x := make([]api.Pair, n)
			x[j].Re = one
			var forth, back []api.Pair
			for k := range n {
				ahead, _ := turn.Root(j*k, n)
				behind, _ := turn.Root(-j*k, n)
				back, forth = append(back, ahead), append(forth, behind)
			}
			want(t, x, false, forth, none)
			want(t, x, true, back, none)
		}
	}
}

// FL1: ones alone make their number, and 0 but for what rounding leaves.
func TestOnes(t *testing.T) {
	for _, n := range lengths() {
		x := slices.Repeat([]api.Pair{pair(one, 0)}, n)
		for _, back := range ways() {
			answers, flags := little(t, x, back)
			if answers[0] != pair(pattern(float64(n)), 0) || flags&^off != 0 {
				t.Errorf("%d ones: %#x, %d", n, answers, flags)
			}
			for _, rest := range answers[1:] {
				if rest.Re&^minus > power(-51) || rest.Im != 0 {
					t.Errorf("%d ones: %#x", n, answers)
				}
			}
		}
	}
}
