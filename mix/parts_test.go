package mix_test

import (
	"math"
	"slices"
	"testing"

	"tiller/api"
	"tiller/fly"
)

// MI1: the chapter's example, and others whose steps all are exact.
func TestKnown(t *testing.T) {
	x := reals(one, two, three, four)
	forth := []api.Pair{pair(ten, 0), pair(minus+two, two), pair(minus+two, 0), pair(minus+two, minus+two)}
	want(t, []int{2, 2}, x, false, forth, none)
	want(t, []int{4}, x, false, forth, none)
	back := []api.Pair{pair(ten, 0), pair(minus+two, minus+two), pair(minus+two, 0), pair(minus+two, two)}
	want(t, []int{2, 2}, x, true, back, none)
	want(t, []int{2}, reals(one, two), false, reals(three, minus+one), none)
	want(t, nil, reals(ten), false, reals(ten), none)
	eight := reals(one, 0, 0, 0, 0, 0, 0, 0)
	for _, radix := range [][]int{{2, 4}, {4, 2}, {2, 2, 2}} {
		want(t, radix, eight, false, reals(one, one, one, one, one, one, one, one), none)
	}
}

// MI1: of no radix it is the number, whatever that is, and nothing is raised.
func TestNoRadix(t *testing.T) {
	for _, radix := range [][]int{nil, {}, make([]int, 0, 4)} {
		for _, p := range patterns {
			for _, q := range patterns {
				for _, back := range ways() {
					x := []api.Pair{pair(p, q)}
					want(t, radix, x, back, slices.Clone(x), none)
				}
			}
		}
	}
}

// MI1: of one radix it is the little transform.
func TestOneRadix(t *testing.T) {
	m := mixer{11}
	for _, r := range lengths() {
		for range 100 / r {
			for _, kind := range m.kinds() {
				for _, back := range ways() {
					x := m.list(r, kind)
					wanted, flags, _ := fly.Little(x, back)
					want(t, []int{r}, x, back, wanted, flags)
				}
			}
		}
	}
}

// MI1: each two radices, both ways round, of numbers of all kinds, as the words tell it, by all bits and flags, forth and back.
func TestTwoRadices(t *testing.T) {
	m := mixer{13}
	for _, radix := range short() {
		for _, kind := range m.kinds() {
			for _, back := range ways() {
				wantTold(t, radix, m.list(lengthOf(radix), kind), back)
			}
		}
	}
}

// MI1: three and more.
func TestMoreRadices(t *testing.T) {
	m := mixer{17}
	for _, radix := range long() {
		for _, kind := range m.kinds() {
			wantTold(t, radix, m.list(lengthOf(radix), kind), m.Below(2) == 0)
		}
	}
}

// MI1: any radices.
func TestAnyRadices(t *testing.T) {
	m := mixer{19}
	for range 100 {
		radix := m.radices(600)
		kinds := m.kinds()
		wantTold(t, radix, m.list(lengthOf(radix), kinds[m.Below(len(kinds))]), m.Below(2) == 0)
	}
}

// MI1: at each place in turn each named pattern, among ones, or among numbers of few bits: +0 and -0, the least and the greatest of each class, Endless, and what is no number.
func TestEdges(t *testing.T) {
	m := mixer{23}
	for _, radix := range [][]int{{2, 2}, {2, 3}, {3, 2}, {2, 4}, {4, 2}, {3, 3}, {2, 5}, {4, 3}, {2, 2, 2}, {7, 2}} {
		n := lengthOf(radix)
		for place := range n {
			for at, p := range patterns {
				x := m.list(n, func() uint64 { return one })
				if at%2 == place%2 {
					x = m.list(n, m.kinds()[1])
				}
				x[place] = pair(p, patterns[m.Below(len(patterns))])
				if at%4 < 2 {
					x[place] = pair(x[place].Im, p)
				}
				wantTold(t, radix, x, m.Below(2) == 0)
			}
		}
	}
}

// MI1: a number is multiplied by a point only where neither index is 0: the first number is in no such place, so that every answer is it, with nothing raised, even where it is endless, of which a product with 0 would be no number.
func TestFirstIsNeverMultiplied(t *testing.T) {
	for _, radix := range slices.Concat(short(), long()) {
		n := lengthOf(radix)
		for _, p := range []uint64{one, inf, minus + inf, last, minus + last, leastBig, 1} {
			for _, back := range ways() {
				x := make([]api.Pair, n)
				x[0] = pair(p, 0)
				want(t, radix, x, back, slices.Repeat(x[:1], n), none)
			}
		}
	}
}

// MI1: where both indices are above 0 it is, and is no number, if it is endless, though the point is one by which the machine could turn it; by a radix alone nothing is multiplied.
func TestOthersAreMultiplied(t *testing.T) {
	x := reals(0, inf, 0, 0)
	noNumber := pair(nan, minus+inf)
	alone := []api.Pair{pair(inf, 0), pair(0, minus+inf), pair(minus+inf, 0), pair(0, inf)}
	want(t, []int{4}, x, false, alone, none)
	want(t, []int{2, 2}, x, false, []api.Pair{pair(inf, 0), noNumber, pair(minus+inf, 0), pair(nan, inf)}, api.Invalid)
	want(t, []int{2, 2}, x, true, []api.Pair{pair(inf, 0), pair(nan, inf), pair(minus+inf, 0), noNumber}, api.Invalid)
}

// flagsOf are those that the transform of a list of 0 but for some numbers raises.
func flagsOf(t *testing.T, radix []int, numbers map[int]api.Pair) api.Flags {
	t.Helper()
	x := make([]api.Pair, lengthOf(radix))
	for place, p := range numbers {
		x[place] = p
	}
	_, flags := parts(t, radix, x, false)
	return flags
}

// MI1: flags are told that one step alone raised: a sum of any block of the first steps, a product with a point, a sum of the last steps.
func TestFlagsOfOneStep(t *testing.T) {
	for _, c := range []struct {
		radix []int
		x     map[int]api.Pair
		flags api.Flags
	}{
		{[]int{2, 2}, map[int]api.Pair{0: pair(one, 0), 2: pair(power(-60), 0)}, off},
		{[]int{2, 2}, map[int]api.Pair{1: pair(0, one), 3: pair(0, power(-60))}, off},
		{[]int{2, 2}, map[int]api.Pair{0: pair(one, 0), 1: pair(power(-60), 0)}, off},
		{[]int{2, 2}, map[int]api.Pair{0: pair(0, one), 3: pair(0, power(-60))}, off},
		{[]int{2, 2}, map[int]api.Pair{0: pair(last, 0), 2: pair(last, 0)}, great},
		{[]int{2, 2}, map[int]api.Pair{1: pair(0, last), 3: pair(0, last)}, great},
		{[]int{2, 2}, map[int]api.Pair{0: pair(last, 0), 1: pair(last, 0)}, great},
		{[]int{2, 2}, map[int]api.Pair{0: pair(loud, 0)}, api.Invalid},
		{[]int{2, 2}, map[int]api.Pair{3: pair(0, minus+loud)}, api.Invalid},
		{[]int{2, 2}, map[int]api.Pair{0: pair(inf, 0), 2: pair(inf, 0)}, api.Invalid},
		{[]int{2, 2}, map[int]api.Pair{0: pair(inf, 0), 2: pair(one, 0)}, none},
		{[]int{2, 2}, map[int]api.Pair{0: pair(nan, nan)}, none},
		{[]int{2, 2}, map[int]api.Pair{3: pair(nan, minus+lastNan)}, none},
		{[]int{2, 4}, map[int]api.Pair{1: pair(1, 0)}, tiny},
		{[]int{4, 2}, map[int]api.Pair{1: pair(0, 1)}, tiny},
		{[]int{2, 2, 2}, map[int]api.Pair{1: pair(one, 0)}, none},
		{[]int{2, 2, 2}, map[int]api.Pair{1: pair(three, 0)}, off},
		{[]int{2, 2, 2}, map[int]api.Pair{2: pair(three, 0)}, none},
		{[]int{2, 2, 2}, map[int]api.Pair{7: pair(0, leastBig)}, tiny},
		{[]int{2, 3}, map[int]api.Pair{5: pair(nan, one)}, none},
		{[]int{2, 3}, map[int]api.Pair{5: pair(0, one)}, off},
	} {
		if flags := flagsOf(t, c.radix, c.x); flags != c.flags {
			t.Errorf("Parts(%v) of %#x: flags %d; want %d", c.radix, c.x, flags, c.flags)
		}
	}
}

// MI1: all flags that were raised are told together.
func TestAllFlags(t *testing.T) {
	for _, radix := range [][]int{{2, 4}, {4, 2}, {2, 2, 2}} {
		for _, c := range []struct {
			x     map[int]api.Pair
			flags api.Flags
		}{
			{map[int]api.Pair{0: pair(last, 1), 1: pair(last, 1)}, great | tiny},
			{map[int]api.Pair{0: pair(loud, last), 4: pair(0, last)}, api.Invalid | great},
			{map[int]api.Pair{3: pair(loud, 0), 4: pair(0, one), 0: pair(0, power(-60))}, api.Invalid | off},
			{map[int]api.Pair{0: pair(last, 0), 4: pair(last, 0), 2: pair(loud, 0), 1: pair(1, 1), 5: pair(0, 1)}, api.Invalid | great | tiny},
		} {
			if flags := flagsOf(t, radix, c.x); flags != c.flags {
				t.Errorf("Parts(%v) of %#x: flags %d; want %d", radix, c.x, flags, c.flags)
			}
		}
	}
}

// noRadices are such as have no little transform.
func noRadices() []int {
	return []int{math.MinInt, math.MinInt + 2, -1 << 32, -13, -4, -2, -1, 0, 1, 6, 8, 9, 10, 12, 14, 16, 17, 26, 64, 169, 1 << 20, farthest, 1 << 32, 1<<32 + 2, 1<<32 + 4, math.MaxInt}
}

// MI1: ErrPlan, and nothing beside it, of a radix for which there is no little transform, wherever it stands, of lists of any length.
func TestNoSuchRadix(t *testing.T) {
	for _, r := range noRadices() {
		for _, radix := range [][]int{{r}, {r, 2}, {2, r}, {2, r, 3}, {r, r}, {4, 4, 4, r}} {
			lists := [][]api.Pair{nil, make([]api.Pair, 1), make([]api.Pair, 6)}
			if n := lengthOf(radix); n > 0 && n < 1<<16 {
				lists = append(lists, make([]api.Pair, n))
			}
			for _, x := range lists {
				wantError(t, radix, x, api.ErrPlan)
			}
		}
	}
}

// greatRadices are of a product that is just 2^26, and next below it.
func greatRadices() [][]int {
	return [][]int{
		copies(2, 26), copies(4, 13), append(copies(4, 12), 2, 2), append([]int{2, 2}, copies(4, 12)...),
		append([]int{13, 7, 5, 3, 3}, copies(2, 14)...), append(copies(2, 14), 3, 5, 3, 13, 7), copies(13, 7), copies(3, 16), copies(4, 12),
	}
}

// tooGreat are of a product that is above 2^26, by as little as there is, by much, and by so much that an int can't hold it: such as are 0, or 1 too many or few, in 32 or 64 bits.
func tooGreat() [][]int {
	all := [][]int{{11, 11, 11, 7, 7, 7, 7, 7, 3}, {3, 7, 7, 7, 7, 7, 11, 11, 11}, append(copies(2, 26), 3), append([]int{13}, copies(4, 13)...), copies(3, 17), copies(13, 8), copies(2, 1<<20), copies(13, 100_000)}
	for often := 27; often <= 130; often++ {
		all = append(all, copies(2, often))
	}
	for often := 14; often <= 66; often++ {
		all = append(all, copies(4, often))
	}
	return all
}

// MI1: a product of just 2^26 may be, so that ErrShape is told of fewer numbers; ErrPlan of a greater one, of lists of any length.
func TestGreatestProduct(t *testing.T) {
	for _, x := range [][]api.Pair{nil, make([]api.Pair, 1), make([]api.Pair, 1000)} {
		for _, radix := range greatRadices() {
			wantError(t, radix, x, api.ErrShape)
		}
		for _, radix := range tooGreat() {
			wantError(t, radix, x, api.ErrPlan)
		}
	}
}

// MI1: ErrShape, and nothing beside it, of one number less, one more, none, and of twice as many; spare room is none of a list.
func TestShape(t *testing.T) {
	for _, radix := range slices.Concat(short(), long()) {
		n := lengthOf(radix)
		room := make([]api.Pair, 2*n)
		for _, x := range [][]api.Pair{nil, {}, room[:0], room[:n-1], room[:n+1], room} {
			if len(x) != n {
				wantError(t, radix, x, api.ErrShape)
			}
		}
		parts(t, radix, room[:n], false)
	}
}
