package mix_test

import (
	"slices"
	"testing"

	"tiller/aid"
	"tiller/api"
	"tiller/mix"
)

// order is where numbers go by radices that may be.
func order(t *testing.T, radix []int) []int {
	t.Helper()
	places, err := mix.Order(radix)
	if err != nil || len(places) != lengthOf(radix) {
		t.Fatalf("Order(%v): %d places, %v", radix, len(places), err)
	}
	return places
}

// MI2: orders that the words tell at sight.
func TestKnownOrder(t *testing.T) {
	for _, c := range []struct{ radix, places []int }{
		{nil, []int{0}},
		{[]int{}, []int{0}},
		{[]int{2, 2}, []int{0, 2, 1, 3}},
		{[]int{2, 3}, []int{0, 3, 1, 4, 2, 5}},
		{[]int{3, 2}, []int{0, 2, 4, 1, 3, 5}},
		{[]int{2, 2, 2}, []int{0, 4, 2, 6, 1, 5, 3, 7}},
		{[]int{4, 2}, []int{0, 2, 4, 6, 1, 3, 5, 7}},
		{[]int{2, 4}, []int{0, 4, 1, 5, 2, 6, 3, 7}},
		{[]int{2, 3, 2}, []int{0, 6, 2, 8, 4, 10, 1, 7, 3, 9, 5, 11}},
	} {
		if places := order(t, c.radix); !slices.Equal(places, c.places) {
			t.Errorf("Order(%v): %v; want %v", c.radix, places, c.places)
		}
	}
	for _, r := range lengths() {
		if places := order(t, []int{r}); !slices.IsSorted(places) || places[0] != 0 || places[r-1] != r-1 {
			t.Errorf("Order of %d alone: %v", r, places)
		}
	}
}

// behind are the numbers that stand one behind the other, if x does so as the words tell: those of y[0], of y[1] and so on.
func behind(radix, x []int) []int {
	if len(radix) == 0 {
		return x
	}
	var all []int
	for j := range radix[0] {
		var y []int
		for i := j; i < len(x); i += radix[0] {
			y = append(y, x[i])
		}
		all = append(all, behind(radix[1:], y)...)
	}
	return all
}

// wantOrder holds Order against the words: each number stands where it tells.
func wantOrder(t *testing.T, radix []int) {
	t.Helper()
	var x []int
	for i := range lengthOf(radix) {
		x = append(x, i)
	}
	places := order(t, radix)
	for place, i := range behind(radix, x) {
		if places[i] != place {
			t.Fatalf("Order(%v): number %d goes to %d; want %d", radix, i, places[i], place)
		}
	}
}

// MI2: none, each radix alone, each two, three and more, and any.
func TestOrder(t *testing.T) {
	for _, radix := range slices.Concat(short(), long()) {
		wantOrder(t, radix)
	}
	m := mixer{41}
	for range 300 {
		wantOrder(t, m.radices(1<<uint(m.Below(15))))
	}
}

// MI2: radices turned round tell the way back: what goes from i to a place goes from there to i.
func TestOrderTurnedRound(t *testing.T) {
	m := mixer{43}
	for range 100 {
		radix := m.radices(3000)
		round := slices.Clone(radix)
		slices.Reverse(round)
		there, back := order(t, radix), order(t, round)
		for i, place := range there {
			if back[place] != i {
				t.Fatalf("%v: number %d goes to %d, and by %v back to %d", radix, i, place, round, back[place])
			}
		}
	}
}

// digits tell where a number goes: those of it, the first radix's the lowest, are told again with the first one the highest.
func digits(radix []int, i int) int {
	place, block := 0, lengthOf(radix)
	for _, f := range radix {
		block /= f
		place += i % f * block
		i /= f
	}
	return place
}

// MI2: a product of just MaxLen, and the next below it: each place is one number's, and many are looked at.
func TestGreatestOrder(t *testing.T) {
	for _, radix := range [][]int{copies(4, 12), copies(2, 24), append([]int{13, 2, 7, 5, 3, 3}, copies(2, 11)...)} {
		places := order(t, radix)
		taken := make([]bool, len(places))
		for i, place := range places {
			if taken[place] || (i%37 == 0 || i > longest-5000) && digits(radix, i) != place {
				t.Fatalf("Order(%v): number %d goes to %d", radix, i, place)
			}
			taken[place] = true
		}
	}
}

// wantNoOrder fails, if Order answers anything but ErrPlan.
func wantNoOrder(t *testing.T, radix []int) {
	t.Helper()
	if places, err := mix.Order(radix); places != nil || aid.Errno(err) != int(api.ErrPlan) {
		t.Errorf("Order(%.60v): %d places, %v", radix, len(places), err)
	}
}

// MI2: ErrPlan, and nothing beside it, of radices that may not be, wherever they stand.
func TestNoOrder(t *testing.T) {
	for _, r := range noRadices() {
		for _, radix := range [][]int{{r}, {r, 2}, {2, r}, {2, r, 3}, {r, r}, {4, 4, 4, r}} {
			wantNoOrder(t, radix)
		}
	}
}

// MI2: ErrPlan of a product above MaxLen, by as little as there is, also of such as Parts has.
func TestTooGreatOrder(t *testing.T) {
	for _, radix := range slices.Concat(greatRadices()[:8], tooGreat()) {
		wantNoOrder(t, radix)
	}
	for _, radix := range [][]int{copies(2, 25), append(copies(4, 12), 2), append([]int{2}, copies(4, 12)...), append(copies(4, 12), 3), {13, 13, 13, 13, 7, 7, 3, 2, 2}, {2, 2, 3, 7, 7, 13, 13, 13, 13}, copies(3, 16)} {
		wantNoOrder(t, radix)
	}
}
