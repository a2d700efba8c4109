package mix_test

import (
	"math"
	"slices"
	"testing"

	"tiller/aid"
	"tiller/api"
	"tiller/mix"
	"tiller/plan"
)

// byParts is a plan part by part.
func byParts(radix ...int) plan.Plan { return plan.Plan{N: lengthOf(radix), Radix: radix} }

// wantRun fails, if a transform by a plan is another one than the words of the chapter make of its radices.
func wantRun(t *testing.T, p plan.Plan, x []api.Pair, back bool) {
	t.Helper()
	s := teller{back: back}
	wanted := s.told(p.Radix, x)
	if has, flags, err := mix.Run(p, x, back); !slices.Equal(has, wanted) || flags != s.flags || err != nil {
		t.Errorf("Run(%v) of %#x, back %v: %#x, flags %d, %v; want %#x, flags %d", p, x, back, has, flags, err, wanted, s.flags)
	}
}

// wantNoRun fails, if Run answers anything but this error.
func wantNoRun(t *testing.T, p plan.Plan, x []api.Pair, number api.Errno) {
	t.Helper()
	for _, back := range ways() {
		if answers, flags, err := mix.Run(p, x, back); answers != nil || flags != 0 || aid.Errno(err) != int(number) {
			t.Errorf("Run(%.60v) of %d numbers: %d numbers, flags %d, %v; want %v", p, len(x), len(answers), flags, err, number)
		}
	}
}

// MI1: Run by plan.Make, of each length of up to 130 that has a plan part by part, and ErrPlan of the others.
func TestRunOfMade(t *testing.T) {
	m := mixer{29}
	for n := 1; n <= 130; n++ {
		p, _ := plan.Make(n)
		kinds := m.kinds()
		x := m.list(n, kinds[m.Below(len(kinds))])
		if p.Pad != 0 {
			wantNoRun(t, p, x, api.ErrPlan)
			continue
		}
		wantRun(t, p, x, m.Below(2) == 0)
	}
}

// orders are all orders of radices.
func orders(radix []int) [][]int {
	if len(radix) == 0 {
		return [][]int{nil}
	}
	var all [][]int
	for i, first := range radix {
		for _, rest := range orders(slices.Delete(slices.Clone(radix), i, i+1)) {
			if order := append([]int{first}, rest...); !slices.ContainsFunc(all, func(o []int) bool { return slices.Equal(o, order) }) {
				all = append(all, order)
			}
		}
	}
	return all
}

// MI1: plans of the same length with their radices in each other order, and with 2 and 2 in the place of a 4, all of the same numbers.
func TestRunOfOtherOrders(t *testing.T) {
	m := mixer{31}
	for _, all := range [][][]int{
		{{4}, {2, 2}}, {{2, 3}}, {{4, 3}, {2, 2, 3}}, {{4, 2, 3}, {2, 2, 2, 3}}, {{2, 3, 5}}, {{4, 3, 3}, {2, 2, 3, 3}}, {{4, 3, 5}, {2, 2, 3, 5}}, {{2, 7, 11}}, {{4, 4, 2}, {4, 2, 2, 2}, {2, 2, 2, 2, 2}},
	} {
		x, any := m.list(lengthOf(all[0]), m.kinds()[0]), m.list(lengthOf(all[0]), m.any)
		for _, radix := range all {
			for _, order := range orders(radix) {
				for _, back := range ways() {
					wantRun(t, byParts(order...), x, back)
					wantRun(t, byParts(order...), any, back)
				}
			}
		}
	}
}

// MI1: the order matters to the last bits of some numbers, but by no more than MI3 tells.
func TestOrderMatters(t *testing.T) {
	m := mixer{37}
	differ := 0
	for range 20 {
		x := m.list(12, m.kinds()[0])
		first, _, err := mix.Run(byParts(3, 4), x, false)
		second, _, too := mix.Run(byParts(4, 3), x, false)
		if err != nil || too != nil {
			t.Fatal(err, too)
		}
		if !slices.Equal(first, second) {
			differ++
		}
		wantNear(t, []int{3, 4}, x, false)
		wantNear(t, []int{4, 3}, x, false)
	}
	if differ == 0 {
		t.Error("by 3, 4 and by 4, 3 all bits are the same")
	}
}

// MI1: ErrPlan, and nothing beside it, of plans that may not be, also where there is another number of numbers.
func TestNoSuchPlan(t *testing.T) {
	plans := []plan.Plan{
		{}, {N: 2}, {N: -2, Radix: []int{2}}, {N: 0, Radix: []int{2}}, {N: 1, Radix: []int{2}}, {N: 3, Radix: []int{2}}, {N: 4, Radix: []int{2}}, {N: 2, Radix: []int{2, 2}}, {N: 4, Radix: []int{2, 3}},
		{N: 1, Radix: []int{1}}, {N: 2, Radix: []int{2, 1}}, {N: 4, Radix: []int{-2, -2}}, {N: 6, Radix: []int{6}}, {N: 8, Radix: []int{8}}, {N: 9, Radix: []int{9}}, {N: 17, Radix: []int{17}}, {N: 0, Radix: []int{0}},
		{N: 2, Radix: []int{2}, Pad: 4}, {N: 4, Radix: []int{2, 2}, Pad: 8}, {N: 4, Radix: []int{4}, Pad: -1}, {N: 4, Radix: []int{4}, Pad: 1},
		{N: math.MinInt, Radix: []int{2}}, {N: math.MaxInt, Radix: []int{2}}, {N: 1 << 32}, {N: 1<<32 + 2, Radix: []int{2}},
		{N: 2 * longest, Radix: append(copies(4, 12), 2)}, {N: farthest, Radix: copies(4, 13)}, {N: 0, Radix: copies(2, 64)}, {N: 1, Radix: copies(2, 64)},
		{N: 17, Pad: 32}, {N: 17, Pad: 63}, {N: 17, Pad: 2 * farthest}, {N: 17, Pad: -64},
	}
	for _, p := range plans {
		for _, n := range []int{0, 1, 2, 3, 4, 6, 8, 9, 17} {
			wantNoRun(t, p, make([]api.Pair, n), api.ErrPlan)
		}
	}
}

// MI1: ErrPlan of padded plans that may be, also of those whose length has radices, and of any number of numbers.
func TestNoPaddedPlan(t *testing.T) {
	for _, p := range []plan.Plan{{N: 1, Pad: 1}, {N: 1, Pad: 2}, {N: 2, Pad: 4}, {N: 4, Pad: 8}, {N: 4, Pad: farthest}, {N: 17, Pad: 64}, {N: 17, Pad: 128}, {N: 33, Pad: 128}} {
		if err := plan.Check(p); err != nil {
			t.Fatal(err)
		}
		for _, n := range []int{0, 1, p.N - 1, p.N, p.N + 1, 64, 128} {
			wantNoRun(t, p, make([]api.Pair, n), api.ErrPlan)
		}
	}
}

// MI1: ErrShape of one number less than a plan has, one more, and none.
func TestRunShape(t *testing.T) {
	for _, radix := range slices.Concat(short(), long()) {
		n := lengthOf(radix)
		room := make([]api.Pair, 2*n)
		for _, x := range [][]api.Pair{nil, {}, room[:n-1], room[:n+1], room} {
			wantNoRun(t, byParts(radix...), x, api.ErrShape)
		}
	}
	wantNoRun(t, byParts(copies(4, 12)...), make([]api.Pair, 4), api.ErrShape)
}
