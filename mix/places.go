package mix

import (
	"slices"

	"tiller/api"
	"tiller/fly"
)

// product is that of radices; it is an error, if one of them has no little transform, or if they make more than most.
func product(radix []int, most int) (int, error) {
	n := 1
	for _, f := range radix {
		if !fly.Can(f) || n > most/f {
			return 0, api.ErrPlan
		}
		n *= f
	}
	return n, nil
}

// places are where each number stands, if those of each block's parts stand one behind the other. Each radix, from the last one on, makes a block of as many that are alike, whose numbers were taken in turn.
func places(radix []int) []int {
	all := []int{0}
	for _, f := range slices.Backward(radix) {
		part := all
		all = make([]int, 0, f*len(part))
		for _, place := range part {
			for j := range f {
				all = append(all, j*len(part)+place)
			}
		}
	}
	return all
}

// arranged are numbers, each put at its place.
func arranged(x []api.Pair, places []int) []api.Pair {
	all := make([]api.Pair, len(x))
	for i, place := range places {
		all[place] = x[i]
	}
	return all
}
