package mix

import (
	"tiller/api"
	"tiller/cplx"
	"tiller/fly"
	"tiller/turn"
)

// work does the steps of one transform of n numbers, by points that it remembers, and gathers the flags that are raised.
type work struct {
	*turn.Roots
	n     int
	back  bool
	flags api.Flags
}

// transform makes the answers of a block, whose numbers stand as places tells, and leaves them in it. The parts are cut so that none of them reaches into the next one.
func (w *work) transform(block []api.Pair, radix []int) {
	if len(radix) == 0 {
		return
	}
	f := radix[0]
	m := len(block) / f
	for j := range f {
		w.transform(block[j*m:(j+1)*m:(j+1)*m], radix[1:])
	}
	for k := range m {
		w.step(block, f, k)
	}
}

// step takes the answer k of each of a block's f parts. What it makes of them belongs where they stood.
func (w *work) step(block []api.Pair, f, k int) {
	m := len(block) / f
	t := make([]api.Pair, f)
	for j := range f {
		t[j] = w.turned(block[k+j*m], j*k, len(block))
	}
	answers, flags, _ := fly.Little(t, w.back) // there is no error: each radix has a little transform
	w.flags |= flags
	for j := range f {
		block[k+j*m] = answers[j]
	}
}

// turned is a number times the point of so many parts of n, but where there are none, not even multiplied by 1. The point is asked for as parts of the whole transform's length, so that blocks of all lengths share those that are remembered.
func (w *work) turned(x api.Pair, parts, n int) api.Pair {
	if parts == 0 {
		return x
	}
	parts *= w.n / n
	if !w.back {
		parts = -parts
	}
	point, _ := w.At(parts, w.n) // there is no error: a turn may have so many parts
	product, flags := cplx.Mul(x, point)
	w.flags |= flags
	return product
}
