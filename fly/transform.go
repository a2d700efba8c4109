package fly

import (
	"slices"

	"tiller/api"
	"tiller/cplx"
	"tiller/turn"
)

// transform is that of as many numbers as have a little one.
func (w *work) transform(x []api.Pair) []api.Pair {
	switch len(x) {
	case 2:
		return slices.Concat(w.halves(x))
	case 4:
		return w.four(x)
	}
	return w.odd(x)
}

// halves are the sums and the differences of the first half of the numbers and the second one.
func (w *work) halves(x []api.Pair) (sums, differences []api.Pair) {
	first, second := x[:len(x)/2], x[len(x)/2:]
	return w.each((*work).sum, first, second), w.each((*work).difference, first, second)
}

func (w *work) four(x []api.Pair) []api.Pair {
	sums, differences := w.halves(x)
	return slices.Concat(w.halves([]api.Pair{sums[0], differences[0], sums[1], w.forth(differences[1])}))
}

// odd makes two answers at once of the numbers ahead of the middle and those behind it, since the points of these are conjugates.
func (w *work) odd(x []api.Pair) []api.Pair {
	ahead, behind := x[1:len(x)/2+1], reversed(x[len(x)/2+1:])
	sums, differences := w.each((*work).sum, ahead, behind), w.each((*work).difference, ahead, behind)
	first := x[0]
	for _, s := range sums {
		first = w.sum(first, s)
	}
	a, e := w.waves(x[0], sums, differences)
	return slices.Concat([]api.Pair{first}, w.each((*work).sum, a, e), reversed(w.each((*work).difference, a, e)))
}

// waves are, for each answer up to the middle, the sums by their cosines, on top of the first number, and the differences by their sines, an i forth.
func (w *work) waves(first api.Pair, sums, differences []api.Pair) (a, e []api.Pair) {
	n := 2*len(sums) + 1
	points := pointsOf(n)
	a, e = slices.Repeat([]api.Pair{first}, len(sums)), make([]api.Pair, len(sums))
	for k := range len(a) {
		for j := range len(sums) {
			point := points[(j+1)*(k+1)%n]
			a[k] = w.more(sums[j], point.Re, a[k])
			e[k] = w.more(differences[j], point.Im, e[k])
		}
		e[k] = w.forth(e[k])
	}
	return a, e
}

// pointsOf are the points of a turn of n parts, n being odd and prime, so that those of 0 parts are never asked for. A point costs more than many steps: those behind the middle are told by those ahead of it.
func pointsOf(n int) []api.Pair {
	points := make([]api.Pair, n)
	for k := 1; k <= n/2; k++ {
		points[k], _ = turn.Root(k, n) // there is no error: a turn may have so many parts
		points[n-k] = cplx.Conj(points[k])
	}
	return points
}

// reversed are numbers, the last one first.
func reversed(x []api.Pair) []api.Pair {
	x = slices.Clone(x)
	slices.Reverse(x)
	return x
}
