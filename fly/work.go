package fly

import (
	"tiller/api"
	"tiller/cplx"
)

// work does the steps of one transform, and gathers the flags that they raise.
type work struct {
	back  bool
	flags api.Flags
}

// step is a sum or a difference: one of the method expressions (*work).sum and (*work).difference.
type step func(w *work, x, y api.Pair) api.Pair

func (w *work) sum(x, y api.Pair) api.Pair { return w.told(cplx.Add(x, y)) }

func (w *work) difference(x, y api.Pair) api.Pair { return w.told(cplx.Sub(x, y)) }

// more is x times a real number, and added to a third one.
func (w *work) more(x api.Pair, by uint64, to api.Pair) api.Pair { return w.told(cplx.More(x, by, to)) }

// forth is a number times -i, or, where the transform goes back, times i.
func (w *work) forth(x api.Pair) api.Pair { return cplx.Turn(x, !w.back) }

// told keeps the flags of what was done.
func (w *work) told(x api.Pair, flags api.Flags) api.Pair {
	w.flags |= flags
	return x
}

// each does one step with each of x and that of y beside it.
func (w *work) each(do step, x, y []api.Pair) []api.Pair {
	answers := make([]api.Pair, len(x))
	for j := range len(x) {
		answers[j] = do(w, x[j], y[j])
	}
	return answers
}
