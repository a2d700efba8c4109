package fly_test

import (
	"math"
	"testing"

	"tiller/api"
	"tiller/turn"
)

// FL1: numbers of all kinds, step by step as told, by all bits and flags, forth and back.
func TestStepByStep(t *testing.T) {
	m := mixer{17}
	for _, n := range lengths() {
		for range 200 / n {
			for _, kind := range m.kinds() {
				x := m.list(n, kind)
				for _, back := range ways() {
					wanted, flags := told(x, back)
					want(t, x, back, wanted, flags)
				}
			}
		}
	}
}

// FL1: at each place in turn each named pattern, among ones, or among numbers of few bits: +0 and -0, the least and the greatest of each class, Endless, and what is no number.
func TestEdges(t *testing.T) {
	m := mixer{19}
	for _, n := range lengths() {
		for place := range n {
			for at, p := range patterns {
				x := m.list(n, func() uint64 { return one })
				if at%2 == place%2 {
					x = m.list(n, m.kinds()[1])
				}
				x[place] = pair(p, patterns[m.Below(len(patterns))])
				if at%4 < 2 {
					x[place] = pair(x[place].Im, p)
				}
				back := m.Below(2) == 0
				wanted, flags := told(x, back)
				want(t, x, back, wanted, flags)
			}
		}
	}
}

// FL1: two named patterns at once, all else being 0 of either sign.
func TestTwoEdges(t *testing.T) {
	m := mixer{23}
	for _, n := range []int{2, 3, 4, 5, 7} {
		for _, p := range patterns {
			for _, q := range patterns {
				x := m.list(n, func() uint64 { return m.Word() & minus })
				i := m.Below(n)
				j := (i + 1 + m.Below(n-1)) % n
				x[i].Re, x[j].Re = p, q
				if m.Below(2) == 0 {
					x[i].Im, x[j].Im = p, q
				}
				back := m.Below(2) == 0
				wanted, flags := told(x, back)
				want(t, x, back, wanted, flags)
			}
		}
	}
}

// machine does the steps with the machine's own numbers, real and imaginary parts apart: the turn by i is a swap of parts.
func machine(x []api.Pair, back bool) []api.Pair {
	n := len(x)
	var re, im []float64
	for _, p := range x {
		re, im = append(re, number(p.Re)), append(im, number(p.Im))
	}
	sign := 1.0
	if back {
		sign = -1
	}
	switch n {
	case 2:
		return []api.Pair{joined(re[0]+re[1], im[0]+im[1]), joined(re[0]-re[1], im[0]-im[1])}
	case 4:
		eRe, eIm := sign*(im[1]-im[3]), -sign*(re[1]-re[3])
		return []api.Pair{
			joined((re[0]+re[2])+(re[1]+re[3]), (im[0]+im[2])+(im[1]+im[3])), joined((re[0]-re[2])+eRe, (im[0]-im[2])+eIm),
			joined((re[0]+re[2])-(re[1]+re[3]), (im[0]+im[2])-(im[1]+im[3])), joined((re[0]-re[2])-eRe, (im[0]-im[2])-eIm),
		}
	}
	answers := make([]api.Pair, n)
	firstRe, firstIm := re[0], im[0]
	for j := 1; j <= n/2; j++ {
		firstRe, firstIm = firstRe+(re[j]+re[n-j]), firstIm+(im[j]+im[n-j])
	}
	answers[0] = joined(firstRe, firstIm)
	for k := 1; k <= n/2; k++ {
		aRe, aIm, bRe, bIm := re[0], im[0], 0.0, 0.0
		for j := 1; j <= n/2; j++ {
			p, _ := turn.Root(j*k, n)
			aRe, aIm = math.FMA(re[j]+re[n-j], number(p.Re), aRe), math.FMA(im[j]+im[n-j], number(p.Re), aIm)
			bRe, bIm = math.FMA(re[j]-re[n-j], number(p.Im), bRe), math.FMA(im[j]-im[n-j], number(p.Im), bIm)
		}
		answers[k] = joined(aRe+sign*bIm, aIm-sign*bRe)
		answers[n-k] = joined(aRe-sign*bIm, aIm+sign*bRe)
	}
	return answers
}

func joined(re, im float64) api.Pair { return pair(pattern(re), pattern(im)) }

// FL1: the machine's own numbers, which it rounds by Even, make the same patterns.
func TestMachine(t *testing.T) {
	m := mixer{29}
	for _, n := range lengths() {
		for range 400 / n {
			for _, kind := range m.kinds() {
				x := m.list(n, kind)
				for _, back := range ways() {
					answers, _ := little(t, x, back)
					for k, wanted := range machine(x, back) {
						if answers[k] != wanted {
							t.Fatalf("answer %d of %#x, back %v: %#x; want %#x", k, x, back, answers[k], wanted)
						}
					}
				}
			}
		}
	}
}
