package mix_test

import (
	"math"
	"slices"
	"testing"

	"tiller/api"
)

// machine does a transform with the machine's own numbers, which it rounds by Even.
type machine struct {
	back bool
}

// little are the steps of layer 18: the turn by i is a swap of parts.
func (w machine) little(x []complex128) []complex128 {
	n := len(x)
	forth := func(v complex128) complex128 {
		if w.back {
			return complex(-imag(v), real(v))
		}
		return complex(imag(v), -real(v))
	}
	switch n {
	case 2:
		return []complex128{x[0] + x[1], x[0] - x[1]}
	case 4:
		e := forth(x[1] - x[3])
		return []complex128{(x[0] + x[2]) + (x[1] + x[3]), (x[0] - x[2]) + e, (x[0] + x[2]) - (x[1] + x[3]), (x[0] - x[2]) - e}
	}
	answers := slices.Repeat(x[:1], n)
	for j := 1; j <= n/2; j++ {
		answers[0] += x[j] + x[n-j]
	}
	for k := 1; k <= n/2; k++ {
		a, b := x[0], complex128(0)
		for j := 1; j <= n/2; j++ {
			p := point(j*k, n)
			sum, difference := x[j]+x[n-j], x[j]-x[n-j]
			a = complex(math.FMA(real(sum), number(p.Re), real(a)), math.FMA(imag(sum), number(p.Re), imag(a)))
			b = complex(math.FMA(real(difference), number(p.Im), real(b)), math.FMA(imag(difference), number(p.Im), imag(b)))
		}
		answers[k], answers[n-k] = a+forth(b), a-forth(b)
	}
	return answers
}

// times is a number times the point of -k parts of n, back of k.
func (w machine) times(x complex128, k, n int) complex128 {
	if !w.back {
		k = -k
	}
	p := point(k, n)
	re, im := number(p.Re), number(p.Im)
	return complex(math.FMA(real(x), re, -(imag(x)*im)), math.FMA(real(x), im, imag(x)*re))
}

// block makes the answers of those numbers of x that lie step apart, from the first one on: it asks for places alone, and moves nothing.
func (w machine) block(radix []int, x []complex128, first, step int) []complex128 {
	if len(radix) == 0 {
		return x[first : first+1]
	}
	f, n := radix[0], lengthOf(radix)
	var y [][]complex128
	for j := range f {
		y = append(y, w.block(radix[1:], x, first+j*step, f*step))
	}
	answers := make([]complex128, n)
	for k := range n / f {
		var t []complex128
		for j := range f {
			if t = append(t, y[j][k]); j*k > 0 {
				t[j] = w.times(t[j], j*k, n)
			}
		}
		for i, a := range w.little(t) {
			answers[k+i*n/f] = a
		}
	}
	return answers
}

// MI1: the machine's own numbers make the same patterns.
func TestMachine(t *testing.T) {
	m := mixer{61}
	for _, radix := range slices.Concat(short()[1:], long()) {
		for _, kind := range m.kinds() {
			for _, back := range ways() {
				x := m.list(lengthOf(radix), kind)
				var v []complex128
				for _, p := range x {
					v = append(v, complex(number(p.Re), number(p.Im)))
				}
				answers, _ := parts(t, radix, x, back)
				for k, wanted := range (machine{back}).block(radix, v, 0, 1) {
					if answers[k] != joined(real(wanted), imag(wanted)) {
						t.Fatalf("answer %d of Parts(%v) of %#x, back %v: %#x; want %v", k, radix, x, back, answers[k], wanted)
					}
				}
			}
		}
	}
}

// without is a number whose parts that are 0 are +0.
func without(p api.Pair) api.Pair {
	if p.Re == minus {
		p.Re = 0
	}
	if p.Im == minus {
		p.Im = 0
	}
	return p
}

// conjugates are numbers with the other sign of Im.
func conjugates(x []api.Pair) []api.Pair {
	x = slices.Clone(x)
	for j := range x {
		x[j].Im ^= minus
	}
	return x
}

// MI1: of finite numbers it is, back of the conjugates, the conjugates of the answers forth, bit by bit but for the sign of 0, with the same flags.
func TestBackOfConjugates(t *testing.T) {
	m := mixer{67}
	for _, radix := range slices.Concat(short(), long()) {
		for _, kind := range m.kinds()[:4] {
			x := m.list(lengthOf(radix), kind)
			if slices.ContainsFunc(x, func(p api.Pair) bool { return p.Re&^minus > greatest(len(x)) || p.Im&^minus > greatest(len(x)) }) {
				continue
			}
			forth, flags := parts(t, radix, x, false)
			back, others := parts(t, radix, conjugates(x), true)
			for k, p := range conjugates(back) {
				if without(p) != without(forth[k]) || flags != others {
					t.Fatalf("Parts(%v) of %#x: %#x, %d; of the conjugates back %#x, %d", radix, x, forth, flags, back, others)
				}
			}
		}
	}
}

// MI1: numbers of usual sizes times a power of two make the answers times it, and the same flags.
func TestPowersOfTwo(t *testing.T) {
	m := mixer{71}
	moved := func(x []api.Pair, e int) []api.Pair {
		var all []api.Pair
		for _, p := range x {
			all = append(all, joined(math.Ldexp(number(p.Re), e), math.Ldexp(number(p.Im), e)))
		}
		return all
	}
	for _, radix := range slices.Concat(short(), long()) {
		for _, e := range []int{-600, -1, 1, 900} {
			x, back := m.list(lengthOf(radix), m.kinds()[m.Below(2)]), m.Below(2) == 0
			answers, flags := parts(t, radix, x, back)
			want(t, radix, moved(x, e), back, moved(answers, e), flags)
		}
	}
}

// MI1: of 1 at any place the answer k is, forth, the point of -k times as many parts of n; by radices that turn by i alone it is just that.
func TestPoints(t *testing.T) {
	for _, radix := range [][]int{{2, 2}, {2, 4}, {4, 2}} {
		n := lengthOf(radix)
		for _, back := range ways() {
			for place := range n {
				x := make([]api.Pair, n)
				x[place] = pair(one, 0)
				answers, _ := parts(t, radix, x, back)
				for k, p := range answers {
					turns := -k * place
					if back {
						turns = -turns
					}
					if without(p) != without(point(turns, n)) {
						t.Errorf("answer %d of Parts(%v) of 1 at %d, back %v: %#x", k, radix, place, back, p)
					}
				}
			}
		}
	}
}
