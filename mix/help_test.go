package mix_test

import (
	"math"
	"slices"
	"testing"

	"tiller/aid"
	"tiller/api"
	"tiller/cplx"
	"tiller/fly"
	"tiller/mix"
	"tiller/turn"
)

const (
	minus = 1 << 63

	none  = api.Flags(0)
	off   = api.Inexact
	tiny  = api.Underflow | api.Inexact
	great = api.Overflow | api.Inexact

	longest  = 16_777_216 // the greatest length of a plan, and of an order
	farthest = 67_108_864 // the greatest of a transform

	half     = 0x3fe0000000000000
	one      = 0x3ff0000000000000
	two      = 0x4000000000000000
	three    = 0x4008000000000000
	four     = 0x4010000000000000
	ten      = 0x4024000000000000
	leastBig = 0x0010000000000000 // the least plain pattern
	last     = 0x7fefffffffffffff // the greatest finite one
	inf      = 0x7ff0000000000000
	nan      = 0x7ff8000000000000
	lastNan  = 0x7fffffffffffffff // the greatest quiet one
	loud     = 0x7ff0000000000001 // the least loud one
	lastLoud = 0x7ff7ffffffffffff
)

// Patterns of both signs: the least and the greatest of each class, and some that are numbers.
var (
	finites  = bothSigns(0, 1, leastBig-1, leastBig, half, one-1, one, three, last)
	patterns = slices.Concat(finites, bothSigns(inf, loud, lastLoud, nan, lastNan))
)

// bothSigns are patterns, each of them without its sign and with it.
func bothSigns(all ...uint64) []uint64 {
	var both []uint64
	for _, p := range all {
		both = append(both, p, p+minus)
	}
	return both
}

// lengths are those of little transforms.
func lengths() []int { return []int{2, 3, 4, 5, 7, 11, 13} }

// ways are forth and back.
func ways() []bool { return []bool{false, true} }

// short are lists of radices: none, each alone, and each two of them.
func short() [][]int {
	all := [][]int{nil}
	for _, r := range lengths() {
		all = append(all, []int{r})
	}
	for _, r := range lengths() {
		for _, s := range lengths() {
			all = append(all, []int{r, s})
		}
	}
	return all
}

// long are lists of three and more.
func long() [][]int {
	return [][]int{
		{2, 2, 2}, {2, 2, 4}, {2, 4, 2}, {4, 2, 2}, {3, 2, 4}, {2, 3, 5}, {5, 3, 2}, {3, 5, 2}, {7, 2, 3}, {2, 11, 2}, {3, 3, 3}, {4, 4, 4}, {2, 13, 3}, {5, 5, 5}, {7, 4, 7},
		{2, 2, 2, 2}, {4, 2, 4, 2}, {2, 3, 4, 5}, {3, 2, 2, 3}, {2, 2, 2, 2, 2}, {2, 3, 2, 3, 2}, {2, 2, 2, 2, 2, 2, 2}, {4, 4, 4, 4},
	}
}

// lengthOf is the product of radices.
func lengthOf(radix []int) int {
	n := 1
	for _, r := range radix {
		n *= r
	}
	return n
}

// copies are a radix, so often.
func copies(r, often int) []int { return slices.Repeat([]int{r}, often) }

// power is the plain pattern of 2^n.
func power(n int) uint64 { return uint64(n+1023) << 52 }

func pair(re, im uint64) api.Pair { return api.Pair{Re: re, Im: im} }

// reals are numbers without an imaginary part.
func reals(all ...uint64) []api.Pair {
	var x []api.Pair
	for _, p := range all {
		x = append(x, pair(p, 0))
	}
	return x
}

// number is a pattern's by the machine, which has a type of that kind, and its own way to calculate.
func number(p uint64) float64 { return math.Float64frombits(p) }

// pattern is a number's by the machine; all that is no number is one pattern.
func pattern(v float64) uint64 {
	if v != v {
		return nan
	}
	return math.Float64bits(v)
}

func joined(re, im float64) api.Pair { return pair(pattern(re), pattern(im)) }

// parts is the transform of as many numbers as the radices make.
func parts(t *testing.T, radix []int, x []api.Pair, back bool) ([]api.Pair, api.Flags) {
	t.Helper()
	answers, flags, err := mix.Parts(radix, x, back)
	if err != nil || len(answers) != len(x) {
		t.Fatalf("Parts(%v) of %d numbers: %d numbers, %v", radix, len(x), len(answers), err)
	}
	return answers, flags
}

// want fails, if the transform is another one.
func want(t *testing.T, radix []int, x []api.Pair, back bool, wanted []api.Pair, flags api.Flags) {
	t.Helper()
	if has, raised := parts(t, radix, x, back); !slices.Equal(has, wanted) || raised != flags {
		t.Errorf("Parts(%v) of %#x, back %v: %#x, flags %d; want %#x, flags %d", radix, x, back, has, raised, wanted, flags)
	}
}

// wantTold fails, if the transform is another one than the words of the chapter make.
func wantTold(t *testing.T, radix []int, x []api.Pair, back bool) {
	t.Helper()
	s := teller{back: back}
	wanted := s.told(radix, x)
	want(t, radix, x, back, wanted, s.flags)
}

// wantError fails, if Parts answers anything but this error.
func wantError(t *testing.T, radix []int, x []api.Pair, number api.Errno) {
	t.Helper()
	for _, back := range ways() {
		if answers, flags, err := mix.Parts(radix, x, back); answers != nil || flags != 0 || aid.Errno(err) != int(number) {
			t.Errorf("Parts(%.60v) of %d numbers: %d numbers, flags %d, %v; want %v", radix, len(x), len(answers), flags, err, number)
		}
	}
}

// points are those that were asked for.
var points = map[[2]int]api.Pair{}

// point is that of k parts of n.
func point(k, n int) api.Pair {
	p, known := points[[2]int{k, n}]
	if !known {
		p, _ = turn.Root(k, n)
		points[[2]int{k, n}] = p
	}
	return p
}

// teller does the steps as the chapter's words tell them.
type teller struct {
	flags api.Flags
	back  bool
}

// told is the transform of x by radices.
func (s *teller) told(radix []int, x []api.Pair) []api.Pair {
	if len(radix) == 0 {
		return x
	}
	f, n := radix[0], len(x)
	var y [][]api.Pair
	for j := range f {
		var apart []api.Pair
		for i := j; i < n; i += f {
			apart = append(apart, x[i])
		}
		y = append(y, s.told(radix[1:], apart))
	}
	m := n / f
	answers := make([]api.Pair, n)
	for k := range m {
		t := make([]api.Pair, f)
		for j := range f {
			t[j] = y[j][k]
			if j != 0 && k != 0 {
				t[j] = s.times(t[j], j*k, n)
			}
		}
		for i, a := range s.little(t) {
			answers[k+i*m] = a
		}
	}
	return answers
}

// times is a number times the point of so many parts of n, forth or back.
func (s *teller) times(x api.Pair, k, n int) api.Pair {
	if !s.back {
		k = -k
	}
	p, flags := cplx.Mul(x, point(k, n))
	s.flags |= flags
	return p
}

func (s *teller) little(x []api.Pair) []api.Pair {
	answers, flags, _ := fly.Little(x, s.back)
	s.flags |= flags
	return answers
}

// mixer makes odd numbers, and patterns by them.
type mixer struct{ aid.Mixer }

// near is a finite pattern of either sign, whose exponent is at most so far from e.
func (m *mixer) near(e, about int) uint64 {
	e = min(max(e+m.Below(2*about+1)-about, 0), 2046)
	return uint64(e)<<52 + m.Fraction() + m.Word()&minus
}

// any is a pattern of any class, often one of those that are named.
func (m *mixer) any() uint64 {
	switch m.Below(4) {
	case 0:
		return m.near(1023, 60)
	case 1:
		return m.Word()
	}
	return patterns[m.Below(len(patterns))]
}

// list are n pairs of patterns that one function makes.
func (m *mixer) list(n int, make func() uint64) []api.Pair {
	var x []api.Pair
	for range n {
		x = append(x, pair(make(), make()))
	}
	return x
}

// kinds are ways to make patterns: such that most steps are rounded, such that few are, those next to the greatest and to the least, 0 but for few, and any.
func (m *mixer) kinds() []func() uint64 {
	return []func() uint64{
		func() uint64 { return m.near(1023, 3) },
		func() uint64 { return pattern(float64(m.Below(17) - 8)) },
		func() uint64 { return m.near(2046, 3) },
		func() uint64 { return m.near(1+m.Below(60), 3) },
		func() uint64 {
			if m.Below(9) > 0 {
				return m.Word() & minus
			}
			return patterns[m.Below(len(patterns))]
		},
		m.any,
		m.Word,
	}
}

// radices are any, whose product is at most so much.
func (m *mixer) radices(most int) []int {
	var all []int
	for n := 1; ; {
		r := lengths()[m.Below(len(lengths()))]
		if n *= r; n > most {
			return all
		}
		all = append(all, r)
	}
}
