package fly_test

import (
	"math"
	"slices"
	"testing"

	"tiller/aid"
	"tiller/api"
	"tiller/cplx"
	"tiller/fly"
	"tiller/turn"
)

const (
	minus = 1 << 63

	none  = api.Flags(0)
	off   = api.Inexact
	tiny  = api.Underflow | api.Inexact
	great = api.Overflow | api.Inexact

	half     = 0x3fe0000000000000
	one      = 0x3ff0000000000000
	two      = 0x4000000000000000
	three    = 0x4008000000000000
	four     = 0x4010000000000000
	five     = 0x4014000000000000
	ten      = 0x4024000000000000
	leastBig = 0x0010000000000000 // the least plain pattern
	last     = 0x7fefffffffffffff // the greatest finite one
	inf      = 0x7ff0000000000000
	nan      = 0x7ff8000000000000
	lastNan  = 0x7fffffffffffffff // the greatest quiet one
	loud     = 0x7ff0000000000001 // the least loud one
	lastLoud = 0x7ff7ffffffffffff
)

// Patterns of both signs: the least and the greatest of each class, and some that are numbers.
var (
	finites  = bothSigns(0, 1, leastBig-1, leastBig, half, one-1, one, three, last)
	patterns = slices.Concat(finites, bothSigns(inf, loud, lastLoud, nan, lastNan))
)

// bothSigns are patterns, each of them without its sign and with it.
func bothSigns(all ...uint64) []uint64 {
	var both []uint64
	for _, p := range all {
		both = append(both, p, p+minus)
	}
	return both
}

// lengths are those of which there are little transforms.
func lengths() []int { return []int{2, 3, 4, 5, 7, 11, 13} }

// odds are the odd ones of them.
func odds() []int { return []int{3, 5, 7, 11, 13} }

// ways are forth and back.
func ways() []bool { return []bool{false, true} }

// power is the plain pattern of 2^n.
func power(n int) uint64 { return uint64(n+1023) << 52 }

func pair(re, im uint64) api.Pair { return api.Pair{Re: re, Im: im} }

// reals are numbers without an imaginary part.
func reals(all ...uint64) []api.Pair {
	var x []api.Pair
	for _, p := range all {
		x = append(x, pair(p, 0))
	}
	return x
}

// number is a pattern's by the machine, which has a type of that kind, and its own way to calculate.
func number(p uint64) float64 { return math.Float64frombits(p) }

// pattern is a number's by the machine; all that is no number is one pattern.
func pattern(v float64) uint64 {
	if v != v {
		return nan
	}
	return math.Float64bits(v)
}

// little is the transform of as many numbers as have one.
func little(t *testing.T, x []api.Pair, back bool) ([]api.Pair, api.Flags) {
	t.Helper()
	answers, flags, err := fly.Little(x, back)
	if err != nil || len(answers) != len(x) {
		t.Fatalf("Little of %#x: %#x, %v", x, answers, err)
	}
	return answers, flags
}

// want fails, if the transform is another one.
func want(t *testing.T, x []api.Pair, back bool, wanted []api.Pair, flags api.Flags) {
	t.Helper()
	if has, raised := little(t, x, back); !slices.Equal(has, wanted) || raised != flags {
		t.Errorf("Little of %#x, back %v: %#x, flags %d; want %#x, flags %d", x, back, has, raised, wanted, flags)
	}
}

// teller does the steps as the chapter tells them, one behind the other.
type teller struct {
	flags api.Flags
	n     int
	back  bool
}

func (s *teller) add(x, y api.Pair) api.Pair {
	z, flags := cplx.Add(x, y)
	s.flags |= flags
	return z
}

func (s *teller) sub(x, y api.Pair) api.Pair {
	z, flags := cplx.Sub(x, y)
	s.flags |= flags
	return z
}

func (s *teller) more(x api.Pair, by uint64, to api.Pair) api.Pair {
	z, flags := cplx.More(x, by, to)
	s.flags |= flags
	return z
}

func (s *teller) forth(x api.Pair) api.Pair {
	if s.back {
		return cplx.Turn(x, false)
	}
	return cplx.Turn(x, true)
}

// cosines and sines are those of all parts of a turn of n, found once.
var cosines, sines = points()

func points() (cosines, sines map[[2]int]uint64) {
	cosines, sines = map[[2]int]uint64{}, map[[2]int]uint64{}
	for _, n := range odds() {
		for j := 1; j < n; j++ {
			for k := 1; k < n; k++ {
				cosines[[2]int{j * k, n}], _ = turn.Cos(j*k, n)
				sines[[2]int{j * k, n}], _ = turn.Sin(j*k, n)
			}
		}
	}
	return cosines, sines
}

// answer is the answer k of FL1 for odd n, k being from 1 to n - 1.
func (s *teller) answer(x []api.Pair, k int) api.Pair {
	n := len(x)
	mirrored := k > n/2
	if mirrored {
		k = n - k
	}
	a, b := x[0], pair(0, 0)
	for j := 1; j <= (n-1)/2; j++ {
		a = s.more(s.add(x[j], x[n-j]), cosines[[2]int{j * k, n}], a)
		b = s.more(s.sub(x[j], x[n-j]), sines[[2]int{j * k, n}], b)
	}
	if mirrored {
		return s.sub(a, s.forth(b))
	}
	return s.add(a, s.forth(b))
}

// told are the answers and the flags of FL1.
func told(x []api.Pair, back bool) ([]api.Pair, api.Flags) {
	s := teller{back: back}
	switch len(x) {
	case 2:
		return []api.Pair{s.add(x[0], x[1]), s.sub(x[0], x[1])}, s.flags
	case 4:
		a, b := s.add(x[0], x[2]), s.sub(x[0], x[2])
		c, d := s.add(x[1], x[3]), s.sub(x[1], x[3])
		e := s.forth(d)
		return []api.Pair{s.add(a, c), s.add(b, e), s.sub(a, c), s.sub(b, e)}, s.flags
	}
	first := x[0]
	for j := 1; j <= len(x)/2; j++ {
		first = s.add(first, s.add(x[j], x[len(x)-j]))
	}
	answers := []api.Pair{first}
	for k := 1; k < len(x); k++ {
		answers = append(answers, s.answer(x, k))
	}
	return answers, s.flags
}

// mixer makes odd numbers, and patterns by them.
type mixer struct{ aid.Mixer }

// near is a finite pattern of either sign, whose exponent is at most so far from e.
func (m *mixer) near(e, about int) uint64 {
	e = min(max(e+m.Below(2*about+1)-about, 0), 2046)
	return uint64(e)<<52 + m.Fraction() + m.Word()&minus
}

// any is a pattern of any class, often one of those that are named.
func (m *mixer) any() uint64 {
	switch m.Below(4) {
	case 0:
		return m.near(1023, 60)
	case 1:
		return m.Word()
	}
	return patterns[m.Below(len(patterns))]
}

// list are n pairs of patterns that one function makes.
func (m *mixer) list(n int, make func() uint64) []api.Pair {
	var x []api.Pair
	for range n {
		x = append(x, pair(make(), make()))
	}
	return x
}

// kinds are ways to make patterns: such that most steps are rounded, such that few are, those next to the greatest and to the least, 0 but for few, and any.
func (m *mixer) kinds() []func() uint64 {
	return []func() uint64{
		func() uint64 { return m.near(1023, 3) },
		func() uint64 { return pattern(float64(m.Below(17) - 8)) },
		func() uint64 { return m.near(2046, 3) },
		func() uint64 { return m.near(1+m.Below(60), 3) },
		func() uint64 {
			if m.Below(5) > 0 {
				return m.Word() & minus
			}
			return patterns[m.Below(len(patterns))]
		},
		m.any,
		m.Word,
	}
}
