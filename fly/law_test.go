package fly_test

import (
	"math"
	"math/big"
	"slices"
	"testing"

	"tiller/api"
)

// FL1: back, the answers are those of forth, the last ones first but for the first one, bit by bit, with the same flags: an i back is an i forth with the other sign.
func TestBackIsForthTurnedRound(t *testing.T) {
	m := mixer{31}
	for _, n := range lengths() {
		for range 100 / n {
			for _, kind := range m.kinds() {
				x := m.list(n, kind)
				forth, flags := little(t, x, false)
				slices.Reverse(forth[1:])
				want(t, x, true, forth, flags)
			}
		}
	}
}

// FL1, FL2: back of forth, and forth of back, is the number as often as there are numbers, but for what rounding makes.
func TestBackOfForth(t *testing.T) {
	m := mixer{37}
	for _, n := range lengths() {
		for range 40 {
			x := m.list(n, m.kinds()[0])
			for _, back := range ways() {
				once, _ := little(t, x, back)
				twice, _ := little(t, once, !back)
				for j, p := range twice {
					wrong := max(math.Abs(number(p.Re)-float64(n)*number(x[j].Re)), math.Abs(number(p.Im)-float64(n)*number(x[j].Im)))
					if wrong > size(x)*float64(n)*0x1p-49 {
						t.Fatalf("%#x of %#x: off by %g", twice, x, wrong)
					}
				}
			}
		}
	}
	want(t, reals(three, minus+one), true, reals(two, four), none)
	want(t, []api.Pair{pair(ten, 0), pair(minus+two, two), pair(minus+two, 0), pair(minus+two, minus+two)}, true, reals(four, 0x4020000000000000, 0x4028000000000000, 0x4030000000000000), none)
}

// size is all the sizes of the parts together.
func size(x []api.Pair) float64 {
	all := 0.0
	for _, p := range x {
		all += math.Abs(number(p.Re)) + math.Abs(number(p.Im))
	}
	return all
}

// moved are the pairs times 2^e; none of them may leave the plain numbers.
func moved(x []api.Pair, e int) []api.Pair {
	by := math.Ldexp(1, e)
	var all []api.Pair
	for _, p := range x {
		all = append(all, joined(number(p.Re)*by, number(p.Im)*by))
	}
	return all
}

// FL1: numbers of usual sizes times a power of two make the answers times it, and the same flags.
func TestPowersOfTwo(t *testing.T) {
	m := mixer{41}
	for _, n := range lengths() {
		for range 60 / n {
			for _, kind := range m.kinds()[:2] {
				x := m.list(n, kind)
				for _, e := range []int{-800, -301, -1, 1, 52, 500, 900} {
					for _, back := range ways() {
						answers, flags := little(t, x, back)
						want(t, moved(x, e), back, moved(answers, e), flags)
					}
				}
			}
		}
	}
}

// bits are those that the sums of FL2 are told with.
const bits = 300

// exact is a number of so many bits.
func exact(v float64) *big.Float { return new(big.Float).SetPrec(bits).SetFloat64(v) }

// exactPair is a complex number of so many bits.
type exactPair struct{ re, im *big.Float }

func exactly(p api.Pair) exactPair { return exactPair{exact(number(p.Re)), exact(number(p.Im))} }

func (x exactPair) plus(y exactPair) exactPair {
	return exactPair{exact(0).Add(x.re, y.re), exact(0).Add(x.im, y.im)}
}

func (x exactPair) less(y exactPair) exactPair {
	return exactPair{exact(0).Sub(x.re, y.re), exact(0).Sub(x.im, y.im)}
}

func (x exactPair) times(y exactPair) exactPair {
	return exactPair{
		exact(0).Sub(exact(0).Mul(x.re, y.re), exact(0).Mul(x.im, y.im)),
		exact(0).Add(exact(0).Mul(x.re, y.im), exact(0).Mul(x.im, y.re)),
	}
}

// circle are the points of k parts of n, all k from 0 to n - 1. The first of them is a root of 1, found by Newton's steps from the machine's point on; each makes twice as many bits right.
func circle(n int) []exactPair {
	unit := exactPair{exact(1), exact(0)}
	sine, cosine := math.Sincos(2 * math.Pi / float64(n))
	first := exactPair{exact(cosine), exact(sine)}
	for range 4 {
		power := unit
		for range n {
			power = power.times(first)
		}
		lack := unit.less(power)
		part := exactPair{lack.re.Quo(lack.re, exact(float64(n))), lack.im.Quo(lack.im, exact(float64(n)))}
		first = first.plus(first.times(part))
	}
	points := []exactPair{unit}
	for range n - 1 {
		points = append(points, points[len(points)-1].times(first))
	}
	return points
}

// wantNear holds the answers against the exact sums.
func wantNear(t *testing.T, x []api.Pair, back bool, points []exactPair) {
	t.Helper()
	n := len(x)
	answers, _ := little(t, x, back)
	bound := exact(0).Add(exact(0).Mul(exact(size(x)), exact(0x1p-48)), exact(0x1p-1066))
	for k, has := range answers {
		if has.Re&^minus >= inf || has.Im&^minus >= inf {
			t.Fatalf("answer %d of %#x: %#x", k, x, has)
		}
		rest := exactly(has)
		for j, p := range x {
			place := j * k % n
			if !back {
				place = (n - place) % n
			}
			rest = rest.less(exactly(p).times(points[place]))
		}
		if rest.re.Abs(rest.re).Cmp(bound) > 0 || rest.im.Abs(rest.im).Cmp(bound) > 0 {
			t.Fatalf("answer %d of %#x, back %v: %#x, off by %v, more than %v", k, x, back, has, rest, bound)
		}
	}
}

// FL2: finite numbers up to 2^900, of usual sizes, of all sizes, all great, and all next to the least.
func TestNear(t *testing.T) {
	m := mixer{43}
	kinds := []func() uint64{
		func() uint64 { return m.near(1023, 3) },
		func() uint64 { return m.near(900, 1022) },
		func() uint64 { return min(m.near(1023+898, 2)&^minus, power(900)) | m.Word()&minus },
		func() uint64 { return power(900) | m.Word()&minus },
		func() uint64 { return m.near(2, 3) },
		func() uint64 { return finites[m.Below(len(finites)-2)] },
	}
	for _, n := range lengths() {
		points := circle(n)
		for range 20 {
			for _, kind := range kinds {
				for _, back := range ways() {
					wantNear(t, m.list(n, kind), back, points)
				}
			}
		}
	}
}
