package mix_test

import (
	"math"
	"math/big"
	"slices"
	"testing"

	"tiller/api"
	"tiller/plan"
)

// bits are those that the exact transforms are told with.
const bits = 300

// exact is a number of so many bits.
func exact(v float64) *big.Float { return new(big.Float).SetPrec(bits).SetFloat64(v) }

// exactPair is a complex number of so many bits.
type exactPair struct{ re, im *big.Float }

func exactly(x []api.Pair) []exactPair {
	var all []exactPair
	for _, p := range x {
		all = append(all, exactPair{exact(number(p.Re)), exact(number(p.Im))})
	}
	return all
}

func (x exactPair) plus(y exactPair) exactPair {
	return exactPair{exact(0).Add(x.re, y.re), exact(0).Add(x.im, y.im)}
}

func (x exactPair) less(y exactPair) exactPair {
	return exactPair{exact(0).Sub(x.re, y.re), exact(0).Sub(x.im, y.im)}
}

func (x exactPair) times(y exactPair) exactPair {
	return exactPair{
		exact(0).Sub(exact(0).Mul(x.re, y.re), exact(0).Mul(x.im, y.im)),
		exact(0).Add(exact(0).Mul(x.re, y.im), exact(0).Mul(x.im, y.re)),
	}
}

// square is the sum of the squares of both parts.
func (x exactPair) square() *big.Float {
	return exact(0).Add(exact(0).Mul(x.re, x.re), exact(0).Mul(x.im, x.im))
}

// circles are those that were asked for.
var circles = map[int][]exactPair{}

// circle are the points of k parts of n, all k from 0 to n - 1. The first of them is a root of 1, found by Newton's steps from the machine's point on; each makes twice as many bits right.
func circle(n int) []exactPair {
	if circles[n] != nil {
		return circles[n]
	}
	unit := exactPair{exact(1), exact(0)}
	sine, cosine := math.Sincos(2 * math.Pi / float64(n))
	first := exactPair{exact(cosine), exact(sine)}
	for range 4 {
		power := unit
		for range n {
			power = power.times(first)
		}
		lack := unit.less(power)
		part := exactPair{lack.re.Quo(lack.re, exact(float64(n))), lack.im.Quo(lack.im, exact(float64(n)))}
		first = first.plus(first.times(part))
	}
	all := []exactPair{unit}
	for range n - 1 {
		all = append(all, all[len(all)-1].times(first))
	}
	circles[n] = all
	return all
}

// exactPoint is that of -k parts of n, back of k.
func exactPoint(k, n int, back bool) exactPair {
	if k %= n; !back {
		k = (n - k) % n
	}
	return circle(n)[k]
}

// exactSums are the sums of MI3, each of all its products.
func exactSums(x []exactPair, back bool) []exactPair {
	var sums []exactPair
	for k := range x {
		sum := exactPair{exact(0), exact(0)}
		for j, p := range x {
			sum = sum.plus(p.times(exactPoint(j*k, len(x), back)))
		}
		sums = append(sums, sum)
	}
	return sums
}

// exactParts are the same of n numbers, found faster: the sums of those that lie apart by the least part of n are found first.
func exactParts(x []exactPair, back bool) []exactPair {
	n, f := len(x), 2
	if n == 1 {
		return x
	}
	for n%f != 0 {
		f++
	}
	var y [][]exactPair
	for j := range f {
		var apart []exactPair
		for i := j; i < n; i += f {
			apart = append(apart, x[i])
		}
		y = append(y, exactParts(apart, back))
	}
	var sums []exactPair
	for k := range n {
		sum := y[0][k%(n/f)]
		for j := 1; j < f; j++ {
			sum = sum.plus(y[j][k%(n/f)].times(exactPoint(j*k, n, back)))
		}
		sums = append(sums, sum)
	}
	return sums
}

// MI3: what the transforms are held against is the same by both ways, but for the last bits.
func TestExact(t *testing.T) {
	m := mixer{47}
	for _, n := range []int{1, 2, 3, 4, 6, 7, 12, 30, 36, 49, 64} {
		for _, back := range ways() {
			x := exactly(m.list(n, m.kinds()[0]))
			for k, sum := range exactSums(x, back) {
				if off := sum.less(exactParts(x, back)[k]).square(); off.Cmp(exact(0x1p-550)) > 0 {
					t.Fatalf("sum %d of %d is off by %v", k, n, off)
				}
			}
		}
	}
}

// boundOf is the bound of a plan part by part, as layer 19 has it.
func boundOf(t *testing.T, radix []int) int {
	t.Helper()
	b, err := plan.Bound(byParts(radix...))
	if err != nil {
		t.Fatal(err)
	}
	return b
}

// wantNear holds the answers against the exact ones.
func wantNear(t *testing.T, radix []int, x []api.Pair, back bool) {
	t.Helper()
	answers, _ := parts(t, radix, x, back)
	e, d := exact(0), exact(0)
	for _, p := range answers {
		if p.Re&^minus >= inf || p.Im&^minus >= inf {
			t.Fatalf("Parts(%v) of %#x: %#x is not finite", radix, x, p)
		}
	}
	has := exactly(answers)
	for k, sum := range exactParts(exactly(x), back) {
		e.Add(e, has[k].less(sum).square())
		d.Add(d, sum.square())
	}
	n, b := float64(len(x)), exact(float64(boundOf(t, radix)))
	most := exact(0).Mul(exact(0).Mul(b, b), d)
	most.SetMantExp(most, -106)
	least := exact(n * n * n * n)
	most.Add(most, least.SetMantExp(least, -2000))
	if e.Cmp(most.SetMantExp(most, 1)) > 0 {
		t.Fatalf("Parts(%v) of %.300x, back %v: off by %v, more than %v", radix, x, back, e, most)
	}
}

// greatest is the greatest pattern of which 64 n^2 times is below 2^1023.
func greatest(n int) uint64 {
	most := exact(0).Quo(exact(0x1p1023), exact(64*float64(n)*float64(n)))
	v, _ := most.Float64()
	if exact(v).Cmp(most) >= 0 {
		v = math.Nextafter(v, 0)
	}
	return pattern(v)
}

// sizes are ways to make patterns of sizes up to greatest: usual ones, whole ones, all sizes, all just the greatest, next to it, those next to the least, the least but the plain ones, 0 but for few, and such as are named.
func (m *mixer) sizes(n int) []func() uint64 {
	most := greatest(n)
	sign := func(p uint64) uint64 { return min(p&^minus, most) | m.Word()&minus }
	return []func() uint64{
		m.kinds()[0],
		m.kinds()[1],
		func() uint64 { return sign(m.near(1023, 1023)) },
		func() uint64 { return sign(most) },
		func() uint64 { return sign(m.near(int(most>>52), 1)) },
		func() uint64 { return m.near(2, 2) },
		func() uint64 { return m.Fraction() | m.Word()&minus },
		func() uint64 {
			if m.Below(n) > 0 {
				return m.Word() & minus
			}
			return sign(m.near(1023, 1023))
		},
		func() uint64 { return sign(finites[m.Below(len(finites))]) },
	}
}

// MI3: none, each radix alone, each two, and three and more, of numbers of all sizes that there may be.
func TestNear(t *testing.T) {
	m := mixer{53}
	for _, radix := range slices.Concat(short(), long()) {
		n := lengthOf(radix)
		for _, size := range m.sizes(n) {
			for _, back := range ways() {
				if n <= 30 || m.Below(n) < 30 {
					wantNear(t, radix, m.list(n, size), back)
				}
			}
		}
	}
}

// MI3: numbers that all are the same, so that all answers but the first are 0 but for rounding; such as are 0 but for one, at each place; and all 0.
func TestNearOfFew(t *testing.T) {
	for _, radix := range [][]int{{2, 3}, {4, 4}, {5, 3}, {7, 2, 2}, {11, 3}, {13, 2}} {
		n := lengthOf(radix)
		for _, p := range []uint64{0x3fb999999999999a, greatest(n), minus + greatest(n), leastBig + 1, 1, 0} {
			all := pair(p, p^minus)
			wantNear(t, radix, slices.Repeat([]api.Pair{all}, n), false)
			for place := range n {
				x := make([]api.Pair, n)
				x[place] = all
				wantNear(t, radix, x, place%2 == 0)
			}
		}
	}
}

// MI3: long ones.
func TestNearOfMany(t *testing.T) {
	m := mixer{59}
	for _, radix := range [][]int{copies(4, 6), copies(2, 11), {13, 11, 7, 2}, {3, 3, 3, 3, 3, 3}, {2, 5, 4, 5, 7}, {2, 13, 13, 3}} {
		n := lengthOf(radix)
		for _, size := range m.sizes(n)[:4] {
			wantNear(t, radix, m.list(n, size), m.Below(2) == 0)
		}
	}
}
