package quot_test

import (
	"math/big"
	"slices"
	"testing"

	"tiller/aid"
	"tiller/api"
	"tiller/pat"
)

// sqrtCase is a pattern, and its root by Even, Away, Zero, Up and Down.
type sqrtCase struct {
	what string
	a    uint64
	want [5]answer
}

// playSqrt tries every case by every mode; a mode that is none is as Even. With the other sign each is invalid.
func playSqrt(t *testing.T, cases []sqrtCase) {
	t.Helper()
	for _, c := range cases {
		for m := range c.want {
			wantSqrt(t, c.what, c.a, api.Mode(m), c.want[m])
		}
		for _, m := range aid.NoModes() {
			wantSqrt(t, c.what, c.a, m, c.want[api.Even])
		}
		eachRoot(t, c.what+", below 0", []uint64{c.a + minus}, answer{nan, api.Invalid})
	}
}

// eachRoot asks for one answer of all patterns, by every mode and by some that are none.
func eachRoot(t *testing.T, what string, all []uint64, want answer) {
	t.Helper()
	for _, a := range all {
		for _, m := range aid.AllModes() {
			wantSqrt(t, what, a, m, want)
		}
	}
}

// QU2: the chapter's example.
func TestSqrtExample(t *testing.T) {
	playSqrt(t, []sqrtCase{{"2", two, nearHigh(0x3ff6a09e667f3bcd)}})
}

// QU2 and chapter 5's words: what is no number; its sign makes it no less than 0.
func TestSqrtNoNumber(t *testing.T) {
	eachRoot(t, "Quiet", quiets, answer{nan, none})
	eachRoot(t, "Loud", louds, answer{nan, api.Invalid})
}

// QU2: 0 of both signs, what is below 0, and Endless.
func TestSqrtEnds(t *testing.T) {
	eachRoot(t, "0", []uint64{0}, answer{0, none})
	eachRoot(t, "-0", []uint64{minus}, answer{minus, none})
	eachRoot(t, "Endless", []uint64{inf}, answer{inf, none})
	eachRoot(t, "below 0", []uint64{inf + minus, last + minus, two + minus, one + minus, half + minus, leastBig + minus, leastBig - 1 + minus, 2 + minus, 1 + minus}, answer{nan, api.Invalid})
}

// QU2: powers of two, even and odd ones, from the least to the greatest.
func TestSqrtPowers(t *testing.T) {
	for n := -1074; n <= 1023; n++ {
		p := power(n)
		if n < -1022 {
			p = 1 << uint(n+1074)
		}
		if n%2 == 0 {
			playSqrt(t, []sqrtCase{{"an even power", p, same(power(n/2), none)}})
		} else {
			playSqrt(t, []sqrtCase{{"an odd power", p, nearHigh(power((n-1)/2) + 0x6a09e667f3bcd)}})
		}
	}
}

// QU2: plain patterns: what is exact, what lies hardly above and below the middle of two patterns, and next to one.
func TestSqrtPlain(t *testing.T) {
	playSqrt(t, []sqrtCase{
		{"1", one, same(one, none)},
		{"4", 0x4010000000000000, same(two, none)},
		{"9", 0x4022000000000000, same(three, none)},
		{"2.25", 0x4002000000000000, same(0x3ff8000000000000, none)},
		{"3", three, nearLow(0x3ffbb67ae8584caa)},
		{"a half", half, nearHigh(0x3fe6a09e667f3bcd)},
		{"0.01", 0x3f847ae147ae147b, nearHigh(0x3fb999999999999a)},
		{"hardly below the middle, even below", one + 1, nearLow(one)},
		{"hardly below the middle, odd below", one + 3, nearLow(one + 1)},
		{"hardly below the middle, below 1", one - 1, nearLow(one - 1)},
		{"hardly below the middle, all bits, odd power", 0x400fffffffffffff, nearLow(two - 1)},
		{"hardly above the middle, odd below", 0x3ffd407bb3641da5, nearHigh(0x3ff5a24e31b39fa6)},
		{"hardly above the middle, even below, odd power", 0x4005b95344972fe2, nearHigh(0x3ffa5db1ce4c605b)},
		{"hardly above the middle, even below", 0x3ff2b035c1197f48, nearHigh(0x3ff14ac03ef7226d)},
		{"next below a pattern", one + 2, nearHigh(one + 1)},
		{"next below another", one - 2, nearHigh(one - 1)},
		{"next below a third", 0x400ffffffffffffe, nearHigh(two - 1)},
		{"all bits, even power", two - 1, nearLow(0x3ff6a09e667f3bcc)},
		{"above 2", two + 1, nearLow(0x3ff6a09e667f3bcd)},
	})
}

// QU2: the ends of what is finite: no root is tiny, and none is too great.
func TestSqrtFar(t *testing.T) {
	playSqrt(t, []sqrtCase{
		{"the least", 1, same(power(-537), none)},
		{"two of it", 2, nearHigh(0x1e66a09e667f3bcd)},
		{"three of it", 3, nearLow(0x1e6bb67ae8584caa)},
		{"four of it", 4, same(power(-536), none)},
		{"five of it", 5, nearHigh(0x1e71e3779b97f4a8)},
		{"nine of it", 9, same(power(-536)+1<<51, none)},
		{"the last tiny one", leastBig - 1, nearHigh(power(-511) - 1)},
		{"the least plain one", leastBig, same(power(-511), none)},
		{"the next plain one", leastBig + 1, nearLow(power(-511))},
		{"the greatest", last, nearLow(0x5fefffffffffffff)},
		{"the one below", last - 1, nearHigh(0x5fefffffffffffff)},
		{"the greatest even power", power(1022), same(power(511), none)},
	})
}

// squareOf is the pattern of a square that needs no rounding.
func squareOf(p uint64) (uint64, bool) {
	v, exp := exactly(p)
	if v.Sign() == 0 {
		return 0, true
	}
	z := rounded(v.Mul(v, v), 2*exp, false, false, api.Even)
	return z.p, z.f == none
}

// QU3 and QU2: squares that need no rounding, and their neighbours.
func TestSqrtSquares(t *testing.T) {
	m := mixer{29}
	roots := slices.Concat(noughts, bothSigns(power(-537), power(-537)+1<<51, power(-511), power(-485), half, one, two, three, power(52)-1<<27, power(511), power(512)-1<<27))
	for range 4_000 {
		roots = append(roots, m.short())
	}
	tried := 0
	for _, p := range roots {
		square, ok := squareOf(p)
		if !ok {
			continue
		}
		tried++
		eachRoot(t, "a square", []uint64{square}, answer{pat.Abs(p), none})
		for _, next := range []uint64{square - 1, square + 1} {
			if square == 0 || next == 0 {
				continue
			}
			for _, mode := range aid.AllModes() {
				wantSqrt(t, "next to a square", next, mode, wantedSqrt(next, mode))
			}
		}
		if t.Failed() {
			return
		}
	}
	if tried < 1_000 {
		t.Errorf("only %d squares", tried)
	}
}

// rootOf is a number whose square is c modulo 2^bits; c is 1 more than a multiple of 8. Each step makes one bit more right.
func rootOf(c uint64, bits int) uint64 {
	root := uint64(1)
	for i := 3; i < bits; i++ {
		if (root*root-c)>>uint(i)&1 == 1 {
			root += 1 << uint(i-1)
		}
	}
	return root & (1<<uint(bits) - 1)
}

// middles are the odd numbers of halves, of 54 bits, whose square is c more than a multiple of 2^bits, and that multiple's count, if it has 53 bits.
func middles(c int64, bits int) map[uint64]uint64 {
	found := map[uint64]uint64{}
	first, modulus := rootOf(uint64(c), bits), uint64(1)<<uint(bits)
	for _, halves := range []uint64{first, modulus - first, (first + modulus/2) % modulus, (modulus + modulus/2 - first) % modulus} {
		square := new(big.Int).SetUint64(halves)
		square.Mul(square, square)
		square.Sub(square, big.NewInt(c))
		count := square.Rsh(square, uint(bits)).Uint64()
		if halves>>53 == 1 && count>>52 == 1 {
			found[halves] = count
		}
	}
	return found
}

// QU2: roots as near the middle of two patterns as any are: of numbers that differ from a square of an odd number of halves by little.
func TestSqrtNearMiddle(t *testing.T) {
	tried := 0
	for c := int64(-4_095); c < 4_096; c += 8 {
		for _, bits := range []int{54, 55} {
			for halves, count := range middles(c, bits) {
				tried++
				a, low := power(bits-54)+count-1<<52, one+halves>>1-1<<52
				if c < 0 {
					playSqrt(t, []sqrtCase{{"hardly above the middle", a, nearHigh(low + 1)}})
				} else {
					playSqrt(t, []sqrtCase{{"hardly below the middle", a, nearLow(low)}})
				}
			}
		}
	}
	if tried < 500 {
		t.Errorf("only %d roots", tried)
	}
}

// QU2, all of it of finite patterns above 0, word for word.
func TestSqrtAll(t *testing.T) {
	m := mixer{7}
	for range 20_000 {
		a := pat.Abs(m.finite())
		switch m.Below(4) {
		case 0:
			a = pat.Abs(m.near(0, 1))
		case 1:
			a = m.Word() >> uint(12+m.Below(52))
		}
		if a == 0 {
			continue
		}
		for _, mode := range append(aid.Modes(), m.Mode()) {
			wantSqrt(t, "all", a, mode, wantedSqrt(a, mode))
		}
		if t.Failed() {
			return
		}
	}
}
