package cplx_test

import (
	"testing"

	"tiller/api"
	"tiller/cplx"
)

// partCase are two patterns, and what they make.
type partCase struct {
	a, b uint64
	part
}

// playParts tries every two cases as the parts of one call: each part has what its own case tells, and the flags are those of both.
func playParts(t *testing.T, what string, call func(x, y api.Pair) (api.Pair, api.Flags), cases []partCase) {
	t.Helper()
	for _, c := range cases {
		for _, d := range cases {
			want(t, what, got(call(pair(c.a, d.a), pair(c.b, d.b))), both(c.part, d.part), c.a, d.a, c.b, d.b)
		}
	}
}

// sumCases are sums of all classes. One that is tiny is exact.
func sumCases() []partCase {
	return []partCase{
		{one, one, part{two, none}},
		{one, oneHalf, part{0x4004000000000000, none}},
		{minus + one, two, part{one, none}},
		{one, power(-53), part{one, off}},
		{one + 1, power(-53), part{one + 2, off}},
		{0x3fb999999999999a, 0x3fc999999999999a, part{0x3fd3333333333334, off}},
		{last, last, part{inf, great}},
		{last, power(970), part{inf, great}},
		{last, power(969), part{last, off}},
		{minus + last, minus + last, part{minus + inf, great}},
		{last, minus + last, part{0, none}},
		{1, 1, part{2, none}},
		{1, minus + 1, part{0, none}},
		{leastBig - 1, 1, part{leastBig, none}},
		{leastBig, minus + 1, part{leastBig - 1, none}},
		{one, minus + one, part{0, none}},
		{0, 0, part{0, none}},
		{0, minus, part{0, none}},
		{minus, 0, part{0, none}},
		{minus, minus, part{minus, none}},
		{minus, 1, part{1, none}},
		{inf, one, part{inf, none}},
		{minus + last, minus + inf, part{minus + inf, none}},
		{inf, inf, part{inf, none}},
		{inf, minus + inf, part{nan, api.Invalid}},
		{minus + inf, inf, part{nan, api.Invalid}},
		{nan, one, part{nan, none}},
		{inf, minus + lastNan, part{nan, none}},
		{minus + nan, lastNan, part{nan, none}},
		{loud, one, part{nan, api.Invalid}},
		{0, minus + lastLoud, part{nan, api.Invalid}},
		{nan, loud, part{nan, api.Invalid}},
		{minus + lastLoud, lastLoud, part{nan, api.Invalid}},
	}
}

// CP1: Add, part by part.
func TestAdd(t *testing.T) { playParts(t, "Add", cplx.Add, sumCases()) }

// CP1: Sub, part by part: as a sum with the other sign.
func TestSub(t *testing.T) {
	cases := sumCases()
	for i := range cases {
		cases[i].b ^= minus
	}
	playParts(t, "Sub", cplx.Sub, cases)
}

// CP1: a number less itself is +0, whatever its signs are, and not of what is endless, or no number.
func TestSubItself(t *testing.T) {
	itself := func(p uint64) part {
		switch p &^ minus {
		case inf, loud, lastLoud, 0x7ff4000000000000:
			return part{nan, api.Invalid}
		case nan, nan + 1, 0x7ffc000000000000, lastNan:
			return part{nan, none}
		}
		return part{0, none}
	}
	for _, a := range patterns {
		for _, b := range patterns {
			x := pair(a, b)
			want(t, "Sub", got(cplx.Sub(x, x)), both(itself(a), itself(b)), x, x)
		}
	}
}

// realCase are patterns with one real number, and what each of them makes with it.
type realCase struct {
	by    uint64
	parts map[uint64]part
}

// playReal tries every two patterns of a case as the parts of one call.
func playReal(t *testing.T, what string, call func(x api.Pair, by uint64) (api.Pair, api.Flags), cases []realCase) {
	t.Helper()
	for _, c := range cases {
		for a, re := range c.parts {
			for b, im := range c.parts {
				want(t, what, got(call(pair(a, b), c.by)), both(re, im), a, b, c.by)
			}
		}
	}
}

// stays are finite patterns and endless ones that an operation leaves, and those that are no numbers, that it does not; sign is turned round in all that are.
func stays(sign uint64) map[uint64]part {
	parts := map[uint64]part{}
	for _, p := range numbers {
		parts[p] = part{p ^ sign, none}
	}
	for _, p := range quiets {
		parts[p] = part{nan, none}
	}
	for _, p := range louds {
		parts[p] = part{nan, api.Invalid}
	}
	return parts
}

// noNumbers are all patterns with one that is no number, and that raises these flags itself.
func noNumbers(f api.Flags) map[uint64]part {
	parts := map[uint64]part{}
	for _, p := range patterns {
		parts[p] = part{nan, f}
	}
	for _, p := range louds {
		parts[p] = part{nan, api.Invalid}
	}
	return parts
}

// CP1: Scale by a finite number that is not 0.
func TestScale(t *testing.T) {
	playReal(t, "Scale", cplx.Scale, []realCase{
		{one, stays(0)},
		{minus + one, stays(minus)},
		{two, map[uint64]part{one: {two, none}, 1: {2, none}, leastBig - 1: {2*leastBig - 2, none}, last: {inf, great}, minus + last: {minus + inf, great}, 0: {0, none}, minus: {minus, none}, inf: {inf, none}, nan: {nan, none}, loud: {nan, api.Invalid}}},
		{half, map[uint64]part{one: {half, none}, 1: {0, tiny}, minus + 1: {minus, tiny}, 3: {2, tiny}, 2: {1, none}, leastBig: {leastBig / 2, none}, last: {last - leastBig, none}, 0: {0, none}, minus + inf: {minus + inf, none}, lastNan: {nan, none}, lastLoud: {nan, api.Invalid}}},
		{minus + oneHalf, map[uint64]part{one: {minus + oneHalf, none}, one + 1: {minus + oneHalf + 2, off}, minus + one + 3: {oneHalf + 4, off}, 1: {minus + 2, tiny}, last: {minus + inf, great}, 0: {minus, none}, minus: {0, none}, inf: {minus + inf, none}}},
		{third, map[uint64]part{one: {third, none}, three: {one, off}, 1: {0, tiny}, 3: {1, tiny}, minus + last: {minus + 0x7fd5555555555554, off}}},
		{last, map[uint64]part{one: {last, none}, one + 1: {inf, great}, last: {inf, great}, minus + two: {minus + inf, great}, 1: {0x3ccfffffffffffff, none}, half: {last - leastBig, none}}},
		{1, map[uint64]part{one: {1, none}, half: {0, tiny}, oneHalf: {2, tiny}, minus + 1: {minus, tiny}, last: {0x3ccfffffffffffff, none}, inf: {inf, none}, minus: {minus, none}}},
	})
}

// CP1: Scale by 0, by what is endless, and by what is no number.
func TestScaleByNone(t *testing.T) {
	byNought, byEndless := stays(0), stays(0)
	for _, p := range finites {
		byNought[p] = part{p & minus, none}
		byEndless[p] = part{p&minus + inf, none}
	}
	for _, p := range endless {
		byNought[p] = part{nan, api.Invalid}
	}
	for _, p := range noughts {
		byEndless[p] = part{nan, api.Invalid}
	}
	cases := []realCase{{0, byNought}, {minus, turned(byNought)}, {inf, byEndless}, {minus + inf, turned(byEndless)}}
	playReal(t, "Scale", cplx.Scale, append(cases, byNoNumbers()...))
}

// turned are parts whose answers have the other sign, but those that are no numbers.
func turned(parts map[uint64]part) map[uint64]part {
	others := map[uint64]part{}
	for p, x := range parts {
		if x.p != nan {
			x.p ^= minus
		}
		others[p] = x
	}
	return others
}

// byNoNumbers are all patterns with each that is no number.
func byNoNumbers() []realCase {
	var cases []realCase
	for _, by := range quiets {
		cases = append(cases, realCase{by, noNumbers(none)})
	}
	for _, by := range louds {
		cases = append(cases, realCase{by, noNumbers(api.Invalid)})
	}
	return cases
}

// CP1: Div by a finite number that is not 0.
func TestDiv(t *testing.T) {
	playReal(t, "Div", cplx.Div, []realCase{
		{one, stays(0)},
		{minus + one, stays(minus)},
		{two, map[uint64]part{one: {half, none}, 1: {0, tiny}, minus + 1: {minus, tiny}, 3: {2, tiny}, leastBig: {leastBig / 2, none}, last: {last - leastBig, none}, 0: {0, none}, minus: {minus, none}, inf: {inf, none}, nan: {nan, none}, loud: {nan, api.Invalid}}},
		{half, map[uint64]part{one: {two, none}, 1: {2, none}, last: {inf, great}, minus + last: {minus + inf, great}, minus + inf: {minus + inf, none}, minus + lastNan: {nan, none}, minus + lastLoud: {nan, api.Invalid}}},
		{three, map[uint64]part{one: {third, off}, minus + one: {minus + third, off}, three: {one, none}, two: {third + leastBig, off}, 1: {0, tiny}, 2: {1, tiny}, 3: {1, none}, 0: {0, none}}},
		{minus + 1, map[uint64]part{1: {minus + one, none}, minus + 3: {three, none}, leastBig: {minus + power(52), none}, one: {minus + inf, great}, 0: {minus, none}, minus: {0, none}, inf: {minus + inf, none}}},
		{last, map[uint64]part{last: {one, none}, minus + last: {minus + one, none}, one: {leastBig / 4, tiny}, 1: {0, tiny}, inf: {inf, none}}},
	})
}

// CP1: Div by 0, by what is endless, and by what is no number.
func TestDivByNone(t *testing.T) {
	byNought, byEndless := stays(0), stays(0)
	for _, p := range finites {
		byNought[p] = part{p&minus + inf, api.DivZero}
		byEndless[p] = part{p & minus, none}
	}
	for _, p := range noughts {
		byNought[p] = part{nan, api.Invalid}
	}
	for _, p := range endless {
		byEndless[p] = part{nan, api.Invalid}
	}
	cases := []realCase{{0, byNought}, {minus, turned(byNought)}, {inf, byEndless}, {minus + inf, turned(byEndless)}}
	playReal(t, "Div", cplx.Div, append(cases, byNoNumbers()...))
}
