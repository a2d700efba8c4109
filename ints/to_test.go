package ints_test

import (
	"math/big"
	"testing"

	"tiller/aid"
	"tiller/api"
)

// toCase is a pattern, and what it becomes by Even, Away, Zero, Up and Down.
type toCase struct {
	what string
	p    uint64
	want [5]answer
}

func (r road) play(t *testing.T, cases []toCase) {
	t.Helper()
	for _, c := range cases {
		r.wantAll(t, c.what, c.p, c.want)
	}
}

// by are the answers of a number that is not whole, by Even, Away, Zero, Up and Down.
func by(even, away, zero, up, down string) [5]answer {
	return [5]answer{{even, off}, {away, off}, {zero, off}, {up, off}, {down, off}}
}

// except is the same answers, but Invalid alone, and a bound, by the modes that are told.
func except(want [5]answer, bound string, modes ...api.Mode) [5]answer {
	for _, m := range modes {
		want[m] = answer{bound, out}
	}
	return want
}

// IN2: the chapter's examples.
func TestToExamples(t *testing.T) {
	toPlainHalf.wantAll(t, "-1", one+minus, always("0", out))
	toWhole.want(t, "2.5", of(5, -1), api.Up, answer{"3", off})
}

// IN2: what is no number is 0, with Invalid alone, by every mode, told or not.
func TestToNoNumber(t *testing.T) {
	for _, r := range roads {
		for _, p := range quiets {
			r.wantAll(t, "Quiet", p, always("0", out))
		}
		for _, p := range louds {
			r.wantAll(t, "Loud", p, always("0", out))
		}
	}
}

// IN2: noughts of both signs.
func TestToNought(t *testing.T) {
	for _, r := range roads {
		r.wantAll(t, "+0", 0, always("0", none))
		r.wantAll(t, "-0", minus, always("0", none))
	}
}

// IN2: Endless of both signs.
func TestToEndless(t *testing.T) {
	for _, r := range roads {
		r.wantAll(t, "Endless", inf, always(r.most, out))
		r.wantAll(t, "-Endless", inf+minus, always(r.least, out))
	}
}

// IN2: finite sizes that are too great for all types, far and near.
func TestToTooGreat(t *testing.T) {
	sizes := []uint64{last, last - 1, power(1023), power(1000) + 1, power(500), power(65) - 1, power(64) + 1, power(64)}
	for n := 64; n < 1024; n++ {
		sizes = append(sizes, power(n), power(n)+1, of(1<<53-1, n-52))
	}
	for _, r := range roads {
		for _, p := range sizes {
			r.wantAll(t, "too great", p, always(r.most, out))
			r.wantAll(t, "too little", p+minus, always(r.least, out))
		}
	}
}

// IN2: sizes of what is a half, and of a little less and more, and of other fractions below 2.
func TestToHalves(t *testing.T) {
	for _, r := range roads {
		r.play(t, []toCase{
			{"the least", 1, by("0", "0", "0", "1", "0")},
			{"the last tiny one", leastBig - 1, by("0", "0", "0", "1", "0")},
			{"the least plain one", leastBig, by("0", "0", "0", "1", "0")},
			{"a quarter", power(-2), by("0", "0", "0", "1", "0")},
			{"below a half", half - 1, by("0", "0", "0", "1", "0")},
			{"a half", half, by("0", "1", "0", "1", "0")},
			{"above a half", half + 1, by("1", "1", "0", "1", "0")},
			{"below 1", one - 1, by("1", "1", "0", "1", "0")},
			{"1", one, always("1", none)},
			{"above 1", one + 1, by("1", "1", "1", "2", "1")},
			{"below 1.5", oneHalf - 1, by("1", "1", "1", "2", "1")},
			{"1.5", oneHalf, by("2", "2", "1", "2", "1")},
			{"above 1.5", oneHalf + 1, by("2", "2", "1", "2", "1")},
			{"2.5", of(5, -1), by("2", "3", "2", "3", "2")},
			{"3.5", of(7, -1), by("4", "4", "3", "4", "3")},
		})
	}
}

// IN2: the same below 0, of types that have such numbers.
func TestToHalvesBelowZero(t *testing.T) {
	for _, r := range signed {
		r.play(t, []toCase{
			{"the least size", 1 + minus, by("0", "0", "0", "0", "-1")},
			{"the last tiny one", leastBig - 1 + minus, by("0", "0", "0", "0", "-1")},
			{"the least plain one", leastBig + minus, by("0", "0", "0", "0", "-1")},
			{"a quarter", power(-2) + minus, by("0", "0", "0", "0", "-1")},
			{"less than a half", half - 1 + minus, by("0", "0", "0", "0", "-1")},
			{"a half", half + minus, by("0", "-1", "0", "0", "-1")},
			{"more than a half", half + 1 + minus, by("-1", "-1", "0", "0", "-1")},
			{"less than 1", one - 1 + minus, by("-1", "-1", "0", "0", "-1")},
			{"-1", one + minus, always("-1", none)},
			{"more than 1", one + 1 + minus, by("-1", "-1", "-1", "-1", "-2")},
			{"less than 1.5", oneHalf - 1 + minus, by("-1", "-1", "-1", "-1", "-2")},
			{"-1.5", oneHalf + minus, by("-2", "-2", "-1", "-1", "-2")},
			{"more than 1.5", oneHalf + 1 + minus, by("-2", "-2", "-1", "-1", "-2")},
			{"-2.5", of(5, -1) + minus, by("-2", "-3", "-2", "-2", "-3")},
			{"-3.5", of(7, -1) + minus, by("-4", "-4", "-3", "-3", "-4")},
		})
	}
}

// IN2: numbers below 0 that a type without sign has not, and those that are rounded to 0 there.
func TestToPlainBelowZero(t *testing.T) {
	nought := by("0", "0", "0", "0", "0")
	for _, r := range plains {
		r.play(t, []toCase{
			{"the least size", 1 + minus, except(nought, "0", api.Down)},
			{"the last tiny one", leastBig - 1 + minus, except(nought, "0", api.Down)},
			{"the least plain one", leastBig + minus, except(nought, "0", api.Down)},
			{"a quarter", power(-2) + minus, except(nought, "0", api.Down)},
			{"less than a half", half - 1 + minus, except(nought, "0", api.Down)},
			{"a half", half + minus, except(nought, "0", api.Away, api.Down)},
			{"more than a half", half + 1 + minus, except(nought, "0", api.Even, api.Away, api.Down)},
			{"less than 1", one - 1 + minus, except(nought, "0", api.Even, api.Away, api.Down)},
		})
		for _, p := range []uint64{one, one + 1, oneHalf, two, of(10, 0), power(31), power(32) - 1, power(32), power(52) - 1, power(63), power(64) - 1, last} {
			r.wantAll(t, "below 0", p+minus, always("0", out))
		}
	}
}

// IN2: To at the ends of its type; there are no fractions there.
func TestToEnds(t *testing.T) {
	toWhole.play(t, []toCase{
		{"2^63 less 2048", power(63) - 2, always("9223372036854773760", none)},
		{"2^63 less 1024", power(63) - 1, always("9223372036854774784", none)},
		{"2^63", power(63), always("9223372036854775807", out)},
		{"above 2^63", power(63) + 1, always("9223372036854775807", out)},
		{"2^64 less 2048", power(64) - 1, always("9223372036854775807", out)},
		{"-2^63 and 1024", power(63) - 1 + minus, always("-9223372036854774784", none)},
		{"-2^63", power(63) + minus, always("-9223372036854775808", none)},
		{"below -2^63", power(63) + 1 + minus, always("-9223372036854775808", out)},
		{"-2^64", power(64) + minus, always("-9223372036854775808", out)},
	})
}

// IN2: ToPlain at the upper end of its type, and where a sign would be.
func TestToPlainEnds(t *testing.T) {
	toPlain.play(t, []toCase{
		{"2^63 less 1024", power(63) - 1, always("9223372036854774784", none)},
		{"2^63", power(63), always("9223372036854775808", none)},
		{"above 2^63", power(63) + 1, always("9223372036854777856", none)},
		{"2^64 less 4096", power(64) - 2, always("18446744073709547520", none)},
		{"2^64 less 2048", power(64) - 1, always("18446744073709549568", none)},
		{"2^64", power(64), always("18446744073709551615", out)},
		{"above 2^64", power(64) + 1, always("18446744073709551615", out)},
		{"2^65", power(65), always("18446744073709551615", out)},
	})
}

// IN2: ToHalf at the upper end of its type, with the fractions that are rounded to it or beyond it.
func TestToHalfUpperEnd(t *testing.T) {
	const most = "2147483647"
	end := uint64(1<<31 - 1)
	low := by(most, most, most, most, most)
	toHalf.play(t, []toCase{
		{"below the end but one", of(end-1, 0) - 1, by("2147483646", "2147483646", "2147483645", "2147483646", "2147483645")},
		{"the end but one", of(end-1, 0), always("2147483646", none)},
		{"a half below the end", of(2*end-1, -1), by("2147483646", most, "2147483646", most, "2147483646")},
		{"below the end", of(end, 0) - 1, by(most, most, "2147483646", most, "2147483646")},
		{"the end", of(end, 0), always(most, none)},
		{"above the end", of(end, 0) + 1, except(low, most, api.Up)},
		{"a quarter above", of(4*end+1, -2), except(low, most, api.Up)},
		{"less than a half above", of(2*end+1, -1) - 1, except(low, most, api.Up)},
		{"a half above", of(2*end+1, -1), except(low, most, api.Even, api.Away, api.Up)},
		{"more than a half above", of(2*end+1, -1) + 1, except(low, most, api.Even, api.Away, api.Up)},
		{"below 2^31", power(31) - 1, except(low, most, api.Even, api.Away, api.Up)},
		{"2^31", power(31), always(most, out)},
		{"above 2^31", power(31) + 1, always(most, out)},
		{"2^32 less 1", of(1<<32-1, 0), always(most, out)},
		{"2^32", power(32), always(most, out)},
		{"2^32 and 1", of(1<<32+1, 0), always(most, out)},
		{"2^63", power(63), always(most, out)},
	})
}

// IN2: ToHalf at the lower end of its type.
func TestToHalfLowerEnd(t *testing.T) {
	const least = "-2147483648"
	end := uint64(1 << 31)
	low := by(least, least, least, least, least)
	toHalf.play(t, []toCase{
		{"the end but one", of(end-1, 0) + minus, always("-2147483647", none)},
		{"less than a half before the end", of(2*end-1, -1) + 1 + minus, by(least, least, "-2147483647", "-2147483647", least)},
		{"a half before the end", of(2*end-1, -1) + minus, by(least, least, "-2147483647", "-2147483647", least)},
		{"more than a half before the end", of(2*end-1, -1) - 1 + minus, by("-2147483647", "-2147483647", "-2147483647", "-2147483647", least)},
		{"just before the end", power(31) - 1 + minus, by(least, least, "-2147483647", "-2147483647", least)},
		{"the end", power(31) + minus, always(least, none)},
		{"just below the end", power(31) + 1 + minus, except(low, least, api.Down)},
		{"a quarter below", of(4*end+1, -2) + minus, except(low, least, api.Down)},
		{"less than a half below", of(2*end+1, -1) - 1 + minus, except(low, least, api.Down)},
		{"a half below", of(2*end+1, -1) + minus, except(low, least, api.Away, api.Down)},
		{"more than a half below", of(2*end+1, -1) + 1 + minus, except(low, least, api.Even, api.Away, api.Down)},
		{"before 1 below", of(end+1, 0) - 1 + minus, except(low, least, api.Even, api.Away, api.Down)},
		{"1 below", of(end+1, 0) + minus, always(least, out)},
		{"-2^32", power(32) + minus, always(least, out)},
		{"-2^32 less 1", of(1<<32+1, 0) + minus, always(least, out)},
		{"-2^63", power(63) + minus, always(least, out)},
	})
}

// IN2: ToPlainHalf at the upper end of its type, and where a sign would be.
func TestToPlainHalfEnds(t *testing.T) {
	const most = "4294967295"
	end := uint64(1<<32 - 1)
	low := by(most, most, most, most, most)
	toPlainHalf.play(t, []toCase{
		{"2^31 less 1", of(1<<31-1, 0), always("2147483647", none)},
		{"2^31", power(31), always("2147483648", none)},
		{"2^31 and a half", of(1<<32+1, -1), by("2147483648", "2147483649", "2147483648", "2147483649", "2147483648")},
		{"the end but one", of(end-1, 0), always("4294967294", none)},
		{"a half below the end", of(2*end-1, -1), by("4294967294", most, "4294967294", most, "4294967294")},
		{"below the end", of(end, 0) - 1, by(most, most, "4294967294", most, "4294967294")},
		{"the end", of(end, 0), always(most, none)},
		{"above the end", of(end, 0) + 1, except(low, most, api.Up)},
		{"a quarter above", of(4*end+1, -2), except(low, most, api.Up)},
		{"less than a half above", of(2*end+1, -1) - 1, except(low, most, api.Up)},
		{"a half above", of(2*end+1, -1), except(low, most, api.Even, api.Away, api.Up)},
		{"more than a half above", of(2*end+1, -1) + 1, except(low, most, api.Even, api.Away, api.Up)},
		{"below 2^32", power(32) - 1, except(low, most, api.Even, api.Away, api.Up)},
		{"2^32", power(32), always(most, out)},
		{"above 2^32", power(32) + 1, always(most, out)},
		{"2^32 and 1", of(1<<32+1, 0), always(most, out)},
		{"2^63", power(63), always(most, out)},
	})
}

// IN2: the types of 64 bits have the numbers at the ends of those of 32, and what lies next to them.
func TestToLongAtShortEnds(t *testing.T) {
	for _, r := range []road{toWhole, toPlain} {
		r.play(t, []toCase{
			{"2^31 less a half", of(1<<32-1, -1), by("2147483648", "2147483648", "2147483647", "2147483648", "2147483647")},
			{"2^31", power(31), always("2147483648", none)},
			{"2^32 less a half", of(1<<33-1, -1), by("4294967296", "4294967296", "4294967295", "4294967296", "4294967295")},
			{"2^32", power(32), always("4294967296", none)},
			{"2^52 less a half", power(52) - 1, by("4503599627370496", "4503599627370496", "4503599627370495", "4503599627370496", "4503599627370495")},
			{"2^53 and 2", power(53) + 1, always("9007199254740994", none)},
		})
	}
	toWhole.play(t, []toCase{
		{"-2^31 less a half", of(1<<32+1, -1) + minus, by("-2147483648", "-2147483649", "-2147483648", "-2147483648", "-2147483649")},
		{"-2^32", power(32) + minus, always("-4294967296", none)},
		{"-2^52 and a half", power(52) - 1 + minus, by("-4503599627370496", "-4503599627370496", "-4503599627370495", "-4503599627370495", "-4503599627370496")},
	})
}

// IN2, all of it of finite patterns, word for word.
func TestToAll(t *testing.T) {
	m := mixer{7}
	unit := scaled(big.NewInt(1))
	for range 40_000 {
		p := m.finite()
		v := units(p)
		for _, mode := range append(aid.Modes(), m.Mode()) {
			number, flags := multiple(v, unit, mode), none
			if scaled(number).Cmp(v) != 0 {
				flags = off
			}
			for _, r := range roads {
				r.want(t, "all", p, mode, r.fit(number, flags))
			}
		}
		if t.Failed() {
			return
		}
	}
}
