package whole_test

import (
	"math/big"
	"slices"
	"testing"

	"tiller/api"
)

// restCase are two patterns above 0, and the patterns of what is left by Rem and by Mod.
type restCase struct {
	what     string
	a, b     uint64
	rem, mod uint64
}

// playRests tries every case by all signs: b's is of no weight, a's is that of both rests.
func playRests(t *testing.T, cases []restCase) {
	t.Helper()
	for _, c := range cases {
		for _, sign := range []uint64{0, minus} {
			for _, b := range bothSigns(c.b) {
				wantRests(t, c.what, c.a^sign, b, answer{c.rem ^ sign, none}, answer{c.mod ^ sign, none})
			}
		}
	}
}

// eachRest asks for one answer of all pairs, by both calls.
func eachRest(t *testing.T, what string, as, bs []uint64, want answer) {
	t.Helper()
	for _, a := range as {
		for _, b := range bs {
			wantRests(t, what, a, b, want, want)
		}
	}
}

// WH1: the chapter's example.
func TestRestExample(t *testing.T) {
	playRests(t, []restCase{{"5 by 3", of(5, 0), three, one + minus, two}})
}

// WH1 and chapter 5's words: what is no number, at either operand and at both; Loud raises Invalid, Quiet nothing, not even by a 0 or of Endless.
func TestRestNoNumber(t *testing.T) {
	numbers := slices.Concat(noughts, endless, finites)
	quiet, loud := answer{nan, none}, answer{nan, api.Invalid}
	eachRest(t, "Quiet by a number", quiets, numbers, quiet)
	eachRest(t, "a number by Quiet", numbers, quiets, quiet)
	eachRest(t, "Quiet by Quiet", quiets, quiets, quiet)
	eachRest(t, "Loud by all", louds, patterns, loud)
	eachRest(t, "all by Loud", patterns, louds, loud)
}

// WH1: a Endless, by numbers, by 0 and by Endless, and b 0, of all signs.
func TestRestInvalid(t *testing.T) {
	invalid := answer{nan, api.Invalid}
	eachRest(t, "Endless by finite", endless, finites, invalid)
	eachRest(t, "Endless by 0", endless, noughts, invalid)
	eachRest(t, "Endless by Endless", endless, endless, invalid)
	eachRest(t, "finite by 0", finites, noughts, invalid)
	eachRest(t, "0 by 0", noughts, noughts, invalid)
}

// WH1: b Endless, of all signs: a stays, tiny ones and noughts without flags, too.
func TestRestByEndless(t *testing.T) {
	for _, a := range slices.Concat(noughts, finites) {
		eachRest(t, "by Endless", []uint64{a}, endless, answer{a, none})
	}
}

// WH1: noughts stay, of both signs.
func TestRestOfNought(t *testing.T) {
	for _, a := range noughts {
		eachRest(t, "0 by finite", []uint64{a}, finites, answer{a, none})
	}
}

// WH1: a less than half of b, just half of it, next to that, and up to b.
func TestRestHalf(t *testing.T) {
	playRests(t, []restCase{
		{"1 by 3", one, three, one, one},
		{"2 by 3", two, three, one + minus, two},
		{"just half", oneHalf, three, oneHalf, oneHalf},
		{"next below half", oneHalf - 1, three, oneHalf - 1, oneHalf - 1},
		{"next above half", oneHalf + 1, three, oneHalf - 1 + minus, oneHalf + 1},
		{"just half, of powers", half, one, half, half},
		{"next below half, of powers", half - 1, one, half - 1, half - 1},
		{"next above half, of powers", half + 1, one, half - 2 + minus, half + 1},
		{"half, and b next above that twice", half, one + 1, half, half},
		{"half, and b next below that twice", half, one - 1, half - 2 + minus, half},
		{"next below b", three - 1, three, power(-51) + minus, three - 1},
		{"next above b", three + 1, three, power(-51), power(-51)},
		{"next below a power", one - 1, one, power(-53) + minus, one - 1},
		{"next above a power", one + 1, one, power(-52), power(-52)},
		{"half of the greatest", last - leastBig, last, last - leastBig, last - leastBig},
		{"next below half of the greatest", last - leastBig - 1, last, last - leastBig - 1, last - leastBig - 1},
		{"next above half of the greatest", last - leastBig + 1, last, of(1<<52-1, 971) + minus, power(1023)},
		{"next below the greatest", last - 1, last, power(971) + minus, last - 1},
	})
}

// WH1: quotients that lie just between two whole numbers, the lower one even and odd, and next to that.
func TestRestBetween(t *testing.T) {
	playRests(t, []restCase{
		{"1.5", of(9, -1), three, oneHalf + minus, oneHalf},
		{"below 1.5", of(9, -1) - 1, three, oneHalf - 4, oneHalf - 4},
		{"above 1.5", of(9, -1) + 1, three, oneHalf - 4 + minus, oneHalf + 4},
		{"2.5", of(15, -1), three, oneHalf, oneHalf},
		{"below 2.5", of(15, -1) - 1, three, oneHalf - 4, oneHalf - 4},
		{"above 2.5", of(15, -1) + 1, three, oneHalf - 4 + minus, oneHalf + 4},
		{"3.5", of(21, -1), three, oneHalf + minus, oneHalf},
		{"4.5", of(27, -1), three, oneHalf, oneHalf},
		{"3 by 2", three, two, one + minus, one},
		{"5 by 2", of(5, 0), two, one, one},
		{"7 by 2", of(7, 0), two, one + minus, one},
		{"2^51 and 0.5", power(1000) + 1, power(949), power(948), power(948)},
		{"2^51 and 1.5", power(1000) + 3, power(949), power(948) + minus, power(948)},
		{"2^52 less 0.5", of(1<<53-1, 0), two, one + minus, one},
		{"2^52 less 1.5", of(1<<53-3, 0), two, one, one},
	})
}

// WH1: multiples of b: the 0 has a's sign.
func TestRestMultiple(t *testing.T) {
	for _, b := range []uint64{1, 3, leastBig - 1, leastBig, half, one, one + 1, three, 0x3fb999999999999a} {
		playRests(t, []restCase{{"by itself", b, b, 0, 0}})
	}
	playRests(t, []restCase{
		{"6 by 3", of(6, 0), three, 0, 0},
		{"9 by 3", of(9, 0), three, 0, 0},
		{"1 by a half", one, half, 0, 0},
		{"3 times 2^900 by 3", of(3, 900), three, 0, 0},
		{"15 times 2^1000 by 5 times 2^-1000", of(15, 1000), of(5, -1000), 0, 0},
		{"2^1023 by 1", power(1023), one, 0, 0},
		{"the greatest by 1", last, one, 0, 0},
		{"the greatest by itself", last, last, 0, 0},
		{"2^53 - 1 by 6361", of(1<<53-1, 0), of(6361, 0), 0, 0},
		{"the greatest by a factor of its size", last, of(69431, -1074+60), 0, 0},
	})
}

// WH1: exponents as far apart as they can be, a's above. Of the least divisors the rests are known by the powers of two that leave 1, or -1.
func TestRestFarAbove(t *testing.T) {
	playRests(t, []restCase{
		{"the greatest by the least", last, 1, 0, 0},
		{"the greatest by two of it", last, 2, 0, 0},
		{"the greatest by three of it", last, 3, 1 + minus, 2},
		{"2^1023 by three of it", power(1023), 3, 1 + minus, 2},
		{"2^1022 by three of it", power(1022), 3, 1, 1},
		{"2^1023 by seven of it", power(1023), 7, 1, 1},
		{"2^1022 by seven of it", power(1022), 7, 3 + minus, 4},
		{"the greatest by the last tiny one", last, leastBig - 1, 1 << 17, 1 << 17},
		{"the greatest by the least plain one", last, leastBig, 0, 0},
		{"the greatest by the next plain one", last, leastBig + 1, 3 << 17, 3 << 17},
		{"2^1023 by the last tiny one", power(1023), leastBig - 1, 1 << 17, 1 << 17},
		{"2^1023 by the next plain one", power(1023), leastBig + 1, 1 << 17, 1 << 17},
		{"2^1022 by all bits of the least plain exponent", power(1022), 2*leastBig - 1, 1 << 29, 1 << 29},
		{"2^1023 by 3", power(1023), three, one + minus, two},
		{"2^1022 by 3", power(1022), three, one, one},
	})
}

// WH1: exponents as far apart as they can be, b's above: a stays. Every distance is tried; only of the first one a can be more than half of b.
func TestRestFarBelow(t *testing.T) {
	for _, a := range []uint64{0, 1, 2, leastBig - 1, leastBig, leastBig + 1, 2*leastBig - 1} {
		for _, b := range []uint64{power(-900), one, power(1023), last - 1, last} {
			playRests(t, []restCase{{"far below", a, b, a, a}})
		}
	}
	for n := 1; n <= 2045; n++ {
		a := uint64(2*leastBig - 1)
		b := uint64(n+1)<<52 + 1
		if n == 1 {
			playRests(t, []restCase{{"next to it", a, b, 3 + minus, a}})
		} else {
			playRests(t, []restCase{{"below", a, b, a, a}})
		}
	}
}

// WH1: tiny patterns on both sides, and on one.
func TestRestTiny(t *testing.T) {
	playRests(t, []restCase{
		{"1 by 2", 1, 2, 1, 1},
		{"3 by 2", 3, 2, 1 + minus, 1},
		{"5 by 2", 5, 2, 1, 1},
		{"1 by 3", 1, 3, 1, 1},
		{"2 by 3", 2, 3, 1 + minus, 2},
		{"5 by 3", 5, 3, 1 + minus, 2},
		{"10 by 4", 10, 4, 2, 2},
		{"14 by 4", 14, 4, 2 + minus, 2},
		{"all by 1", leastBig - 1, 1, 0, 0},
		{"all by 2", leastBig - 1, 2, 1 + minus, 1},
		{"all but one by all", leastBig - 2, leastBig - 1, 1 + minus, leastBig - 2},
		{"a half of all by all", leastBig/2 - 1, leastBig - 1, leastBig/2 - 1, leastBig/2 - 1},
		{"more than a half of all by all", leastBig / 2, leastBig - 1, leastBig/2 - 1 + minus, leastBig / 2},
		{"the least plain one by all", leastBig, leastBig - 1, 1, 1},
		{"all by the least plain one", leastBig - 1, leastBig, 1 + minus, leastBig - 1},
		{"a half of the least plain one by it", leastBig / 2, leastBig, leastBig / 2, leastBig / 2},
		{"1.5 times the least plain one by it", leastBig + leastBig/2, leastBig, leastBig/2 + minus, leastBig / 2},
		{"plain ones, a tiny rest", 2*leastBig + 1, 2*leastBig - 1, 3, 3},
		{"1 by a tiny one", one, 5, 1 + minus, 4},
	})
}

// checkRests tells whether both rests are those of the chapter, word for word.
func checkRests(t *testing.T, a, b uint64) {
	t.Helper()
	if want, z := left(a, b, api.Even), rem(a, b); z.f != none || !isNumber(z.p, want, a) {
		t.Fatalf("Rem(%#x, %#x): %#x, %d; want %v times 2^-1074", a, b, z.p, z.f, want)
	}
	if want, z := left(a, b, api.Zero), mod(a, b); z.f != none || !isNumber(z.p, want, a) {
		t.Fatalf("Mod(%#x, %#x): %#x, %d; want %v times 2^-1074", a, b, z.p, z.f, want)
	}
}

// WH1, all of it of finite patterns, word for word.
func TestRestAll(t *testing.T) {
	m := mixer{3}
	for range 100_000 {
		if a, b := m.parted(); b&^minus != 0 {
			checkRests(t, a, b)
		}
	}
}

// WH1, word for word: every distance of the exponents, both ways.
func TestRestEachDistance(t *testing.T) {
	m := mixer{5}
	for d := range 2047 {
		for range 3 {
			e := m.Below(2047 - d)
			a, b := m.near(e+d, 0), m.near(e, 0)
			if b&^minus != 0 {
				checkRests(t, a, b)
			}
			if a&^minus != 0 {
				checkRests(t, b, a)
			}
		}
	}
}

// WH1, word for word: all small numbers, tiny and plain, of all signs.
func TestRestSmall(t *testing.T) {
	for a := range uint64(40) {
		for b := uint64(1); b < 40; b++ {
			for _, x := range bothSigns(a) {
				for _, y := range bothSigns(b) {
					checkRests(t, x, y)
				}
			}
			if a > 0 {
				checkRests(t, of(a, -2), of(b, -2))
				checkRests(t, of(a, 3)+minus, of(b, -1))
				checkRests(t, of(a, 500), of(b, -500)+minus)
			}
		}
	}
}

// WH3: the size of Rem is at most half of b's, that of Mod less than b's; both lie a whole count of b away from a.
func TestRestLaw(t *testing.T) {
	m := mixer{7}
	reached := 0
	for range 50_000 {
		a, b := m.parted()
		if b&^minus == 0 {
			continue
		}
		size := units(b &^ minus)
		r, s := rem(a, b).p, mod(a, b).p
		if !isFinite(r) || !isFinite(s) {
			t.Fatalf("%#x by %#x: %#x, %#x", a, b, r, s)
		}
		twice := units(r &^ minus)
		order := twice.Lsh(twice, 1).Cmp(size)
		if order > 0 {
			t.Fatalf("Rem(%#x, %#x): %#x is more than half of b", a, b, r)
		}
		if order == 0 {
			reached++
		}
		if units(s&^minus).Cmp(size) >= 0 || s&minus != a&minus {
			t.Fatalf("Mod(%#x, %#x): %#x is as great as b, or has the other sign", a, b, s)
		}
		for _, p := range []uint64{r, s} {
			away := units(a)
			if away.Sub(away, units(p)); away.Rem(away, size).Cmp(new(big.Int)) != 0 {
				t.Fatalf("%#x by %#x: %#x is no whole count of b away", a, b, p)
			}
		}
	}
	if reached < 500 {
		t.Errorf("only %d rests are just half of b", reached)
	}
}
