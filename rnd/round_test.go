package rnd_test

import (
	"math"
	"testing"

	"tiller/aid"
	"tiller/api"
	"tiller/rnd"
	"tiller/wide"
)

const (
	none  = api.Flags(0)
	off   = api.Inexact
	tiny  = api.Underflow | api.Inexact
	great = api.Overflow | api.Inexact

	one      = 0x3ff0000000000000
	two      = 0x4000000000000000
	leastBig = 0x0010000000000000 // the least plain pattern
	last     = 0x7fefffffffffffff // the greatest finite one
	inf      = 0x7ff0000000000000
)

// answer is what Round answers by one mode.
type answer struct {
	p uint64
	f api.Flags
}

// roundCase is a number that is not below 0, and its answers by Even, Away, Zero, Up and Down.
type roundCase struct {
	what string
	x    rnd.Num
	want [5]answer
}

// same is one answer by every mode.
func same(p uint64, f api.Flags) [5]answer {
	return [5]answer{{p, f}, {p, f}, {p, f}, {p, f}, {p, f}}
}

// between is what is rounded to low, or to high, with the same flags: by Even and Away to those that are told.
func between(even, away, low, high uint64, f api.Flags) [5]answer {
	return [5]answer{{even, f}, {away, f}, {low, f}, {high, f}, {low, f}}
}

// play tries every case by every mode, and below 0, where Up and Down change places; a mode that is none is as Even.
func play(t *testing.T, cases []roundCase) {
	t.Helper()
	for _, c := range cases {
		mirror := c.want
		mirror[api.Up], mirror[api.Down] = mirror[api.Down], mirror[api.Up]
		for m := range c.want {
			wantRound(t, c.what, c.x, api.Mode(m), c.want[m])
			x := c.x
			x.Minus = true
			wantRound(t, c.what, x, api.Mode(m), answer{mirror[m].p + minus, mirror[m].f})
		}
		for _, m := range aid.NoModes() {
			wantRound(t, c.what, c.x, m, c.want[api.Even])
		}
	}
}

func wantRound(t *testing.T, what string, x rnd.Num, m api.Mode, want answer) {
	t.Helper()
	if p, f := rnd.Round(x, m); p != want.p || f != want.f {
		t.Errorf("%s: Round(%+v, %d): %#x, %d; want %#x, %d", what, x, m, p, f, want.p, want.f)
	}
}

// RN1: the size 0 keeps its sign, whatever Exp is.
func TestRoundZero(t *testing.T) {
	for _, exp := range []int{math.MinInt, math.MinInt + 1, -2001, -1075, -1074, -1, 0, 1, 971, 1024, 2001, math.MaxInt - 1, math.MaxInt} {
		play(t, []roundCase{{"0", rnd.Num{Exp: exp}, same(0, none)}})
	}
}

// RN1: the chapter's example.
func TestRoundExample(t *testing.T) {
	x := rnd.Num{Exp: -1075, Sig: wide.Of(1)}
	wantRound(t, "the example", x, api.Even, answer{0, api.Underflow | api.Inexact})
	wantRound(t, "the example", x, api.Up, answer{1, api.Underflow | api.Inexact})
}

// RN1: among plain patterns: halves with an even and an odd multiple below them, and what is next to them.
func TestRoundHalves(t *testing.T) {
	play(t, []roundCase{
		{"1", rnd.Num{Sig: wide.Of(1)}, same(one, none)},
		{"1, a half alone", rnd.Num{Exp: 1, More: true}, same(one, none)},
		{"1, from 53 bits", rnd.Num{Exp: -52, Sig: wide.Of(1 << 52)}, same(one, none)},
		{"1, from 256 bits", rnd.Num{Exp: -255, Sig: power(255)}, same(one, none)},
		{"1.5, by More", rnd.Num{Sig: wide.Of(1), More: true}, same(0x3ff8000000000000, none)},
		{"the next to 1, by More", rnd.Num{Exp: -51, Sig: wide.Of(1 << 51), More: true}, same(one+1, none)},
		{"halfway, even below", rnd.Num{Exp: -53, Sig: wide.Of(1<<53 + 1)}, between(one, one+1, one, one+1, off)},
		{"halfway, even below, by More", rnd.Num{Exp: -52, Sig: wide.Of(1 << 52), More: true}, between(one, one+1, one, one+1, off)},
		{"halfway, even below, of 256 bits", rnd.Num{Exp: -255, Sig: wide.W{0, 0, 0, 1<<63 + 1<<10}}, between(one, one+1, one, one+1, off)},
		{"halfway, odd below", rnd.Num{Exp: -53, Sig: wide.Of(1<<53 + 3)}, between(one+2, one+2, one+1, one+2, off)},
		{"halfway, odd below, by More", rnd.Num{Exp: -52, Sig: wide.Of(1<<52 + 1), More: true}, between(one+2, one+2, one+1, one+2, off)},
		{"halfway, odd below, of 256 bits", rnd.Num{Exp: -255, Sig: wide.W{0, 0, 0, 1<<63 + 3<<10}}, between(one+2, one+2, one+1, one+2, off)},
		{"a quarter, by More", rnd.Num{Exp: -53, Sig: wide.Of(1 << 53), More: true}, between(one, one, one, one+1, off)},
		{"a quarter", rnd.Num{Exp: -54, Sig: wide.Of(1<<54 + 1)}, between(one, one, one, one+1, off)},
		{"three quarters, by More", rnd.Num{Exp: -53, Sig: wide.Of(1<<53 + 1), More: true}, between(one+1, one+1, one, one+1, off)},
		{"three quarters", rnd.Num{Exp: -54, Sig: wide.Of(1<<54 + 3)}, between(one+1, one+1, one, one+1, off)},
		{"the least bit of 256", rnd.Num{Exp: -255, Sig: wide.W{1, 0, 0, 1 << 63}}, between(one, one, one, one+1, off)},
		{"the half below it", rnd.Num{Exp: -255, Sig: power(255), More: true}, between(one, one, one, one+1, off)},
		{"halfway, and the least bit", rnd.Num{Exp: -255, Sig: wide.W{1, 0, 0, 1<<63 + 1<<10}}, between(one+1, one+1, one, one+1, off)},
		{"halfway, and the half below it", rnd.Num{Exp: -255, Sig: wide.W{0, 0, 0, 1<<63 + 1<<10}, More: true}, between(one+1, one+1, one, one+1, off)},
		{"halfway but the least bit", rnd.Num{Exp: -255, Sig: wide.W{full, full, full, 1<<63 + 1<<10 - 1}}, between(one, one, one, one+1, off)},
		{"halfway but the half below it", rnd.Num{Exp: -255, Sig: wide.W{full, full, full, 1<<63 + 1<<10 - 1}, More: true}, between(one, one, one, one+1, off)},
		{"halfway to the next power", rnd.Num{Exp: -53, Sig: wide.Of(1<<54 - 1)}, between(two, two, two-1, two, off)},
		{"nearly the next power", rnd.Num{Exp: -255, Sig: most}, between(two, two, two-1, two, off)},
		{"more nearly the next power", rnd.Num{Exp: -255, Sig: most, More: true}, between(two, two, two-1, two, off)},
		{"0.1 of 60 bits", rnd.Num{Exp: -63, Sig: wide.Of(0x0ccccccccccccccd)}, between(0x3fb999999999999a, 0x3fb999999999999a, 0x3fb9999999999999, 0x3fb999999999999a, off)},
	})
}

// RN1: below the least pattern, and among tiny ones.
func TestRoundTiny(t *testing.T) {
	play(t, []roundCase{
		{"the least", rnd.Num{Exp: -1074, Sig: wide.Of(1)}, same(1, none)},
		{"the least, a half alone", rnd.Num{Exp: -1073, More: true}, same(1, none)},
		{"the least, of 256 bits", rnd.Num{Exp: -1074 - 255, Sig: power(255)}, same(1, none)},
		{"half of it", rnd.Num{Exp: -1075, Sig: wide.Of(1)}, between(0, 1, 0, 1, tiny)},
		{"half of it, a half alone", rnd.Num{Exp: -1074, More: true}, between(0, 1, 0, 1, tiny)},
		{"half of it, of 256 bits", rnd.Num{Exp: -1075 - 255, Sig: power(255)}, between(0, 1, 0, 1, tiny)},
		{"half of it, and a bit", rnd.Num{Exp: -1075 - 255, Sig: power(255), More: true}, between(1, 1, 0, 1, tiny)},
		{"half of it but a bit", rnd.Num{Exp: -1075 - 256, Sig: most, More: true}, between(0, 0, 0, 1, tiny)},
		{"a quarter", rnd.Num{Exp: -1076, Sig: wide.Of(1)}, between(0, 0, 0, 1, tiny)},
		{"a quarter, a half alone", rnd.Num{Exp: -1075, More: true}, between(0, 0, 0, 1, tiny)},
		{"three quarters", rnd.Num{Exp: -1076, Sig: wide.Of(3)}, between(1, 1, 0, 1, tiny)},
		{"three quarters, by More", rnd.Num{Exp: -1075, Sig: wide.Of(1), More: true}, between(1, 1, 0, 1, tiny)},
		{"one but a bit", rnd.Num{Exp: -1074 - 256, Sig: most}, between(1, 1, 0, 1, tiny)},
		{"one and a half", rnd.Num{Exp: -1075, Sig: wide.Of(3)}, between(2, 2, 1, 2, tiny)},
		{"one and a half, by More", rnd.Num{Exp: -1074, Sig: wide.Of(1), More: true}, between(2, 2, 1, 2, tiny)},
		{"two and a half", rnd.Num{Exp: -1075, Sig: wide.Of(5)}, between(2, 3, 2, 3, tiny)},
		{"the greatest", rnd.Num{Exp: -1074, Sig: wide.Of(1<<52 - 1)}, same(leastBig-1, none)},
		{"the greatest, by More", rnd.Num{Exp: -1073, Sig: wide.Of(1<<51 - 1), More: true}, same(leastBig-1, none)},
		{"below the greatest", rnd.Num{Exp: -1075, Sig: wide.Of(1<<53 - 3)}, between(leastBig-2, leastBig-1, leastBig-2, leastBig-1, tiny)},
	})
}

// RN1: next to the least plain pattern: what is rounded up to it is tiny only if it is below it with 53 bits of its own, too.
func TestRoundToLeastPlain(t *testing.T) {
	const low, high = leastBig - 1, leastBig
	upAlone := [5]answer{{high, tiny}, {high, tiny}, {low, tiny}, {high, off}, {low, tiny}}
	nearAndUp := [5]answer{{high, off}, {high, off}, {low, tiny}, {high, off}, {low, tiny}}
	play(t, []roundCase{
		{"it", rnd.Num{Exp: -1022, Sig: wide.Of(1)}, same(high, none)},
		{"it, of 256 bits", rnd.Num{Exp: -1022 - 255, Sig: power(255)}, same(high, none)},
		{"a half below", rnd.Num{Exp: -1075, Sig: wide.Of(1<<53 - 1)}, between(high, high, low, high, tiny)},
		{"a half below, by More", rnd.Num{Exp: -1074, Sig: wide.Of(1<<52 - 1), More: true}, between(high, high, low, high, tiny)},
		{"more than a half below", rnd.Num{Exp: -1076, Sig: wide.Of(1<<54 - 3)}, between(low, low, low, high, tiny)},
		{"less than a half below", rnd.Num{Exp: -1077, Sig: wide.Of(1<<55 - 3)}, upAlone},
		{"hardly less than a half below", rnd.Num{Exp: -1022 - 256, Sig: wide.W{1, 0, 0, (1<<53 - 1) << 11}}, upAlone},
		{"a bit more than a quarter below", rnd.Num{Exp: -1022 - 256, Sig: wide.W{full, full, full, (1<<54-1)<<10 - 1}}, upAlone},
		{"half a bit more than a quarter below", rnd.Num{Exp: -1022 - 256, Sig: wide.W{full, full, full, (1<<54-1)<<10 - 1}, More: true}, upAlone},
		{"a quarter below", rnd.Num{Exp: -1076, Sig: wide.Of(1<<54 - 1)}, nearAndUp},
		{"a quarter below, by More", rnd.Num{Exp: -1075, Sig: wide.Of(1<<53 - 1), More: true}, nearAndUp},
		{"a quarter below, of 256 bits", rnd.Num{Exp: -1022 - 256, Sig: wide.W{0, 0, 0, (1<<54 - 1) << 10}}, nearAndUp},
		{"an eighth below", rnd.Num{Exp: -1077, Sig: wide.Of(1<<55 - 1)}, nearAndUp},
		{"a bit below", rnd.Num{Exp: -1022 - 256, Sig: most}, nearAndUp},
		{"half a bit below", rnd.Num{Exp: -1022 - 256, Sig: most, More: true}, nearAndUp},
		{"half a bit above", rnd.Num{Exp: -1022 - 255, Sig: power(255), More: true}, between(high, high, high, high+1, off)},
		{"a half above", rnd.Num{Exp: -1075, Sig: wide.Of(1<<53 + 1)}, between(high, high+1, high, high+1, off)},
		{"a half above the next", rnd.Num{Exp: -1075, Sig: wide.Of(1<<53 + 3)}, between(high+2, high+2, high+1, high+2, off)},
		{"half of it", rnd.Num{Exp: -1023, Sig: wide.Of(1)}, same(high/2, none)},
		{"half of it but a bit", rnd.Num{Exp: -1023 - 256, Sig: most}, between(high/2, high/2, high/2-1, high/2, tiny)},
	})
}

// RN1: what is rounded up to 2^1024, and what is greater.
func TestRoundGreat(t *testing.T) {
	beyond := between(inf, inf, last, inf, great)
	rounded := [5]answer{{inf, great}, {inf, great}, {last, off}, {inf, great}, {last, off}}
	upAlone := [5]answer{{last, off}, {last, off}, {last, off}, {inf, great}, {last, off}}
	play(t, []roundCase{
		{"the greatest", rnd.Num{Exp: 971, Sig: wide.Of(1<<53 - 1)}, same(last, none)},
		{"the greatest, by More", rnd.Num{Exp: 972, Sig: wide.Of(1<<52 - 1), More: true}, same(last, none)},
		{"the greatest, of 256 bits", rnd.Num{Exp: 768, Sig: wide.W{0, 0, 0, (1<<53 - 1) << 11}}, same(last, none)},
		{"2^1023, a half alone", rnd.Num{Exp: 1024, More: true}, same(0x7fe0000000000000, none)},
		{"2^1023, of 256 bits", rnd.Num{Exp: 768, Sig: power(255)}, same(0x7fe0000000000000, none)},
		{"2^1023 but a bit", rnd.Num{Exp: 767, Sig: most}, between(0x7fe0000000000000, 0x7fe0000000000000, 0x7fdfffffffffffff, 0x7fe0000000000000, off)},
		{"a bit above the greatest", rnd.Num{Exp: 768, Sig: wide.W{1, 0, 0, (1<<53 - 1) << 11}}, upAlone},
		{"half a bit above the greatest", rnd.Num{Exp: 768, Sig: wide.W{0, 0, 0, (1<<53 - 1) << 11}, More: true}, upAlone},
		{"hardly less than halfway", rnd.Num{Exp: 768, Sig: wide.W{full, full, full, (1<<54-1)<<10 - 1}, More: true}, upAlone},
		{"halfway", rnd.Num{Exp: 970, Sig: wide.Of(1<<54 - 1)}, rounded},
		{"halfway, by More", rnd.Num{Exp: 971, Sig: wide.Of(1<<53 - 1), More: true}, rounded},
		{"halfway, of 256 bits", rnd.Num{Exp: 768, Sig: wide.W{0, 0, 0, (1<<54 - 1) << 10}}, rounded},
		{"hardly below 2^1024", rnd.Num{Exp: 768, Sig: most, More: true}, rounded},
		{"2^1024", rnd.Num{Exp: 1024, Sig: wide.Of(1)}, beyond},
		{"2^1024, a half alone", rnd.Num{Exp: 1025, More: true}, beyond},
		{"2^1024, of 256 bits", rnd.Num{Exp: 769, Sig: power(255)}, beyond},
		{"above 2^1024", rnd.Num{Exp: 1023, Sig: wide.Of(2), More: true}, beyond},
		{"nearly 2^1025", rnd.Num{Exp: 769, Sig: most, More: true}, beyond},
		{"2^1025", rnd.Num{Exp: 1025, Sig: wide.Of(1)}, beyond},
	})
}

// RN1: Exp far below and far above what a pattern has, of one bit, of 256, and of a half alone.
func TestRoundFar(t *testing.T) {
	numbers := []rnd.Num{{Sig: wide.Of(1)}, {Sig: wide.Of(1), More: true}, {More: true}, {Sig: power(255)}, {Sig: most}, {Sig: most, More: true}, {Sig: wide.W{0, 1, 2, 3}}}
	for _, n := range []int{1400, 1999, 2000, 2001, 2255, 2256, 2257, 4096, 100_000, 1<<31 - 1, 1 << 31, 1 << 32, 1<<32 + 1024, math.MaxInt - 2000, math.MaxInt - 256, math.MaxInt - 1, math.MaxInt} {
		for _, x := range numbers {
			x.Exp = n
			play(t, []roundCase{{"far above", x, between(inf, inf, last, inf, great)}})
			x.Exp = -n
			play(t, []roundCase{{"far below", x, between(0, 0, 0, 1, tiny)}})
			x.Exp = -n - 1
			play(t, []roundCase{{"far below", x, between(0, 0, 0, 1, tiny)}})
		}
	}
}

// RN1: a power of two, however it is told, is its pattern, or below and above the patterns.
func TestRoundPowers(t *testing.T) {
	for n := -1080; n <= 1030; n++ {
		want := same(0, none)
		switch {
		case n < -1075:
			want = between(0, 0, 0, 1, tiny)
		case n == -1075:
			want = between(0, 1, 0, 1, tiny)
		case n < -1022:
			want = same(1<<uint(n+1074), none)
		case n < 1024:
			want = same(uint64(n+1023)<<52, none)
		default:
			want = between(inf, inf, last, inf, great)
		}
		for bit := 0; bit < 256; bit += 17 {
			play(t, []roundCase{{"a power", rnd.Num{Exp: n - bit, Sig: power(bit)}, want}})
		}
		play(t, []roundCase{{"a power, a half alone", rnd.Num{Exp: n + 1, More: true}, want}})
	}
}

// RN1, all of it, word for word: all small sizes about the least pattern.
func TestRoundSmallAll(t *testing.T) {
	for exp := -1082; exp <= -1072; exp++ {
		for sig := range uint64(300) {
			for _, x := range []rnd.Num{{}, {More: true}, {Minus: true}, {Minus: true, More: true}} {
				x.Exp, x.Sig = exp, wide.Of(sig)
				for _, m := range aid.Modes() {
					checkRound(t, x, m)
				}
			}
		}
	}
}

// RN1, all of it, word for word: sizes of all lengths with every highest bit, most of them next to where the answer changes.
func TestRoundAll(t *testing.T) {
	m := mixer{3}
	for n := -1400; n <= 1400; n++ {
		count := 8
		if n > -1085 && n < -1015 || n > 1015 && n < 1030 {
			count = 150
		}
		for range count {
			x := m.num(n)
			for _, mode := range append(aid.Modes(), m.Mode()) {
				checkRound(t, x, mode)
			}
		}
	}
}
