package whole_test

import (
	"math/big"
	"slices"
	"testing"

	"tiller/aid"
	"tiller/api"
)

// roundCase is a pattern above 0, and the whole numbers that it is rounded to by Even, Away, Zero, Up and Down; each is another number.
type roundCase struct {
	what string
	a    uint64
	want [5]uint64
}

// apart is what is rounded to low, or to high: by Even and Away to those that are told.
func apart(even, away, low, high uint64) [5]uint64 { return [5]uint64{even, away, low, high, low} }

// lower, middle and upper lie between low and high: below the middle, in it, with an even low, and above it, or in it, with an odd low.
func lower(low, high uint64) [5]uint64  { return apart(low, low, low, high) }
func middle(low, high uint64) [5]uint64 { return apart(low, high, low, high) }
func upper(low, high uint64) [5]uint64  { return apart(high, high, low, high) }

// mirror is what the same number with the other sign is rounded to: Up and Down change places.
func mirror(want [5]uint64) [5]uint64 {
	want[api.Up], want[api.Down] = want[api.Down], want[api.Up]
	for m := range want {
		want[m] ^= minus
	}
	return want
}

// playRound tries every case by every mode and both signs, told and not told; a mode that is none is as Even.
func playRound(t *testing.T, cases []roundCase) {
	t.Helper()
	for _, c := range cases {
		turned := mirror(c.want)
		for m := range c.want {
			wantRound(t, c.what, c.a, api.Mode(m), answer{c.want[m], off})
			wantRound(t, c.what, c.a^minus, api.Mode(m), answer{turned[m], off})
		}
		for _, m := range aid.NoModes() {
			wantRound(t, c.what, c.a, m, answer{c.want[api.Even], off})
			wantRound(t, c.what, c.a^minus, m, answer{turned[api.Even], off})
		}
	}
}

// stays asks that patterns stay as they are, without flags, by every mode and both signs.
func stays(t *testing.T, what string, all ...uint64) {
	t.Helper()
	for _, a := range bothSigns(all...) {
		for _, m := range aid.AllModes() {
			wantRound(t, what, a, m, answer{a, none})
		}
	}
}

// WH2: the chapter's example.
func TestRoundExample(t *testing.T) {
	playRound(t, []roundCase{{"2.5", of(5, -1), middle(two, three)}})
}

// WH2 and chapter 5's words: what is no number; Loud raises Invalid, also where Inexact is not told.
func TestRoundNoNumber(t *testing.T) {
	for _, m := range aid.AllModes() {
		for _, a := range quiets {
			wantRound(t, "Quiet", a, m, answer{nan, none})
		}
		for _, a := range louds {
			wantRound(t, "Loud", a, m, answer{nan, api.Invalid})
		}
	}
}

// WH2: noughts and Endless of both signs.
func TestRoundEnds(t *testing.T) {
	stays(t, "0", 0)
	stays(t, "Endless", inf)
}

// WH2: numbers below 1: tiny ones, below a half, just a half, and between a half and 1. A 0 keeps the sign.
func TestRoundBelowOne(t *testing.T) {
	playRound(t, []roundCase{
		{"the least", 1, lower(0, one)},
		{"two of it", 2, lower(0, one)},
		{"the last tiny one", leastBig - 1, lower(0, one)},
		{"the least plain one", leastBig, lower(0, one)},
		{"2^-500", power(-500), lower(0, one)},
		{"2^-53", power(-53), lower(0, one)},
		{"0.1", 0x3fb999999999999a, lower(0, one)},
		{"below a quarter", quarter - 1, lower(0, one)},
		{"a quarter", quarter, lower(0, one)},
		{"below a half", half - 1, lower(0, one)},
		{"a half", half, middle(0, one)},
		{"above a half", half + 1, upper(0, one)},
		{"three quarters", of(3, -2), upper(0, one)},
		{"below 1", one - 1, upper(0, one)},
	})
}

// WH2: halves above odd and above even numbers, and next to them.
func TestRoundHalves(t *testing.T) {
	playRound(t, []roundCase{
		{"above 1", one + 1, lower(one, two)},
		{"1.25", of(5, -2), lower(one, two)},
		{"below 1.5", oneHalf - 1, lower(one, two)},
		{"1.5", oneHalf, upper(one, two)},
		{"above 1.5", oneHalf + 1, upper(one, two)},
		{"below 2", two - 1, upper(one, two)},
		{"above 2", two + 1, lower(two, three)},
		{"below 2.5", of(5, -1) - 1, lower(two, three)},
		{"2.5", of(5, -1), middle(two, three)},
		{"above 2.5", of(5, -1) + 1, upper(two, three)},
		{"3.5", of(7, -1), upper(three, four)},
		{"4.5", of(9, -1), middle(four, of(5, 0))},
		{"below 4", four - 1, upper(three, four)},
	})
	for n := uint64(1); n < 2_000; n++ {
		want := middle(of(n, 0), of(n+1, 0))
		if n%2 == 1 {
			want = upper(of(n, 0), of(n+1, 0))
		}
		a := of(2*n+1, -1)
		playRound(t, []roundCase{
			{"a half", a, want},
			{"below a half", a - 1, lower(of(n, 0), of(n+1, 0))},
			{"above a half", a + 1, upper(of(n, 0), of(n+1, 0))},
		})
	}
}

// WH2: whole numbers stay.
func TestRoundWhole(t *testing.T) {
	for n := uint64(1); n < 2_000; n++ {
		stays(t, "whole", of(n, 0))
	}
	for n := range 1024 {
		stays(t, "a power", power(n))
	}
	stays(t, "whole", of(1<<52-1, 0), of(1<<31+1, 0), of(1<<53-1, 0), of(1<<53-1, 11))
}

// WH2: the patterns next to 2^51, 2^52 and 2^53, behind which there are no halves any more, and the greatest.
func TestRoundGreat(t *testing.T) {
	playRound(t, []roundCase{
		{"2^51 less 0.75", power(51) - 3, lower(power(51)-4, power(51))},
		{"2^51 less a half", power(51) - 2, upper(power(51)-4, power(51))},
		{"2^51 less a quarter", power(51) - 1, upper(power(51)-4, power(51))},
		{"2^51 and a half", power(51) + 1, middle(power(51), power(51)+2)},
		{"2^51 and 1.5", power(51) + 3, upper(power(51)+2, power(51)+4)},
		{"2^52 less 1.5", power(52) - 3, middle(power(52)-4, power(52)-2)},
		{"2^52 less a half", power(52) - 1, upper(power(52)-2, power(52))},
	})
	stays(t, "next to 2^52", power(52)-4, power(52)-2, power(52), power(52)+1, power(52)+2, power(52)+3)
	stays(t, "next to 2^53", power(53)-3, power(53)-2, power(53)-1, power(53), power(53)+1, power(53)+2, power(53)+3)
	stays(t, "greater", power(54)-1, power(54)+1, power(63)-1, power(63), power(64)+1, power(200)-1, power(1023)-1, power(1023)+1)
	stays(t, "the greatest", last-1, last)
}

// WH2, all of it of finite patterns, word for word; what Round answers is whole, so that it stays.
func TestRoundAll(t *testing.T) {
	m := mixer{11}
	unit := new(big.Int).Lsh(big.NewInt(1), 1074)
	for range 60_000 {
		a := m.near(1023+25, 32)
		switch m.Below(4) {
		case 0:
			a = m.finite()
		case 1:
			a = m.small(1023)
		}
		for _, mode := range append(aid.Modes(), m.Mode()) {
			v := units(a)
			want := multiple(v, unit, mode)
			flags := none
			if want.Cmp(v) != 0 {
				flags = off
			}
			p := round(a, mode, true).p
			if !isNumber(p, want, a) {
				t.Fatalf("Round(%#x, %d): %#x; want %v times 2^-1074", a, mode, p, want)
			}
			wantRound(t, "all", a, mode, answer{p, flags})
			wantRound(t, "again", p, m.Mode(), answer{p, none})
		}
		if t.Failed() {
			return
		}
	}
}

// WH2: of two numbers the greater one is never rounded to a less one, and the sign stays.
func TestRoundOrder(t *testing.T) {
	m := mixer{13}
	var sizes []uint64
	for range 2_000 {
		sizes = append(sizes, m.near(1023, 60)&^minus, m.small(1023)&^minus)
	}
	slices.Sort(sizes)
	for _, mode := range aid.AllModes() {
		for _, sign := range []uint64{0, minus} {
			before := uint64(0)
			for _, a := range sizes {
				p := round(a+sign, mode, true).p
				if p&minus != sign || p&^minus < before {
					t.Fatalf("Round(%#x, %d): %#x, after %#x", a+sign, mode, p, before)
				}
				before = p &^ minus
			}
		}
	}
}
