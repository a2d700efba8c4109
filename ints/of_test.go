package ints_test

import (
	"fmt"
	"math"
	"math/big"
	"testing"

	"tiller/aid"
	"tiller/api"
	"tiller/ints"
)

// ofCase is a size, and the patterns above 0 that it is rounded to by Even, Away, Zero, Up and Down; the numbers are others.
type ofCase struct {
	n    uint64
	want [5]uint64
}

// lower, middle and upper lie between low and high: below the middle, in it, with an even low, and above it, or in it, with an odd low.
func lower(low, high uint64) [5]uint64  { return [5]uint64{low, low, low, high, low} }
func middle(low, high uint64) [5]uint64 { return [5]uint64{low, high, low, high, low} }
func upper(low, high uint64) [5]uint64  { return [5]uint64{high, high, low, high, low} }

// mirror is what the same number with the other sign is rounded to: Up and Down change places.
func mirror(want [5]uint64) [5]uint64 {
	want[api.Up], want[api.Down] = want[api.Down], want[api.Up]
	for m := range want {
		want[m] ^= minus
	}
	return want
}

func wantOf(t *testing.T, n int64, m api.Mode, want uint64, flags api.Flags) {
	t.Helper()
	if p, f := ints.Of(n, m); p != want || f != flags {
		t.Errorf("Of(%d, %d): %#x, %d; want %#x, %d", n, m, p, f, want, flags)
	}
}

func wantOfPlain(t *testing.T, n uint64, m api.Mode, want uint64, flags api.Flags) {
	t.Helper()
	if p, f := ints.OfPlain(n, m); p != want || f != flags {
		t.Errorf("OfPlain(%d, %d): %#x, %d; want %#x, %d", n, m, p, f, want, flags)
	}
}

// playOf tries a size by both calls, as far as their types have it, of both signs and by every mode; a mode that is none is as Even.
func playOf(t *testing.T, n uint64, want [5]uint64, flags api.Flags) {
	t.Helper()
	turned := mirror(want)
	try := func(m, as api.Mode) {
		t.Helper()
		wantOfPlain(t, n, m, want[as], flags)
		if n <= math.MaxInt64 {
			wantOf(t, int64(n), m, want[as], flags)
			wantOf(t, -int64(n), m, turned[as], flags)
		}
	}
	for _, m := range aid.Modes() {
		try(m, m)
	}
	for _, m := range aid.NoModes() {
		try(m, api.Even)
	}
}

// stays asks that a size is that of a pattern, without flags.
func stays(t *testing.T, n, p uint64) {
	t.Helper()
	playOf(t, n, [5]uint64{p, p, p, p, p}, none)
}

// IN1: 0 is +0, by every mode, Down among them.
func TestOfZero(t *testing.T) {
	for _, m := range aid.AllModes() {
		wantOf(t, 0, m, 0, none)
		wantOfPlain(t, 0, m, 0, none)
	}
}

// IN1: 1 and -1, and other small numbers.
func TestOfSmall(t *testing.T) {
	for _, m := range aid.AllModes() {
		wantOf(t, 1, m, 0x3ff0000000000000, none)
		wantOf(t, -1, m, 0xbff0000000000000, none)
		wantOfPlain(t, 1, m, 0x3ff0000000000000, none)
	}
	stays(t, 2, two)
	stays(t, 3, 0x4008000000000000)
	stays(t, 10, 0x4024000000000000)
	for n := uint64(1); n < 2_000; n++ {
		stays(t, n, of(n, 0))
	}
	for n := range 64 {
		stays(t, 1<<uint(n), power(n))
	}
}

// IN1: numbers of 53 bits, and greater ones that need no more.
func TestOfExact(t *testing.T) {
	stays(t, 1<<52-1, 0x432ffffffffffffe)
	stays(t, 1<<52, 0x4330000000000000)
	stays(t, 1<<52+1, 0x4330000000000001)
	stays(t, 1<<53-2, 0x433ffffffffffffe)
	stays(t, 1<<53-1, 0x433fffffffffffff)
	stays(t, 1<<53, 0x4340000000000000)
	stays(t, 1<<53+2, 0x4340000000000001)
	stays(t, 1<<54-2, 0x434fffffffffffff)
	stays(t, 1<<63-1024, 0x43dfffffffffffff)
	stays(t, 1<<63, 0x43e0000000000000)
	stays(t, 1<<63+2048, 0x43e0000000000001)
	stays(t, 1<<64-2048, 0x43efffffffffffff)
}

// IN1: numbers of one bit and more above 53, halves among them.
func TestOfRounded(t *testing.T) {
	for _, c := range []ofCase{
		{1<<53 + 1, middle(power(53), power(53)+1)},
		{1<<53 + 3, upper(power(53)+1, power(53)+2)},
		{1<<53 + 5, middle(power(53)+2, power(53)+3)},
		{1<<54 - 3, middle(power(54)-2, power(54)-1)},
		{1<<54 - 1, upper(power(54)-1, power(54))},
		{1<<54 + 1, lower(power(54), power(54)+1)},
		{1<<54 + 2, middle(power(54), power(54)+1)},
		{1<<54 + 3, upper(power(54), power(54)+1)},
		{1<<54 + 5, lower(power(54)+1, power(54)+2)},
		{1<<54 + 6, upper(power(54)+1, power(54)+2)},
		{1<<54 + 7, upper(power(54)+1, power(54)+2)},
		{1<<55 - 3, lower(power(55)-1, power(55))},
		{1<<55 - 2, upper(power(55)-1, power(55))},
		{1<<60 + 1, lower(power(60), power(60)+1)},
		{1<<60 + 127, lower(power(60), power(60)+1)},
		{1<<60 + 128, middle(power(60), power(60)+1)},
		{1<<60 + 129, upper(power(60), power(60)+1)},
		{1<<60 + 255, upper(power(60), power(60)+1)},
		{1<<63 - 1025, upper(power(63)-2, power(63)-1)},
		{1<<63 - 1023, lower(power(63)-1, power(63))},
		{1<<63 - 513, lower(power(63)-1, power(63))},
		{1<<63 - 512, upper(power(63)-1, power(63))},
		{1<<63 - 511, upper(power(63)-1, power(63))},
		{1<<63 + 1, lower(power(63), power(63)+1)},
		{1<<63 + 1023, lower(power(63), power(63)+1)},
		{1<<63 + 1024, middle(power(63), power(63)+1)},
		{1<<63 + 1025, upper(power(63), power(63)+1)},
		{1<<63 + 3*1024, upper(power(63)+1, power(63)+2)},
		{1<<64 - 1025, lower(power(64)-1, power(64))},
		{1<<64 - 1024, upper(power(64)-1, power(64))},
		{1<<64 - 1023, upper(power(64)-1, power(64))},
	} {
		playOf(t, c.n, c.want, off)
	}
}

// IN1: the greatest and the least number of each type, and those next to them.
func TestOfEnds(t *testing.T) {
	playOf(t, math.MaxInt64, upper(0x43dfffffffffffff, 0x43e0000000000000), off)
	playOf(t, math.MaxInt64-1, upper(0x43dfffffffffffff, 0x43e0000000000000), off)
	playOf(t, math.MaxUint64, upper(0x43efffffffffffff, 0x43f0000000000000), off)
	playOf(t, math.MaxUint64-1, upper(0x43efffffffffffff, 0x43f0000000000000), off)
	for _, m := range aid.AllModes() {
		wantOf(t, math.MinInt64, m, 0xc3e0000000000000, none)
	}
	// The least one but one has the size of the greatest: Up and Down change places.
	wantOf(t, math.MinInt64+1, api.Even, 0xc3e0000000000000, off)
	wantOf(t, math.MinInt64+1, api.Away, 0xc3e0000000000000, off)
	wantOf(t, math.MinInt64+1, api.Zero, 0xc3dfffffffffffff, off)
	wantOf(t, math.MinInt64+1, api.Up, 0xc3dfffffffffffff, off)
	wantOf(t, math.MinInt64+1, api.Down, 0xc3e0000000000000, off)
	wantOf(t, math.MinInt64+1, 5, 0xc3e0000000000000, off)
}

// wordForWord is the number that a whole number is rounded to, as chapter 4 has it: by as many bits as it has above 53.
func wordForWord(v *big.Int, m api.Mode) *big.Int {
	extra := uint(max(v.BitLen()-53, 0))
	z := multiple(v, new(big.Int).Lsh(big.NewInt(1), extra), m)
	return z.Lsh(z, extra)
}

// tryOf asks that a pattern is a number's, rounded.
func tryOf(t *testing.T, what string, v *big.Int, m api.Mode, p uint64, f api.Flags) {
	t.Helper()
	want, flags := wordForWord(v, m), none
	if want.Cmp(v) != 0 {
		flags = off
	}
	if v.Sign() == 0 && p != 0 || units(p).Cmp(scaled(want)) != 0 || f != flags {
		t.Fatalf("%s: %#x, %d; want %v, %d", what, p, f, want, flags)
	}
}

// IN1, all of it, word for word.
func TestOfAll(t *testing.T) {
	m := mixer{3}
	for range 60_000 {
		size := m.number()
		mode := m.Mode()
		p, f := ints.OfPlain(size, mode)
		tryOf(t, fmt.Sprintf("OfPlain(%d, %d)", size, mode), new(big.Int).SetUint64(size), mode, p, f)
		n := int64(size)
		if m.Below(2) == 0 {
			n = -n
		}
		p, f = ints.Of(n, mode)
		tryOf(t, fmt.Sprintf("Of(%d, %d)", n, mode), big.NewInt(n), mode, p, f)
	}
}

// IN1: what both types have is the same pattern by both calls.
func TestOfAsOfPlain(t *testing.T) {
	m := mixer{5}
	for range 50_000 {
		n, mode := m.number()>>1, m.Mode()
		p, f := ints.OfPlain(n, mode)
		wantOf(t, int64(n), mode, p, f)
	}
}
