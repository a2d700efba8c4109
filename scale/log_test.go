package scale_test

import (
	"testing"

	"tiller/api"
)

// SC1: the chapter's example.
func TestLogExample(t *testing.T) { log.pattern(t, "10", ten, three) }

// SC1 and chapter 5's words: what is no number.
func TestLogNoNumber(t *testing.T) { log.noNumbers(t) }

// SC1: of either 0 it is Endless, below 0, and DivZero; of Endless of either sign Endless, above 0.
func TestLogEnds(t *testing.T) {
	for _, a := range noughts {
		log.want(t, "0", a, answer{inf + minus, api.DivZero})
	}
	for _, a := range endless {
		log.pattern(t, "Endless", a, inf)
	}
}

// SC1: some patterns, the answers written out.
func TestLogKnown(t *testing.T) {
	for _, c := range []struct {
		what    string
		a, want uint64
	}{
		{"1", one, 0},
		{"next above 1", one + 1, 0},
		{"next below 1", one - 1, one + minus},
		{"a half", half, one + minus},
		{"next below a half", half - 1, two + minus},
		{"0.1", tenth, 0x4010000000000000 + minus},
		{"2", two, one},
		{"next below 2", two - 1, 0},
		{"3", three, one},
		{"the least", 1, 0x4090c80000000000 + minus},
		{"two of it", 2, 0x4090c40000000000 + minus},
		{"three of it", 3, 0x4090c40000000000 + minus},
		{"the last tiny one", leastBig - 1, 0x408ff80000000000 + minus},
		{"the least plain one", leastBig, 0x408ff00000000000 + minus},
		{"next above it", leastBig + 1, 0x408ff00000000000 + minus},
		{"the greatest", last, 0x408ff80000000000},
		{"the greatest power", power(1023), 0x408ff80000000000},
		{"next below it", power(1023) - 1, 0x408ff00000000000},
	} {
		for _, a := range bothSigns(c.a) {
			log.pattern(t, c.what, a, c.want)
		}
	}
}

// SC1: every power of two, and the patterns next to it on both sides.
func TestLogOfPowers(t *testing.T) {
	for _, sign := range []uint64{0, minus} {
		log.pattern(t, "the least", 1+sign, ofWhole(-1074))
		for n := -1073; n <= 1023; n++ {
			log.pattern(t, "next below a power", power(n)-1+sign, ofWhole(n-1))
			log.pattern(t, "a power", power(n)+sign, ofWhole(n))
			log.pattern(t, "next above a power", power(n)+1+sign, ofWhole(n))
		}
	}
}

// SC1, all of it of finite patterns, word for word: 2^n is at most the size, 2^(n + 1) is more than it.
func TestLogAll(t *testing.T) {
	m := mixer{7}
	for range 60_000 {
		a := m.finite()
		if a&^minus == 0 {
			continue
		}
		v := sizeOf(a, 0)
		n := v.BitLen() - 1 - places
		if units(n).Cmp(v) > 0 || units(n+1).Cmp(v) <= 0 {
			t.Fatalf("%#x is not from 2^%d up to the next power", a, n)
		}
		if log.pattern(t, "all", a, ofWhole(n)); t.Failed() {
			return
		}
	}
}
