package mix_test

import (
	"slices"
	"testing"

	"tiller/aid"
	"tiller/api"
	"tiller/mix"
	"tiller/plan"
)

// oddRadices are any, mostly such as may be.
func (m *mixer) oddRadices() []int {
	radix := m.radices(200)
	if len(radix) > 0 && m.Below(3) == 0 {
		radix[m.Below(len(radix))] = m.Below(20) - 3
	}
	return radix
}

// oddLength is mostly the product of radices.
func (m *mixer) oddLength(radix []int) int {
	if n := lengthOf(radix); n >= 0 && m.Below(4) > 0 {
		return min(n, 1000)
	}
	return m.Below(200)
}

// P7: every call ends, and answers the same again, whatever was asked between, of any radices and numbers; what was handed in is left as it was.
func TestTotalAndAlone(t *testing.T) {
	m := mixer{73}
	for range 150 {
		radix := m.oddRadices()
		x, back := m.list(m.oddLength(radix), m.any), m.Below(2) == 0
		p := plan.Plan{N: len(x), Radix: radix, Pad: m.Below(7) / 6 * 256}
		wasX, wasRadix := slices.Clone(x), slices.Clone(radix)
		answers, flags, err := mix.Parts(radix, x, back)
		ran, raised, wrong := mix.Run(p, x, back)
		places, none := mix.Order(radix)

		other := m.oddRadices()
		mix.Parts(other, m.list(m.oddLength(other), m.any), !back)
		mix.Order(other)

		again, others, too := mix.Parts(radix, x, back)
		if !slices.Equal(again, answers) || others != flags || aid.Errno(too) != aid.Errno(err) {
			t.Fatalf("Parts(%v) of %#x: %#x, %d, %v, then %#x, %d, %v", radix, x, answers, flags, err, again, others, too)
		}
		if again, others, too := mix.Run(p, x, back); !slices.Equal(again, ran) || others != raised || aid.Errno(too) != aid.Errno(wrong) {
			t.Fatalf("Run(%v) of %#x: %#x, %d, %v, then %#x, %d, %v", p, x, ran, raised, wrong, again, others, too)
		}
		if again, too := mix.Order(radix); !slices.Equal(again, places) || aid.Errno(too) != aid.Errno(none) {
			t.Fatalf("Order(%v): %v, %v, then %v, %v", radix, places, none, again, too)
		}
		if !slices.Equal(x, wasX) || !slices.Equal(radix, wasRadix) || p.N != len(x) {
			t.Fatalf("%v and %#x were made %v and %#x", wasRadix, wasX, radix, x)
		}
	}
}

// spoiled are numbers, all of them and the spare room behind them made others.
func spoiled(x []api.Pair) {
	x = x[:cap(x)]
	for j := range x {
		x[j] = pair(nan, nan)
	}
}

// P7: the answers are new memory, spare room too, and the spare room of what was handed in stays.
func TestNewMemory(t *testing.T) {
	m := mixer{79}
	for _, radix := range slices.Concat(short(), long()) {
		n := lengthOf(radix)
		room := m.list(2*n, m.kinds()[0])
		spare := append(slices.Clone(radix), 2, 2, 2)
		was, wasSpare := slices.Clone(room), slices.Clone(spare)
		radix, x := spare[:len(radix)], room[:n]

		answers, _ := parts(t, radix, x, false)
		ran, _, err := mix.Run(byParts(radix...), x, false)
		if err != nil {
			t.Fatal(err)
		}
		kept := slices.Clone(answers)
		spoiled(ran)
		if !slices.Equal(room, was) || !slices.Equal(spare, wasSpare) || !slices.Equal(answers, kept) {
			t.Fatalf("Run(%v): answers share memory", radix)
		}
		other, _ := parts(t, radix, x, false)
		spoiled(other)
		spoiled(room)
		if !slices.Equal(answers, kept) || !slices.Equal(spare, wasSpare) {
			t.Fatalf("Parts(%v): answers share memory", radix)
		}
	}
}

// P7: places are new memory, too.
func TestNewPlaces(t *testing.T) {
	for _, radix := range slices.Concat(short(), long()) {
		spare := append(slices.Clone(radix), 2, 2, 2)
		was := slices.Clone(spare)
		radix := spare[:len(radix)]
		places, other := order(t, radix), order(t, radix)
		kept := slices.Clone(places)
		other = other[:cap(other)]
		for i := range other {
			other[i] = -1
		}
		if !slices.Equal(places, kept) || !slices.Equal(spare, was) {
			t.Fatalf("Order(%v): places share memory", radix)
		}
		for i := range spare {
			spare[i] = 7
		}
		if !slices.Equal(places, kept) {
			t.Fatalf("Order(%v): places hang on what was handed in", was)
		}
	}
}
