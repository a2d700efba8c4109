package fly_test

import (
	"slices"
	"testing"

	"tiller/aid"
	"tiller/api"
	"tiller/fly"
)

// P7: every call ends, and answers the same again, whatever was asked between, of any number of any patterns; what was handed in is left as it was.
func TestTotalAndAlone(t *testing.T) {
	m := mixer{47}
	for range 40 {
		for n := range 20 {
			x, back := m.list(n, m.any), m.Below(2) == 0
			was := slices.Clone(x)
			answers, flags, err := fly.Little(x, back)
			fly.Little(m.list(m.Below(14), m.any), !back)
			again, others, too := fly.Little(x, back)
			if !slices.Equal(again, answers) || others != flags || aid.Errno(too) != aid.Errno(err) || fly.Can(n) != (err == nil) {
				t.Fatalf("Little of %#x: %#x, %d, %v, then %#x, %d, %v", x, answers, flags, err, again, others, too)
			}
			if !slices.Equal(x, was) {
				t.Fatalf("Little of %#x made that %#x", was, x)
			}
		}
	}
}

// P7: the answers are new memory, spare room too, and the spare room of what was handed in stays.
func TestNewMemory(t *testing.T) {
	m := mixer{53}
	for _, n := range lengths() {
		for _, back := range ways() {
			room := m.list(2*n, m.kinds()[0])
			was := slices.Clone(room)
			answers, _ := little(t, room[:n], back)
			other, _ := little(t, room[:n], back)
			kept := slices.Clone(answers)
			other = other[:cap(other)]
			for j := range other {
				other[j] = pair(nan, nan)
			}
			if !slices.Equal(room, was) || !slices.Equal(answers, kept) {
				t.Fatalf("%d numbers: answers share memory", n)
			}
			for j := range room {
				room[j] = api.Pair{}
			}
			if !slices.Equal(answers, kept) {
				t.Fatalf("%d numbers: answers hang on what was handed in", n)
			}
		}
	}
}
