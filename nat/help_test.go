package nat_test

import (
	"encoding/binary"
	"math"
	"math/big"
	"slices"
	"testing"

	"tiller/aid"
	"tiller/api"
	"tiller/nat"
)

const full = math.MaxUint32

// words are n words that are all the same.
func words(n int, word uint32) nat.N {
	return slices.Repeat(nat.N{word}, n)
}

// power is 2^n, made without the calls that are tested.
func power(n int) nat.N {
	return append(words(n/32, 0), 1<<uint(n%32))
}

// most is the greatest number, 2^262144 - 1.
func most() nat.N { return words(api.MaxNat, full) }

// noNumbers are words that are no number.
func noNumbers() map[string]nat.N {
	return map[string]nat.N{
		"a nought":                       {0},
		"two noughts":                    {0, 0},
		"a nought behind a word":         {1, 0},
		"a nought behind full words":     {full, full, 0},
		"as many as may be, the last 0":  append(words(api.MaxNat-1, full), 0),
		"one more than may be":           words(api.MaxNat+1, 1),
		"one more than may be, the last": power(32 * api.MaxNat),
		"one more, the last 0":           append(most(), 0),
		"twice as many as may be":        words(2*api.MaxNat, full),
	}
}

func toBig(a nat.N) *big.Int {
	var all []byte
	for _, word := range slices.Backward(a) {
		all = binary.BigEndian.AppendUint32(all, word)
	}
	return new(big.Int).SetBytes(all)
}

func fromBig(b *big.Int) nat.N {
	all := b.FillBytes(make([]byte, (b.BitLen()+31)/32*4))
	var a nat.N
	for part := range slices.Chunk(all, 4) {
		a = append(a, binary.BigEndian.Uint32(part))
	}
	slices.Reverse(a)
	return a
}

// wantNumber tells whether an answer is the number that was asked for, beside no error.
func wantNumber(t *testing.T, what string, got nat.N, err error, want nat.N) {
	t.Helper()
	if err != nil || !slices.Equal(got, want) {
		t.Errorf("%s: %s, %v; want %s", what, brief(got), err, brief(want))
	}
}

// wantError tells whether an answer is the error that was asked for, and nothing beside it.
func wantError(t *testing.T, what string, got nat.N, err error, want api.Errno) {
	t.Helper()
	if aid.Errno(err) != int(want) || len(got) != 0 {
		t.Errorf("%s: %s, %v; want %v", what, brief(got), err, want)
	}
}

// brief is a number as it can be read in a test's answer.
func brief(a nat.N) string {
	text := toBig(a).Text(16)
	if len(text) > 60 {
		text = text[:30] + ".." + text[len(text)-28:]
	}
	return text
}

// mixer makes odd numbers, and numbers of this layer by them.
type mixer struct{ aid.Mixer }

// number is one of at most so many words: of odd ones, of full ones, of noughts, in turn by chance.
func (m *mixer) number(most int) nat.N {
	a := make(nat.N, m.Word()%uint64(most+1))
	for i := range a {
		switch m.Word() % 4 {
		case 0:
			a[i] = full
		case 1:
			a[i] = 0
		default:
			a[i] = uint32(m.Word())
		}
	}
	if len(a) > 0 {
		a[len(a)-1] |= 1 << (m.Word() % 32)
	}
	return a
}

// corners are all numbers of at most three words that are among 0, 1, 2^31 and 2^32 - 1.
func corners() []nat.N {
	edge := []uint32{0, 1, 1 << 31, full}
	all := []nat.N{nil}
	for _, high := range edge[1:] {
		all = append(all, nat.N{high})
		for _, middle := range edge {
			all = append(all, nat.N{middle, high})
			for _, low := range edge {
				all = append(all, nat.N{low, middle, high})
			}
		}
	}
	return all
}

// eachPair calls try with pairs of corners, with odd pairs, short and long, and with the greatest numbers.
func eachPair(t *testing.T, try func(a, b nat.N) bool) {
	t.Helper()
	for _, a := range corners() {
		for _, b := range corners() {
			if !try(a, b) {
				t.Fatalf("at %s, %s", brief(a), brief(b))
			}
		}
	}
	m := mixer{1}
	for _, length := range slices.Concat(slices.Repeat([]int{2, 5, 12}, 4000), slices.Repeat([]int{200}, 100)) {
		if a, b := m.number(length), m.number(length); !try(a, b) {
			t.Fatalf("at %s, %s", brief(a), brief(b))
		}
	}
	great := []nat.N{nil, {1}, {full}, power(131072), words(4096, full), most(), power(262143)}
	for _, a := range great {
		for _, b := range great {
			if !try(a, b) {
				t.Fatalf("at %s, %s", brief(a), brief(b))
			}
		}
	}
}
