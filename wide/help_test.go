package wide_test

import (
	"math"
	"math/big"
	"testing"

	"tiller/aid"
	"tiller/wide"
)

const full = math.MaxUint64

// most is 2^256 - 1.
var most = wide.W{full, full, full, full}

// power is 2^n, made without the calls that are tested.
func power(n int) wide.W {
	var w wide.W
	w[n/64] = 1 << uint(n%64)
	return w
}

// below is 2^n - 1, made without the calls that are tested.
func below(n int) wide.W {
	var w wide.W
	for i := range n {
		w[i/64] |= 1 << uint(i%64)
	}
	return w
}

func toBig(w wide.W) *big.Int {
	b := new(big.Int)
	for i := len(w) - 1; i >= 0; i-- {
		b.Lsh(b, 64)
		b.Or(b, new(big.Int).SetUint64(w[i]))
	}
	return b
}

// fromBig is b modulo 2^256; of a b below 0, too.
func fromBig(b *big.Int) wide.W {
	word := new(big.Int).SetUint64(full)
	rest := new(big.Int).Set(b)
	var w wide.W
	for i := range w {
		w[i] = new(big.Int).And(rest, word).Uint64()
		rest.Rsh(rest, 64)
	}
	return w
}

// mixer makes odd numbers, and numbers of this layer by them.
type mixer struct{ aid.Mixer }

// wide is a number of any length: all lengths are as likely.
func (m *mixer) wide() wide.W {
	w := wide.W{m.Word(), m.Word(), m.Word(), m.Word()}
	mask := below(int(m.Word() % 257))
	for i := range w {
		w[i] &= mask[i]
	}
	return w
}

// corners are all numbers whose four words are among those given.
func corners(words ...uint64) []wide.W {
	var all []wide.W
	for _, a := range words {
		for _, b := range words {
			for _, c := range words {
				for _, d := range words {
					all = append(all, wide.W{a, b, c, d})
				}
			}
		}
	}
	return all
}

// eachPair calls try with pairs of corners, and with odd pairs of all lengths.
func eachPair(t *testing.T, try func(a, b wide.W) bool) {
	t.Helper()
	all := corners(0, 1, 1<<63, full)
	for _, a := range all {
		for _, b := range all {
			if !try(a, b) {
				t.FailNow()
			}
		}
	}
	m := mixer{1}
	for range 50000 {
		if !try(m.wide(), m.wide()) {
			t.FailNow()
		}
	}
}

// eachOne calls try with corners, with the neighbours of powers of two, and with odd numbers of all lengths.
func eachOne(t *testing.T, try func(a wide.W) bool) {
	t.Helper()
	all := corners(0, 1, 1<<63, full)
	for n := range 256 {
		above := power(n)
		above[0] |= 1
		all = append(all, below(n), power(n), above)
	}
	m := mixer{2}
	for range 2000 {
		all = append(all, m.wide())
	}
	for _, a := range all {
		if !try(a) {
			t.FailNow()
		}
	}
}

// counts are the numbers of bits that the chapter's rules part from each other.
func counts() []int {
	return []int{math.MinInt, math.MinInt + 1, math.MinInt + 64, math.MinInt + 256, -257, -256, -255, -65, -64, -63, -1, 0,
		1, 2, 62, 63, 64, 65, 127, 128, 129, 191, 192, 193, 254, 255, 256, 257, 319, 320, 512, 1 << 30, math.MaxInt - 255, math.MaxInt - 63, math.MaxInt}
}
