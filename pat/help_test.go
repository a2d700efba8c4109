package pat_test

import (
	"testing"

	"tiller/aid"
	"tiller/api"
	"tiller/pat"
)

const (
	minus   = 1 << 63
	leading = 1 << 52
	allFrac = 1<<52 - 1
	half    = 1 << 51
)

// edge is a pattern and what it is made of, told by hand.
type edge struct {
	p uint64
	x pat.Parts
}

// edges are patterns above 0 of every class: the least and the greatest of each, and some between.
func edges() []edge {
	return []edge{
		{0, pat.Parts{Class: 0, Exp: -1074}},
		{1, pat.Parts{Class: 1, Exp: -1074, Sig: 1}},
		{2, pat.Parts{Class: 1, Exp: -1074, Sig: 2}},
		{0x0007ffffffffffff, pat.Parts{Class: 1, Exp: -1074, Sig: 1<<51 - 1}},
		{0x0008000000000000, pat.Parts{Class: 1, Exp: -1074, Sig: 1 << 51}},
		{0x000ffffffffffffe, pat.Parts{Class: 1, Exp: -1074, Sig: 1<<52 - 2}},
		{0x000fffffffffffff, pat.Parts{Class: 1, Exp: -1074, Sig: 1<<52 - 1}},
		{0x0010000000000000, pat.Parts{Class: 2, Exp: -1074, Sig: 1 << 52}},
		{0x0010000000000001, pat.Parts{Class: 2, Exp: -1074, Sig: 1<<52 + 1}},
		{0x001fffffffffffff, pat.Parts{Class: 2, Exp: -1074, Sig: 1<<53 - 1}},
		{0x0020000000000000, pat.Parts{Class: 2, Exp: -1073, Sig: 1 << 52}},
		{0x3fb999999999999a, pat.Parts{Class: 2, Exp: -56, Sig: 0x1999999999999a}},
		{0x3fefffffffffffff, pat.Parts{Class: 2, Exp: -53, Sig: 1<<53 - 1}},
		{0x3ff0000000000000, pat.Parts{Class: 2, Exp: -52, Sig: 1 << 52}},
		{0x3ff8000000000000, pat.Parts{Class: 2, Exp: -52, Sig: 3 << 51}},
		{0x4000000000000000, pat.Parts{Class: 2, Exp: -51, Sig: 1 << 52}},
		{0x4330000000000000, pat.Parts{Class: 2, Exp: 0, Sig: 1 << 52}},
		{0x4340000000000000, pat.Parts{Class: 2, Exp: 1, Sig: 1 << 52}},
		{0x7fe0000000000000, pat.Parts{Class: 2, Exp: 971, Sig: 1 << 52}},
		{0x7fefffffffffffff, pat.Parts{Class: 2, Exp: 971, Sig: 1<<53 - 1}},
		{0x7ff0000000000000, pat.Parts{Class: 3}},
		{0x7ff8000000000000, pat.Parts{Class: 4, Sig: 1 << 51}},
		{0x7ff8000000000001, pat.Parts{Class: 4, Sig: 1<<51 + 1}},
		{0x7ffc000000000000, pat.Parts{Class: 4, Sig: 3 << 50}},
		{0x7fffffffffffffff, pat.Parts{Class: 4, Sig: 1<<52 - 1}},
		{0x7ff0000000000001, pat.Parts{Class: 5, Sig: 1}},
		{0x7ff4000000000000, pat.Parts{Class: 5, Sig: 1 << 50}},
		{0x7ff7ffffffffffff, pat.Parts{Class: 5, Sig: 1<<51 - 1}},
	}
}

// bothSigns are the edges, and the same below 0.
func bothSigns() []edge {
	all := edges()
	for _, e := range edges() {
		e.p += minus
		e.x.Minus = true
		all = append(all, e)
	}
	return all
}

// wantPattern tells whether an answer is the pattern that was asked for, beside no error.
func wantPattern(t *testing.T, what string, got uint64, err error, want uint64) {
	t.Helper()
	if got != want || err != nil {
		t.Errorf("%s: %#x, %v; want %#x", what, got, err, want)
	}
}

// wantError tells whether an answer is the error that was asked for, and nothing beside it.
func wantError(t *testing.T, what string, got uint64, err error, want api.Errno) {
	t.Helper()
	if aid.Errno(err) != int(want) || got != 0 {
		t.Errorf("%s: %#x, %v; want %v", what, got, err, want)
	}
}

// eachPattern calls try with patterns of every exponent and both signs, of edge fractions and of odd ones.
func eachPattern(t *testing.T, try func(p uint64) bool) {
	t.Helper()
	m := aid.Mixer(7)
	for exponent := range uint64(2048) {
		for _, f := range []uint64{0, 1, 2, half - 1, half, half + 1, allFrac - 1, allFrac, m.Word() & allFrac, m.Word() & allFrac} {
			for _, sign := range []uint64{0, minus} {
				if p := sign + exponent<<52 + f; !try(p) {
					t.Fatalf("at %#x", p)
				}
			}
		}
	}
	for range 50_000 {
		if p := m.Word(); !try(p) {
			t.Fatalf("at %#x", p)
		}
	}
}
