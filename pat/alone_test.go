package pat_test

import (
	"math"
	"testing"

	"tiller/aid"
	"tiller/pat"
)

// answers are all that the calls tell of two patterns, parts and a text.
type answers struct {
	parts                        pat.Parts
	made, neg, abs, copied, read uint64
	class                        int
	none, finite                 bool
	hex                          string
	madeErr, readErr             error
}

func ask(p, sign uint64, x pat.Parts, s string) answers {
	var a answers
	a.parts = pat.Take(p)
	a.made, a.madeErr = pat.Make(x)
	a.class, a.none, a.finite = pat.Class(p), pat.IsNaN(p), pat.Finite(p)
	a.neg, a.abs, a.copied = pat.Neg(p), pat.Abs(p), pat.Copy(p, sign)
	a.hex = pat.Hex(p)
	a.read, a.readErr = pat.Parse(s)
	return a
}

// P7: every call ends and answers the same again, whatever was asked between; beside an error it answers nothing.
func TestTotalAndAlone(t *testing.T) {
	texts := []string{"", "0", "f", "7ff8000000000000", "ffffffffffffffff", "00000000000000000", "G", "\xff\xfe", "é"}
	numbers := []int{math.MinInt, -1076, -1075, -1074, -1, 0, 1, 2, 3, 4, 5, 6, 971, 972, math.MaxInt}
	m := aid.Mixer(11)
	for _, e := range bothSigns() {
		for _, class := range numbers {
			for _, exp := range numbers {
				x := pat.Parts{Minus: e.x.Minus, Class: class, Exp: exp, Sig: e.x.Sig}
				s := texts[m.Word()%uint64(len(texts))]
				sign := m.Word()
				first := ask(e.p, sign, x, s)
				ask(m.Word(), m.Word(), pat.Take(m.Word()), pat.Hex(m.Word()))
				if again := ask(e.p, sign, x, s); again != first {
					t.Fatalf("%#x, %#x, %+v, %q: %+v, then %+v", e.p, sign, x, s, first, again)
				}
				if first.madeErr != nil && first.made != 0 || first.readErr != nil && first.read != 0 {
					t.Fatalf("%+v, %q: something beside an error: %+v", x, s, first)
				}
			}
		}
	}
}
