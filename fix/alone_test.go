package fix_test

import (
	"testing"

	"tiller/aid"
	"tiller/fix"
	"tiller/wide"
)

// answers are all that the calls tell of two fractions and two numbers.
type answers struct {
	quotient, product, pi, sineLow, sineHigh, cosineLow, cosineHigh wide.W
	over                                                            bool
	ofErr, sineErr, cosineErr                                       int
}

func ask(a, b wide.W, n, by uint64) answers {
	var z answers
	var ofErr, sineErr, cosineErr error
	z.quotient, ofErr = fix.Of(n, by)
	z.product, z.over = fix.Mul(a, b)
	z.pi = fix.Pi()
	z.sineLow, z.sineHigh, sineErr = fix.Sin(a)
	z.cosineLow, z.cosineHigh, cosineErr = fix.Cos(a)
	z.ofErr, z.sineErr, z.cosineErr = aid.Errno(ofErr), aid.Errno(sineErr), aid.Errno(cosineErr)
	return z
}

// P7: every call ends, and answers the same again, whatever was asked between, at all arguments.
func TestTotalAndAlone(t *testing.T) {
	m := mixer{97}
	for range 2000 {
		a, b, n, by := m.any(256), m.any(256), m.word(), m.word()
		first := ask(a, b, n, by)
		ask(m.any(256), m.any(256), m.word(), m.word())
		if again := ask(a, b, n, by); again != first {
			t.Fatalf("%x, %x, %d, %d: %+v, then %+v", a, b, n, by, first, again)
		}
	}
}

// P7: what is answered can be changed without anything else changing.
func TestPiIsACopy(t *testing.T) {
	pi := fix.Pi()
	again := pi
	pi[0]++
	if fix.Pi() != again {
		t.Errorf("Pi: %x", fix.Pi())
	}
}
