package turn_test

import (
	"testing"

	"tiller/aid"
	"tiller/api"
	"tiller/turn"
)

// answers are all that the calls tell of some parts.
type answers struct {
	cosine, sine                     uint64
	point, remembered                api.Pair
	cosineErr, sineErr, pointErr, at int
}

func askAll(r *turn.Roots, k, n int) answers {
	var z answers
	var cosineErr, sineErr, pointErr, atErr error
	z.cosine, cosineErr = turn.Cos(k, n)
	z.sine, sineErr = turn.Sin(k, n)
	z.point, pointErr = turn.Root(k, n)
	z.remembered, atErr = r.At(k, n)
	z.cosineErr, z.sineErr, z.pointErr, z.at = aid.Errno(cosineErr), aid.Errno(sineErr), aid.Errno(pointErr), aid.Errno(atErr)
	return z
}

// P7: every call ends, and answers the same again, whatever was asked between, at all arguments.
func TestTotalAndAlone(t *testing.T) {
	m := mixer{109}
	r := turn.NewRoots()
	for range 2000 {
		k, n := m.parts(), m.parts()
		if m.Below(2) == 0 {
			n = m.turn()
		}
		first := askAll(r, k, n)
		askAll(r, m.parts(), m.turn())
		if again := askAll(r, k, n); again != first {
			t.Fatalf("%d of %d: %+v, then %+v", k, n, first, again)
		}
		if first.remembered != first.point || first.at != first.pointErr {
			t.Fatalf("%d of %d: %+v", k, n, first)
		}
	}
}
