package narrow_test

import (
	"math"
	"testing"

	"tiller/api"
	"tiller/narrow"
)

// NA2: what is no number is NaN, without its sign and its fraction; Loud raises Invalid, Quiet nothing.
func TestFromNoNumber(t *testing.T) {
	for _, q := range quiets4 {
		wantFrom(t, "Quiet", q, 0x7ff8000000000000, none)
	}
	for _, q := range louds4 {
		wantFrom(t, "Loud", q, 0x7ff8000000000000, api.Invalid)
	}
	for bit := range 22 {
		for _, q := range bothSigns4(inf4 + 1<<uint(bit)) {
			wantFrom(t, "Loud of one bit", q, nan, api.Invalid)
			wantFrom(t, "Quiet of two", q+1<<22, nan, none)
		}
	}
}

// fromBoth asks for the same number of both signs.
func fromBoth(t *testing.T, what string, q uint32, want uint64) {
	t.Helper()
	wantFrom(t, what, q, want, none)
	wantFrom(t, what+", below 0", q+minus4, want+minus, none)
}

// NA2: the least and the greatest pattern of every class, of both signs.
func TestFromEdges(t *testing.T) {
	fromBoth(t, "0", 0, 0)
	fromBoth(t, "the least", 1, 0x36a0000000000000)
	fromBoth(t, "two", 2, 0x36b0000000000000)
	fromBoth(t, "three", 3, 0x36b8000000000000)
	fromBoth(t, "2^-127", 0x00400000, 0x3800000000000000)
	fromBoth(t, "the greatest with few bits", 0x007fffff, 0x380fffffc0000000)
	fromBoth(t, "the least plain one", 0x00800000, 0x3810000000000000)
	fromBoth(t, "the one above it", 0x00800001, 0x3810000020000000)
	fromBoth(t, "below 1", one4-1, one-step)
	fromBoth(t, "1", one4, one)
	fromBoth(t, "above 1", one4+1, one+step)
	fromBoth(t, "a third", 0x3eaaaaab, 0x3fd5555560000000)
	fromBoth(t, "the greatest finite one", 0x7f7fffff, 0x47efffffe0000000)
	fromBoth(t, "Endless", 0x7f800000, 0x7ff0000000000000)
}

// NA2: every power of two, with the one below and above it.
func TestFromPowers(t *testing.T) {
	for n := -149; n < -126; n++ {
		fromBoth(t, "a power with few bits", 1<<uint(n+149), power(n))
	}
	for n := -126; n <= 127; n++ {
		q := uint32(n+127) << 23
		fromBoth(t, "a power", q, power(n))
		fromBoth(t, "a power and a bit", q+1, power(n)+step)
		fromBoth(t, "all bits of a power", q+1<<23-1, power(n+1)-step)
	}
}

// NA2, all of it, word for word: the number is the same, with its sign, of 0 too.
func TestFromAll(t *testing.T) {
	m := mixer{7}
	for range 100_000 {
		q := m.any4()
		if q&inf4 == inf4 {
			continue
		}
		p, f := narrow.From(q)
		if f != none || p&^minus >= inf || size(p).Cmp(size4(q)) != 0 || (p >= minus) != (q >= minus4) {
			t.Fatalf("From(%#x): %#x, %d", q, p, f)
		}
	}
}

// NA2: a number is what the machine makes of it.
func TestFromAsTheMachine(t *testing.T) {
	m := mixer{11}
	for range 300_000 {
		q := m.any4()
		v := math.Float32frombits(q)
		if p, _ := narrow.From(q); v == v && p != math.Float64bits(float64(v)) {
			t.Fatalf("From(%#x): %#x", q, p)
		}
	}
}
