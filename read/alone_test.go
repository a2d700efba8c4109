package read_test

import (
	"strings"
	"testing"

	"tiller/api"
)

// some are texts of every class, and such as are none.
func some() []string {
	return []string{"", "+", "-", ".", "e", "0x", "inf", "-inf", "nan", "-nan", "0", "-0", "0e99", "0x0p-5", "1", "-1", "0.1", "1e308", "1e309", "-1e400", "1e-320", "1e-400", "0x1p-1074", "0x1p-1075", "0x1.8p1023", "0x1p1024", "0x1p", "1e", "1..2", "x", strings.Repeat("7", 5000), "." + strings.Repeat("3", 5000), noughts(mostBytes + 1), "0x." + strings.Repeat("c", 5000) + "p7"}
}

// P7: every call ends, and answers the same again, whatever was asked between, at all arguments.
func TestTotalAndAlone(t *testing.T) {
	m := mixer{37}
	for range 30 {
		for _, s := range append(some(), m.numeral()) {
			mode := m.Mode()
			first := parse(s, mode)
			parse(m.numeral(), api.Mode(m.Word()))
			parse(some()[m.Below(len(some()))], m.Mode())
			// Another string of the same bytes is the same text.
			if again := parse(strings.Clone(s), mode); again != first {
				t.Fatalf("%s, %d: %+v, then %+v", brief(s), mode, first, again)
			}
		}
	}
}

// P7: odd bytes are never more than an error.
func TestOddBytes(t *testing.T) {
	m := mixer{41}
	for range 100_000 {
		all := make([]byte, m.Below(12))
		for i := range all {
			all[i] = byte(m.Word())
		}
		checkAll(t, string(all), api.Mode(m.Word()))
		if t.Failed() {
			return
		}
	}
}

// P1: only those flags are raised that go together, and by numbers alone.
func TestFlags(t *testing.T) {
	m := mixer{43}
	for range 100_000 {
		s, mode := m.numeral(), m.Mode()
		z := parse(s, mode)
		switch z.f {
		case none, off:
			if z.p&^minus >= inf {
				t.Fatalf("Parse(%s, %d): %#x, %d", s, mode, z.p, z.f)
			}
		case tiny:
			if z.p&^minus > leastBig {
				t.Fatalf("Parse(%s, %d): %#x, %d", s, mode, z.p, z.f)
			}
		case great:
			if z.p&^minus < last || z.p&^minus > inf {
				t.Fatalf("Parse(%s, %d): %#x, %d", s, mode, z.p, z.f)
			}
		default:
			t.Fatalf("Parse(%s, %d): flags %d", s, mode, z.f)
		}
	}
}
