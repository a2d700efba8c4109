package narrow_test

import (
	"testing"

	"tiller/api"
	"tiller/narrow"
)

// answers are all that the calls tell of a pattern, of one of 32 bits, and of a mode.
type answers struct {
	to    answer
	from  uint64
	flags api.Flags
}

func ask(p uint64, q uint32, m api.Mode) answers {
	from, f := narrow.From(q)
	return answers{to(p, m), from, f}
}

// P7: every call ends, and answers the same again, whatever was asked between, at all arguments.
func TestTotalAndAlone(t *testing.T) {
	m := mixer{19}
	for range 100 {
		for _, p := range append(patterns, m.Word()) {
			q, mode := m.any4(), m.Mode()
			first := ask(p, q, mode)
			ask(m.any(), m.any4(), api.Mode(m.Word()))
			if again := ask(p, q, mode); again != first {
				t.Fatalf("%#x, %#x, %d: %+v, then %+v", p, q, mode, first, again)
			}
		}
	}
}

// P1: To raises only those flags that go together; From raises Invalid at most; what is no number is told by one pattern.
func TestFlags(t *testing.T) {
	m := mixer{23}
	for range 50_000 {
		p, mode := m.any(), m.Mode()
		z := to(p, mode)
		switch z.f {
		case none, off, tiny, great:
		case api.Invalid:
			if z.q != nan4 {
				t.Fatalf("To(%#x, %d): %#x with Invalid", p, mode, z.q)
			}
		default:
			t.Fatalf("To(%#x, %d): flags %d", p, mode, z.f)
		}
		if z.q&^minus4 > inf4 && z.q != nan4 {
			t.Fatalf("To(%#x, %d): %#x", p, mode, z.q)
		}
		q := m.any4()
		if back, f := narrow.From(q); f != none && f != api.Invalid || back&^minus > inf && back != nan {
			t.Fatalf("From(%#x): %#x, %d", q, back, f)
		}
	}
}
