package show_test

import (
	"math"
	"testing"

	"tiller/aid"
	"tiller/api"
	"tiller/show"
)

// answer is what all calls answer of the same arguments.
type answer struct {
	short, digits, hex string
	err                int
}

func answers(p uint64, n int, m api.Mode) answer {
	digits, err := show.Digits(p, n, m)
	return answer{show.Short(p), digits, show.Hex(p), aid.Errno(err)}
}

// P7: every call ends, and answers the same again, whatever was asked between, at all arguments.
func TestTotalAndAlone(t *testing.T) {
	m := mixer{59}
	some := []int{math.MinInt, -1, 0, 1, 2, 17, most, most + 1, math.MaxInt}
	for range 10_000 {
		p, n, mode := m.any(), some[m.Below(len(some))], m.Mode()
		if m.Below(2) == 0 {
			n = m.Below(60)
		}
		first := answers(p, n, mode)
		answers(m.any(), 1+m.Below(most), api.Mode(m.Word()))
		if again := answers(p, n, mode); again != first {
			t.Fatalf("%#x, %d, %d: %+v, then %+v", p, n, mode, first, again)
		}
		if (first.err != 0) != (n < 1 || n > most) {
			t.Fatalf("Digits(%#x, %d, %d): error %d", p, n, mode, first.err)
		}
	}
}

// SH1 to SH3: of the other sign all texts are the same, but for - ahead of them; Up and Down change places.
func TestMirror(t *testing.T) {
	m := mixer{61}
	turn := map[api.Mode]api.Mode{api.Up: api.Down, api.Down: api.Up}
	for range 10_000 {
		p, n, mode := m.any()&^minus, 1+m.Below(40), m.Mode()
		other, ok := turn[mode]
		if !ok {
			other = mode
		}
		x, y := answers(p, n, mode), answers(p+minus, n, other)
		if p <= inf {
			x = answer{"-" + x.short, "-" + x.digits, "-" + x.hex, x.err}
		}
		if x != y {
			t.Fatalf("%#x, %d, %d: %+v, and of the other sign %+v", p, n, mode, x, y)
		}
	}
}
