package rnd_test

import (
	"math"
	"testing"

	"tiller/aid"
	"tiller/api"
	"tiller/rnd"
	"tiller/wide"
)

// answers are all that the calls tell of a number, a pattern and a mode.
type answers struct {
	p         uint64
	f         api.Flags
	of, whole rnd.Num
	other     bool
	err       error
}

func ask(x rnd.Num, p uint64, m api.Mode) answers {
	var a answers
	a.p, a.f = rnd.Round(x, m)
	a.of, a.err = rnd.Of(p)
	a.whole, a.other = rnd.Whole(x, m)
	return a
}

// P7: every call ends, answers the same again, whatever was asked between, and leaves its arguments, at all of them.
func TestTotalAndAlone(t *testing.T) {
	exps := []int{math.MinInt, math.MinInt + 1, math.MinInt + 255, math.MinInt + 1074, -2257, -2001, -2000, -1999, -1400, -1331, -1330, -1127, -1076, -1075, -1074, -1073, -257, -256, -255, -64, -53, -52, -1,
		0, 1, 52, 53, 255, 256, 767, 768, 769, 970, 971, 972, 1023, 1024, 1025, 1999, 2000, 2001, math.MaxInt - 1075, math.MaxInt - 256, math.MaxInt - 1, math.MaxInt}
	sigs := []wide.W{{}, wide.Of(1), wide.Of(3), wide.Of(1<<53 - 1), wide.Of(1 << 53), wide.Of(full), power(64), power(128), power(255), most, {1, 2, 3, 4}}
	all := aid.AllModes()
	m := mixer{19}
	for _, exp := range exps {
		for _, sig := range sigs {
			for _, mode := range all {
				for _, x := range []rnd.Num{{}, {More: true}, {Minus: true}, {Minus: true, More: true}} {
					x.Exp, x.Sig = exp, sig
					y, p := x, m.Word()
					first := ask(y, p, mode)
					ask(m.num(int(m.Word()%3000)-1500), m.Word(), api.Mode(m.Word()))
					if again := ask(y, p, mode); again != first {
						t.Fatalf("%+v, %#x, %d: %+v, then %+v", x, p, mode, first, again)
					}
					if y != x {
						t.Fatalf("%+v, %d: changed to %+v", x, mode, y)
					}
					if first.err != nil && first.of != (rnd.Num{}) {
						t.Fatalf("Of(%#x): %+v beside %v", p, first.of, first.err)
					}
				}
			}
		}
	}
}
