package whole

import (
	"tiller/rnd"
	"tiller/wide"
)

const (
	// step is how far a rest, of at most 53 bits, is moved up at once: so it has room in 256 bits.
	step = 192
	// far is as far as a divisor is moved up: there it is more than twice any size of 53 bits already, so that nothing is changed by moving it farther.
	far = 64
)

// parting is what is left where a quotient is cut to a whole number.
type parting struct {
	rest rnd.Num // with the sign of what was parted
	by   wide.W  // the size that it was parted by, counted by the power of two of rest
	odd  bool    // whether the quotient is
}

// part parts one finite pattern by another that is not 0. Their powers of two may lie so far apart that the quotient has no room in 256 bits: it is found piece by piece, and the last piece alone tells whether it is odd, since all others stand higher.
func part(a, b uint64) parting {
	x, _ := rnd.Of(a)
	y, _ := rnd.Of(b)
	exp := min(x.Exp, y.Exp)
	by := wide.Shl(y.Sig, min(y.Exp-exp, far))
	rest, odd := cut(x.Sig, by)
	for left := x.Exp - exp; left > 0; left -= step {
		rest, odd = cut(wide.Shl(rest, min(left, step)), by)
	}
	return parting{rest: rnd.Num{Minus: x.Minus, Exp: exp, Sig: rest}, by: by, odd: odd}
}

// cut is the rest of a size by another that is not 0, and whether the quotient is odd.
func cut(size, by wide.W) (wide.W, bool) {
	quotient, rest, _ := wide.DivMod(size, by)
	return rest, wide.Bit(quotient, 0) != 0
}

// nearest is what is left by the nearest whole quotient, of two by the even one: if that is the next one up, it lies on the other side of 0.
func (z parting) nearest() rnd.Num {
	x := z.rest
	order := wide.Cmp(wide.Shl(x.Sig, 1), z.by)
	if order > 0 || order == 0 && z.odd {
		x.Minus = !x.Minus
		x.Sig, _ = wide.Sub(z.by, x.Sig)
	}
	return x
}
