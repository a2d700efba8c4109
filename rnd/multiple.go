package rnd

import (
	"tiller/api"
	"tiller/wide"
)

// What a size has beyond a multiple, held against half of the way to the next one.
const (
	nothing = iota
	belowHalf
	half
	aboveHalf
)

// toMultiple is a number rounded to a multiple of 2^e, told by that power, and whether that is another number. 2^256 of them are told by the next power.
func toMultiple(x Num, e int, m api.Mode) (Num, bool) {
	if e < x.Exp {
		return Num{Minus: x.Minus, Exp: e, Sig: wide.Shl(halves(x.Sig, x.More), x.Exp-e-1)}, false
	}
	low, rest := cut(x, e)
	y := Num{Minus: x.Minus, Exp: e, Sig: low}
	if goesUp(rest, wide.Bit(low, 0) != 0, x.Minus, m) {
		y = next(y)
	}
	return y, rest != nothing
}

// halves is two times a number, and one more, if more. It is asked only of what has a bit to spare.
func halves(a wide.W, more bool) wide.W {
	twice := wide.Shl(a, 1)
	if more {
		twice[0] |= 1
	}
	return twice
}

// cut is how often 2^e, that is 2^Exp or more, is in a size, and what is left then.
func cut(x Num, e int) (wide.W, int) {
	down := e - x.Exp
	low, lost := wide.Shr(x.Sig, down)
	switch {
	case !lost && !x.More:
		return low, nothing
	case down == 0:
		return low, half
	case wide.Bit(x.Sig, down-1) == 0:
		return low, belowHalf
	case x.More || x.Sig != wide.Shl(halves(low, true), down-1):
		return low, aboveHalf
	}
	return low, half
}

// next is the next multiple up.
func next(y Num) Num {
	sum, over := wide.Add(y.Sig, wide.Of(1))
	if over {
		sum = wide.W{3: 1 << 63}
		y.Exp++
	}
	y.Sig = sum
	return y
}

// goesUp tells whether a size is rounded to the next multiple up, by what it has beyond one, that is odd or not.
func goesUp(rest int, odd, minus bool, m api.Mode) bool {
	if rest == nothing {
		return false
	}
	switch m {
	case api.Zero:
		return false
	case api.Up:
		return !minus
	case api.Down:
		return minus
	case api.Away:
		return rest >= half
	}
	return rest > half || rest == half && odd
}
