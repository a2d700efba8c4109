package sums

import (
	"tiller/api"
	"tiller/rnd"
	"tiller/wide"
)

const (
	mostBits = 128     // of an operand of Exact
	farthest = 100_000 // as far as its Exp may be from 0
	room     = 254     // bits of the greater operand in the units of a sum: one more is left for the sum
)

// Exact is the sum of two numbers, near enough to be rounded right.
func Exact(x, y rnd.Num, m api.Mode) (rnd.Num, error) {
	if !fits(x) || !fits(y) {
		return rnd.Num{}, api.ErrArg
	}
	unit := max(top(x), top(y)) - room
	a, b := inUnits(x, unit), inUnits(y, unit)
	if a.Minus == b.Minus {
		return together(a, b), nil
	}
	switch wide.Cmp(a.Sig, b.Sig) {
	case 1:
		return apart(a, b), nil
	case -1:
		return apart(b, a), nil
	}
	return rnd.Num{Minus: m == api.Down, Exp: unit}, nil
}

// fits tells whether a number may be an operand.
func fits(x rnd.Num) bool {
	return wide.Len(x.Sig) <= mostBits && !x.More && -farthest <= x.Exp && x.Exp <= farthest
}

// top is the power of two above a number's size; of 0 it is one that is above no other number's.
func top(x rnd.Num) int {
	if x.Sig == (wide.W{}) {
		return -farthest
	}
	return x.Exp + wide.Len(x.Sig)
}

// inUnits is a number told by another power of two. More stands for anything that is left below one unit: only the less of two operands can have it, and that one is then so small that the sum is rounded more than a hundred bits above the unit.
func inUnits(x rnd.Num, unit int) rnd.Num {
	y := rnd.Num{Minus: x.Minus, Exp: unit}
	if x.Exp >= unit {
		y.Sig = wide.Shl(x.Sig, x.Exp-unit)
	} else {
		y.Sig, y.More = wide.Shr(x.Sig, unit-x.Exp)
	}
	return y
}

// together is the sum of two numbers of one sign.
func together(a, b rnd.Num) rnd.Num {
	a.Sig, _ = wide.Add(a.Sig, b.Sig)
	a.More = a.More || b.More
	return a
}

// apart is the greater number, less the size of the other one. What that one has beyond its units leaves a part of one more of them.
func apart(greater, less rnd.Num) rnd.Num {
	greater.Sig, _ = wide.Sub(greater.Sig, less.Sig)
	if less.More {
		greater.Sig, _ = wide.Sub(greater.Sig, wide.Of(1))
		greater.More = true
	}
	return greater
}
