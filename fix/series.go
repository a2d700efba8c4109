package fix

import (
	"tiller/api"
	"tiller/wide"
)

const (
	// terms are as many as are ever needed beside the first one: those left out begin with 1 / 58!, and are below the last bit.
	terms = 28
	// slack is how far from the sum, in last bits, the bounds lie. Every term is cut by less than 2 of them (see part), half the terms are added and half taken off, and what is left out is less than 2: so the sum is off by less than 30.
	slack = 32
)

// Sin are two numbers between which the sine of an angle lies.
func Sin(x wide.W) (wide.W, wide.W, error) {
	if wide.Cmp(x, one()) > 0 {
		return wide.W{}, wide.W{}, api.ErrArg
	}
	low, high := bounds(series(x, x, 2))
	return low, high, nil
}

// Cos are two numbers between which the cosine of an angle lies.
func Cos(x wide.W) (wide.W, wide.W, error) {
	if wide.Cmp(x, one()) > 0 {
		return wide.W{}, wide.W{}, api.ErrArg
	}
	low, high := bounds(series(one(), x, 1))
	return low, high, nil
}

func one() wide.W { return wide.Shl(wide.Of(1), Bits) }

// series is term, less a second one, and a third one, and so on: each is the one ahead of it times the square of x, that is 1 at most, parted by the next two whole numbers from by on. No term is more than half of the one ahead of it, so that no sum on the way is below 0.
func series(term, x wide.W, by uint64) wide.W {
	square, _ := Mul(x, x)
	sum := term
	for k := range uint64(terms) {
		term = part(term, square, by+2*k)
		if term == (wide.W{}) {
			// All others are 0, too: small angles need but few.
			break
		}
		if k%2 == 0 {
			sum = less(sum, term)
		} else {
			sum = plus(sum, term)
		}
	}
	return sum
}

// part is the term after one: times square, parted by n and n + 1. If that one was cut by less than 2 last bits, the product is off by less than 4 (the square and the product are cut by less than 1, and no factor is above 1). So the quotient is off by less than 2 again where it is by 6 or more; where it is by 2, the term is 1 and was not cut.
func part(term, square wide.W, n uint64) wide.W {
	product, _ := Mul(term, square)
	quotient, _, _ := wide.DivMod(product, wide.Of(n*(n+1)))
	return quotient
}

// bounds are the numbers between which the sum lies that was found but for slack; neither is below 0.
func bounds(sum wide.W) (wide.W, wide.W) {
	off := wide.Of(slack)
	low, below := wide.Sub(sum, off)
	if below {
		low = wide.Of(0)
	}
	return low, plus(sum, off)
}
