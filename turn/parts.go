package turn

import (
	"tiller/api"
	"tiller/fix"
	"tiller/rnd"
	"tiller/wide"
)

// parts are k parts of a turn of n, k from 0 to n - 1.
type parts struct{ k, n int }

// partsOf are any k parts, told by those within one turn that end at the same point.
func partsOf(k, n int) (parts, error) {
	if n < 1 || n > MaxParts {
		return parts{}, api.ErrArg
	}
	return parts{within(k, n), n}, nil
}

// within is k modulo n, from 0 to n - 1.
func within(k, n int) int {
	rest := k % n
	if rest < 0 {
		rest += n
	}
	return rest
}

func (p parts) point() api.Pair { return api.Pair{Re: p.cosine(), Im: p.sine()} }

// cosine counts parts that are a quarter as great, so that a quarter of every turn is a whole number of them.
func (p parts) cosine() uint64 { return cosine(4*p.k, 4*p.n) }

// sine is the cosine of a quarter of a turn less.
func (p parts) sine() uint64 { return cosine(within(4*p.k-p.n, 4*p.n), 4*p.n) }

// cosine is that of k parts, from 0 to n - 1, of a turn of n, a multiple of 4.
func cosine(k, n int) uint64 {
	half, quarter := n/2, n/4
	if k > half {
		k = n - k
	}
	minus := k > quarter
	if minus {
		k = half - k
	}
	p, _ := rnd.Round(rnd.Num{Minus: minus, Exp: -fix.Bits, Sig: near(k, n)}, api.Even)
	return p
}

// near is the cosine of k parts, a quarter of a turn at most, but for less than 2^-235; what is 0 is just 0, since a lower bound of it can't be anything else. So it is rounded as the cosine itself: 0, a half and 1, the only fractions among them, are far from any middle of two patterns; and that one of all others, fewer than 2^52, lies within 2^-235 of such a middle, a multiple of 2^-79, is less likely than 1 in 2^100.
func near(k, n int) wide.W {
	var low wide.W
	if 8*k <= n {
		low, _, _ = fix.Cos(angle(k, n))
	} else {
		// Of more than an eighth it is the sine of what lacks to a quarter: angles are 1 at most in fix.
		low, _, _ = fix.Sin(angle(n/4-k, n))
	}
	return low
}

// angle is that of k parts, an eighth of a turn at most, but for less than 5 last bits: the quotient, that counts for Pi times as much, Pi itself and the product are each cut by less than one.
func angle(k, n int) wide.W {
	quotient, _ := fix.Of(uint64(2*k), uint64(n))
	product, _ := fix.Mul(quotient, fix.Pi())
	return product
}
