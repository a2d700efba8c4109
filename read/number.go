package read

import (
	"tiller/nat"
	"tiller/rnd"
	"tiller/wide"
)

const (
	// Where rounding turns from one pattern to the next, and where Underflow begins, lie numbers of at most 54 bits that are multiples of 2^-1076: none of them has more than 769 digits, or 15 of base 16.
	mostTens     = 800
	mostSixteens = 60

	farTens      = 400 // what is 10^399 or more, or below 10^-400, is rounded as any other such number is
	digitBits    = 4   // of base 16
	quotientBits = 128 // more than rounding looks at
	wordBits     = 32  // of nat; two of its words are one of wide
	highWords    = 8   // as many of nat's as wide has room for
)

// numberOf is the number that a numeral denotes, or one that is rounded as that is, with the same flags.
func numberOf(n numeral) rnd.Num {
	if n.digits == "" {
		return rnd.Num{}
	}
	if n.base == sixteenBase {
		digits := shorten(n.digits, mostSixteens)
		return rnd.Num{Exp: n.power + digitBits*(n.ahead-len(digits)), Sig: sixteens(digits)}
	}
	digits := shorten(n.digits, mostTens)
	ahead := min(max(n.ahead+n.power, -farTens), farTens)
	return tens(digits, ahead-len(digits))
}

// shorten is digits, the last one not 0; or so many of them, if there are more, and a 1 for all behind them: that lies between the same two numbers of so many digits, and so is rounded alike.
func shorten(digits string, most int) string {
	if len(digits) <= most {
		return digits
	}
	return digits[:most] + "1"
}

// sixteens is the number of digits of base 16.
func sixteens(digits string) wide.W {
	var sum wide.W
	for i := range len(digits) {
		sum, _ = wide.Add(wide.Shl(sum, digitBits), wide.Of(uint64(digitValue(digits[i]))))
	}
	return sum
}

// tens is the number of decimal digits, times a power of 10. Neither is so long that nat has no room for it.
func tens(digits string, power int) rnd.Num {
	a, _ := nat.Parse(digits)
	if power >= 0 {
		times, _ := nat.Pow(tenBase, power)
		a, _ = nat.Mul(a, times)
		return highest(a, 0, false)
	}
	by, _ := nat.Pow(tenBase, -power)
	up := max(nat.Len(by)+quotientBits-nat.Len(a), 0)
	a, _ = nat.Shl(a, up)
	quotient, rest, _ := nat.DivMod(a, by)
	return highest(quotient, -up, len(rest) > 0)
}

// highest is a number times 2^exp, and some more, if more, by its highest words: what lies below them, far below where rounding looks, is told by More alone.
func highest(a nat.N, exp int, more bool) rnd.Num {
	low := max(len(a)-highWords, 0)
	x := rnd.Num{Exp: exp + wordBits*low, More: more}
	for _, word := range a[:low] {
		x.More = x.More || word != 0
	}
	for i, word := range a[low:] {
		x.Sig[i/2] |= uint64(word) << uint(i%2*wordBits)
	}
	return x
}
