package show

import (
	"strings"

	"tiller/api"
	"tiller/nat"
	"tiller/pat"
)

// decimal is digits, and the power of ten of the first one.
type decimal struct {
	digits string
	power  int
}

// exact is a pattern that is not 0, with all its digits. A half is five tenths: below 1 they are those of a power of 5. None of it is so long that nat has no room for it.
func exact(x pat.Parts) decimal {
	unit, _ := nat.Pow(5, max(-x.Exp, 0))
	unit, _ = nat.Shl(unit, max(x.Exp, 0))
	all, _ := nat.Mul(nat.Of(x.Sig), unit)
	digits, _ := nat.Decimal(all)
	return decimal{digits, len(digits) - 1 + min(x.Exp, 0)}
}

// round is a decimal as n digits.
func round(d decimal, n int, minus bool, m api.Mode) decimal {
	if len(d.digits) <= n {
		return decimal{d.digits + noughts(n-len(d.digits)), d.power}
	}
	kept, rest := d.digits[:n], d.digits[n:]
	if goesUp(kept, rest, minus, m) {
		kept = next(kept)
	}
	return carried(kept, n, d.power)
}

// goesUp tells whether digits are rounded to the next ones up, by the rest that is cut off behind them, as layer 4 rounds a size to multiples.
func goesUp(kept, rest string, minus bool, m api.Mode) bool {
	rest = strings.TrimRight(rest, "0")
	if rest == "" {
		return false
	}
	half := strings.Compare(rest, "5")
	switch m {
	case api.Zero:
		return false
	case api.Up:
		return !minus
	case api.Down:
		return minus
	case api.Away:
		return half >= 0
	}
	odd := (kept[len(kept)-1]-'0')%2 == 1
	return half > 0 || half == 0 && odd
}

// next are the digits of the next whole number, one more of them, if all were nines.
func next(digits string) string {
	kept := strings.TrimRight(digits, "9")
	behind := noughts(len(digits) - len(kept))
	if kept == "" {
		return "1" + behind
	}
	end := len(kept) - 1
	return kept[:end] + string(kept[end]+1) + behind
}

// carried is n digits, the first of that power of ten; where next has made one more of them, a nought is cut off, and the power is raised.
func carried(digits string, n, power int) decimal {
	return decimal{digits[:n], power + len(digits) - n}
}

func noughts(n int) string { return strings.Repeat("0", n) }
