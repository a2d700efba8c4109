package read

import "strings"

const (
	tenBase     = 10
	sixteenBase = 16

	// farPower is so great that no text has the digits to make up for it: whole numbers beyond it are not told apart.
	farPower = 10_000_000
)

// numeral is a text of digits, taken apart: nought, point and its digits, times base to the power of ahead, times 10 (of base 16: 2) to that of power.
type numeral struct {
	base   int
	digits string // from the first one that is not 0 to the last one; none of 0
	ahead  int    // how many of them stand ahead of the point; below 0, if noughts stand between
	power  int
}

// takeSign is whether a text begins with -, and what is left of it without its sign.
func takeSign(s string) (bool, string) {
	if rest, ok := strings.CutPrefix(s, "-"); ok {
		return true, rest
	}
	return false, strings.TrimPrefix(s, "+")
}

// numeralOf is that of a text without sign, and whether it is one. Only a decimal one may end with its digits.
func numeralOf(s string) (numeral, bool) {
	base, mark := tenBase, "e"
	s, sixteen := strings.CutPrefix(s, "0x")
	if sixteen {
		base, mark = sixteenBase, "p"
	}
	n, rest, ok := takeDigits(s, base)
	if !ok || rest == "" {
		return n, ok && !sixteen
	}
	whole, ok := strings.CutPrefix(rest, mark)
	if !ok {
		return numeral{}, false
	}
	n.power, ok = wholeNumber(whole)
	return n, ok
}

// takeDigits takes digits, with one point at most, off a text: what they are, what is left, and whether there is a digit.
func takeDigits(s string, base int) (numeral, string, bool) {
	end, point := 0, false
taking:
	for ; end < len(s); end++ {
		switch c := s[end]; {
		case digitValue(c) < base:
		case c == '.' && !point:
			point = true
		default:
			break taking
		}
	}
	ahead, behind, _ := strings.Cut(s[:end], ".")
	all := ahead + behind
	digits := strings.TrimLeft(all, "0")
	n := numeral{
		base:   base,
		digits: strings.TrimRight(digits, "0"),
		ahead:  len(ahead) - (len(all) - len(digits)),
	}
	return n, s[end:], all != ""
}

// wholeNumber is that of a text, or as far as powers go, and whether it is one.
func wholeNumber(s string) (int, bool) {
	minus, digits := takeSign(s)
	n := 0
	for i := range len(digits) {
		value := digitValue(digits[i])
		if value >= tenBase {
			return 0, false
		}
		n = min(n*tenBase+value, farPower)
	}
	if minus {
		n = -n
	}
	return n, digits != ""
}

// digitValue is what a digit stands for; of what is none it is too great for every base.
func digitValue(c byte) int {
	switch {
	case c >= '0' && c <= '9':
		return int(c - '0')
	case c >= 'a' && c <= 'f':
		return int(c-'a') + 10
	}
	return sixteenBase
}
