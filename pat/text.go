package pat

import "tiller/api"

const (
	digitBits = 4
	digitMask = 1<<digitBits - 1
	maxDigits = 64 / digitBits
	digits    = "0123456789abcdef"
)

// Hex are a pattern's digits.
func Hex(p uint64) string {
	var text [maxDigits]byte
	for i := maxDigits - 1; i >= 0; i-- {
		text[i] = digits[p&digitMask]
		p >>= digitBits
	}
	return string(text[:])
}

// Parse is the pattern of digits.
func Parse(s string) (uint64, error) {
	if len(s) < 1 || len(s) > maxDigits {
		return 0, api.ErrForm
	}
	var p uint64
	for _, c := range s {
		value, ok := digitValue(c)
		if !ok {
			return 0, api.ErrForm
		}
		p = p<<digitBits | value
	}
	return p, nil
}

// digitValue is what a digit of base 16 stands for, and whether c is one; great letters are none.
func digitValue(c rune) (uint64, bool) {
	switch {
	case c >= '0' && c <= '9':
		return uint64(c - '0'), true
	case c >= 'a' && c <= 'f':
		return uint64(c-'a') + 10, true
	}
	return 0, false
}
