package nat

import (
	"slices"
	"strings"

	"tiller/api"
)

const (
	maxDigits   = 20_000 // of a text that is read
	pieceDigits = 9      // as many as always fit a word
	pieceSize   = 1_000_000_000
)

// Decimal is a number's digits.
func Decimal(a N) (string, error) {
	if err := Check(a); err != nil {
		return "", err
	}
	if len(a) == 0 {
		return "0", nil
	}
	rest := make(N, len(a))
	copy(rest, a)
	var digits []byte // the lowest first
	for len(rest) > 0 {
		piece := takePiece(rest)
		for range pieceDigits {
			digits = append(digits, byte('0'+piece%10))
			piece /= 10
		}
		rest = trim(rest)
	}
	slices.Reverse(digits)
	return strings.TrimLeft(string(digits), "0"), nil
}

// takePiece parts words by 10^9, and answers the rest.
func takePiece(words N) uint32 {
	var rest uint64
	for i := len(words) - 1; i >= 0; i-- {
		rest = rest<<wordBits | uint64(words[i])
		words[i] = uint32(rest / pieceSize)
		rest %= pieceSize
	}
	return uint32(rest)
}

// Parse is the number of digits.
func Parse(s string) (N, error) {
	odd := func(r rune) bool { return r < '0' || r > '9' }
	if s == "" || strings.ContainsFunc(s, odd) {
		return nil, api.ErrForm
	}
	if len(s) > maxDigits {
		return nil, api.ErrLong
	}
	words := make(N, 0, len(s)/pieceDigits+1)
	for s != "" {
		// The first piece is the short one, so that each one behind it is of nine digits.
		end := (len(s)-1)%pieceDigits + 1
		words = putPiece(words, s[:end])
		s = s[end:]
	}
	return trim(words), nil
}

// putPiece is words times 10^9 and the digits of a piece.
func putPiece(words N, piece string) N {
	carry := uint64(0)
	for i := range len(piece) {
		carry = carry*10 + uint64(piece[i]-'0')
	}
	for i, x := range words {
		carry += uint64(x) * pieceSize
		words[i] = uint32(carry)
		carry >>= wordBits
	}
	if carry != 0 {
		words = append(words, uint32(carry))
	}
	return words
}
