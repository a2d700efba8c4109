package plan

import (
	"strconv"
	"strings"
)

const (
	byParts = "="
	padded  = "~"
	between = "x"
	noParts = "1"

	longest = 56 // bytes of a plan's text: 2^24 by 2s alone
)

// told is the text of a plan that may be.
func told(p Plan) string {
	n := strconv.Itoa(p.N)
	if p.Pad != 0 {
		return n + padded + strconv.Itoa(p.Pad)
	}
	if len(p.Radix) == 0 {
		return n + byParts + noParts
	}
	var parts []string
	for _, length := range p.Radix {
		parts = append(parts, strconv.Itoa(length))
	}
	return n + byParts + strings.Join(parts, between)
}

// taken is a plan that has a text, if any has: it is told again to see whether it does.
func taken(s string) Plan {
	if len(s) > longest {
		return Plan{}
	}
	if n, pad, ok := strings.Cut(s, padded); ok {
		return Plan{N: number(n), Pad: number(pad)}
	}
	n, parts, _ := strings.Cut(s, byParts)
	p := Plan{N: number(n)}
	if parts == noParts {
		return p
	}
	for part := range strings.SplitSeq(parts, between) {
		p.Radix = append(p.Radix, number(part))
	}
	return p
}

// number is a text's, or 0, which no plan has in its text, of what is none.
func number(s string) int {
	n, err := strconv.Atoi(s)
	if err != nil {
		return 0
	}
	return n
}
