package plan

import (
	"tiller/api"
)

// radix is the length of a little transform, and by how much that may be wrong.
type radix struct {
	length, wrong int
}

// radices stand in the order in which a length is parted by them.
var radices = [...]radix{
	{4, 12},
	{2, 8},
	{3, 3 * (3 + 8)},
	{5, 5 * (5 + 8)},
	{7, 7 * (7 + 8)},
	{11, 11 * (11 + 8)},
	{13, 13 * (13 + 8)},
}

// find is the radix of a length, if there is one.
func find(length int) (radix, bool) {
	for _, r := range radices {
		if r.length == length {
			return r, true
		}
	}
	return radix{}, false
}

// parted are the radices of a number above 0, and what is left of it.
func parted(n int) (lengths []int, left int) {
	for _, r := range radices {
		for n%r.length == 0 {
			lengths = append(lengths, r.length)
			n /= r.length
		}
	}
	return lengths, n
}

// core is the length that a plan does part by part, and its radices.
func core(p Plan) (n int, lengths []int) {
	if p.Pad == 0 {
		return p.N, p.Radix
	}
	lengths, _ = parted(p.Pad)
	return p.Pad, lengths
}

// product is that of radices, or 0 where one is none, or where it is above MaxLen.
func product(lengths []int) int {
	n := 1
	for _, length := range lengths {
		if _, ok := find(length); !ok || n > api.MaxLen/length {
			return 0
		}
		n *= length
	}
	return n
}

func goesByParts(p Plan) bool { return p.Pad == 0 && product(p.Radix) == p.N }

func goesPadded(p Plan) bool {
	power := p.Pad&(p.Pad-1) == 0
	return len(p.Radix) == 0 && power && p.Pad >= 2*p.N-1 && p.Pad <= MaxPad
}

// leastPad is the least power of two by which a length may be padded.
func leastPad(n int) int {
	pad := 1
	for pad < 2*n-1 {
		pad *= 2
	}
	return pad
}

// wrong is by how much transforms by radices may be wrong.
func wrong(lengths []int) int {
	sum := 0
	for _, length := range lengths {
		r, _ := find(length)
		sum += r.wrong
	}
	return sum
}

// littles is how many little transforms there are of n numbers by radices.
func littles(n int, lengths []int) int {
	sum := 0
	for _, length := range lengths {
		sum += n / length
	}
	return sum
}

// root is the least number whose square is at least n.
func root(n int) int {
	s := 1
	for s*s < n {
		s++
	}
	return s
}
