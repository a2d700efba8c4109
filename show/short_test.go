package show_test

import (
	"strconv"
	"testing"

	"tiller/api"
	"tiller/read"
	"tiller/show"
)

// SH1: the examples of the chapter and of the document.
func TestShortExamples(t *testing.T) {
	wantShort(t, tenth, "1e-1")
	wantShort(t, patternOf(t, "3"), "3e0")
	wantShort(t, one, "1e0")
}

// SH1: what is no number has no sign; Endless and 0 have one.
func TestShortNames(t *testing.T) {
	for _, p := range noNumbers() {
		if s := show.Short(p); s != "nan" {
			t.Errorf("Short(%#x): %s", p, brief(s))
		}
	}
	wantShort(t, inf, "inf")
	wantShort(t, 0, "0e0")
}

// SH1: texts that are told here, of every count of digits, of each class, and at the named edges.
func TestShortTexts(t *testing.T) {
	for _, c := range []struct {
		p uint64
		s string
	}{
		// the least ones: of many texts of one digit the nearest
		{1, "5e-324"}, {2, "1e-323"}, {3, "1.5e-323"}, {4, "2e-323"}, {5, "2.5e-323"}, {6, "3e-323"}, {7, "3.5e-323"}, {8, "4e-323"}, {9, "4.4e-323"}, {20, "1e-322"},
		// about the least plain one
		{mostTiny - 1, "2.2250738585072004e-308"}, {mostTiny, "2.225073858507201e-308"}, {leastBig, "2.2250738585072014e-308"}, {leastBig + 1, "2.225073858507202e-308"}, {2 * leastBig, "4.450147717014403e-308"},
		// the greatest
		{last, "1.7976931348623157e308"}, {last - 1, "1.7976931348623155e308"}, {0x7fe0000000000000, "8.98846567431158e307"},
		// of one digit, with a power that is 0, below 0 and of three digits
		{half, "5e-1"}, {one, "1e0"}, {0x4000000000000000, "2e0"}, {0x4008000000000000, "3e0"}, {0x4022000000000000, "9e0"}, {ten, "1e1"}, {0x4059000000000000, "1e2"}, {0x54b249ad2594c37d, "1e100"}, {0x2b2bff2ee48e0530, "1e-100"}, {0x7fe1ccf385ebc8a0, "1e308"},
		// of some
		{0x3ff8000000000000, "1.5e0"}, {0x3fd0000000000000, "2.5e-1"}, {0x40c81c8000000000, "1.2345e4"}, {0x412e848000000000, "1e6"}, {0x419d6f3454000000, "1.23456789e8"}, {0x400921fb54442d18, "3.141592653589793e0"},
		// of sixteen and of seventeen
		{third, "3.333333333333333e-1"}, {third + 0x10000000000000, "6.666666666666666e-1"}, {0x3ff6a09e667f3bcd, "1.4142135623730951e0"}, {tenth + 1, "1.0000000000000002e-1"}, {tenth - 1, "9.999999999999999e-2"}, {0x3fd3333333333334, "3.0000000000000004e-1"}, {one + 1, "1.0000000000000002e0"}, {one - 1, "9.999999999999999e-1"}, {0x433fffffffffffff, "9.007199254740991e15"}, {0x4340000000000000, "9.007199254740992e15"}, {0x4340000000000001, "9.007199254740994e15"},
	} {
		wantShort(t, c.p, c.s)
	}
}

// SH1: the nearest of texts of the fewest digits, both of which are read as the pattern.
func TestShortNearest(t *testing.T) {
	for _, c := range []struct{ near, far string }{
		{"5e-324", "4e-324"}, {"5e-324", "7e-324"}, {"5e-324", "3e-324"}, {"1e-323", "9e-324"}, {"1e-323", "8e-324"}, {"1.5e-323", "1.4e-323"}, {"1e-322", "1.01e-322"},
		// 2^56 and 32, whose neighbours are 16 away: ..968 lies between ..960 and ..970, and its last bit is not set
		{"7.205759403792797e16", "7.205759403792796e16"},
	} {
		p := patternOf(t, c.far)
		wantShort(t, p, c.near)
		if patternOf(t, c.near) != p {
			t.Errorf("%s and %s are read as different patterns", c.near, c.far)
		}
	}
}

// SH1: of two that are as near the one whose last digit is even: numbers just between two texts of seventeen digits, that both are read as them.
func TestShortAsNear(t *testing.T) {
	for _, c := range []struct{ all, even, odd string }{
		{"1125899906842624.25", "1.1258999068426242e15", "1.1258999068426243e15"},
		{"1125899906842624.75", "1.1258999068426248e15", "1.1258999068426247e15"},
		{"1125899906842625.25", "1.1258999068426252e15", "1.1258999068426253e15"},
		{"2251799813685247.25", "2.2517998136852472e15", "2.2517998136852473e15"},
		{"2251799813685247.75", "2.2517998136852478e15", "2.2517998136852477e15"},
	} {
		p, flags, err := read.Parse(c.all, api.Even)
		if flags != 0 || err != nil {
			t.Fatalf("%s: %d, %v", c.all, flags, err)
		}
		wantShort(t, p, c.even)
		if patternOf(t, c.odd) != p {
			t.Errorf("%s is not read as %s", c.odd, c.all)
		}
	}
}

// SH1: a text that lies where reading turns belongs to the pattern whose last bit is not set, and is told of that one alone.
func TestShortTurns(t *testing.T) {
	wantShort(t, 0x44b52d02c7e14af6, "1e23")
	wantShort(t, 0x44b52d02c7e14af7, "1.0000000000000001e23")
	wantShort(t, 0x44b52d02c7e14af5, "9.999999999999997e22")
	// 2^54, whose neighbour above is 4 away, and 18014398509481986 just between
	wantShort(t, 0x4350000000000000, "1.8014398509481984e16")
	wantShort(t, 0x4350000000000001, "1.8014398509481988e16")
	wantShort(t, 0x4350000000000002, "1.801439850948199e16")
	// 9007199254740993 is read as the one below it, and 9007199254740995 as the one above.
	wantShort(t, patternOf(t, "9007199254740993"), "9.007199254740992e15")
	wantShort(t, patternOf(t, "9007199254740995"), "9.007199254740996e15")
}

// SH1: below a power of two the neighbour is half as far away: the nearest text of sixteen digits of 2^-44 is read as that neighbour, and the other one as 2^-44.
func TestShortHalfAsFar(t *testing.T) {
	p := uint64(1023-44) << 52
	wantShort(t, p, "5.684341886080802e-14")
	if patternOf(t, "5.684341886080801e-14") == p {
		t.Error("5.684341886080801e-14 is read as 2^-44")
	}
	if s, err := show.Digits(p, 16, api.Even); s != "5.684341886080801e-14" || err != nil {
		t.Errorf("2^-44 is nearest to %s, %v", s, err)
	}
}

// SH1: powers of two and their neighbours, all of them.
func TestShortPowersOfTwo(t *testing.T) {
	for i, p := range powers() {
		if s := libraryText(t, p, 0); show.Short(p) != s {
			t.Errorf("Short(%#x): %s; want %s", p, show.Short(p), s)
		}
		if i%7 == 0 {
			wantShort(t, p, shortOf(t, p))
		}
	}
}

// SH1: powers of ten, all of them, and their neighbours.
func TestShortPowersOfTen(t *testing.T) {
	for n := -323; n <= 308; n++ {
		s := "1e" + strconv.Itoa(n)
		p := patternOf(t, s)
		wantShort(t, p, s)
		for _, q := range []uint64{p - 1, p + 1} {
			wantShort(t, q, libraryText(t, q, 0))
		}
		if n%9 == 0 {
			wantShort(t, p-1, shortOf(t, p-1))
			wantShort(t, p+1, shortOf(t, p+1))
		}
	}
}

// SH1: what was written with few digits is told by them.
func TestShortFewDigits(t *testing.T) {
	m := mixer{3}
	for range 10_000 {
		digits := m.Below(9) + 1
		s := strconv.Itoa(digits)
		if n := m.Below(15); n > 0 {
			s += "."
			for range n - 1 {
				s += strconv.Itoa(m.Below(10))
			}
			s += strconv.Itoa(m.Below(9) + 1)
		}
		s += "e" + strconv.Itoa(m.Below(580)-290)
		wantShort(t, patternOf(t, s), s)
		if t.Failed() {
			return
		}
	}
}

// SH1, all of it: the edges, and odd patterns, against what is found by reading.
func TestShortByReading(t *testing.T) {
	for _, p := range edges() {
		wantShort(t, p, shortOf(t, p))
	}
	for p := uint64(1); p <= 300; p++ {
		wantShort(t, p, shortOf(t, p))
	}
	m := mixer{5}
	for range 1_000 {
		p := m.finite()
		wantShort(t, p, shortOf(t, p))
		if t.Failed() {
			return
		}
	}
}

// SH1: what the machine's library writes.
func TestShortAsTheLibrary(t *testing.T) {
	for p := uint64(1); p < 5_000; p++ {
		wantShort(t, p, libraryText(t, p, 0))
	}
	m := mixer{7}
	for range 20_000 {
		p := m.finite()
		wantShort(t, p, libraryText(t, p, 0))
		if t.Failed() {
			return
		}
	}
}
