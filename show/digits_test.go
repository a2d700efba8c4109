package show_test

import (
	"math"
	"math/big"
	"strconv"
	"strings"
	"testing"

	"tiller/aid"
	"tiller/api"
	"tiller/show"
)

// counts are numbers of digits that may be.
func counts() []int { return []int{1, 2, 3, 16, 17, 18, 308, 309, 310, 767, 768, 999, most} }

// SH2: too few and too many digits are ErrArg, whatever the pattern and the mode are, and nothing is beside it.
func TestDigitsCount(t *testing.T) {
	for _, p := range append(append(noNumbers(), edges()...), 0, minus, inf, inf+minus, one+minus, last+minus) {
		for _, m := range aid.AllModes() {
			for _, n := range []int{math.MinInt, -1 << 32, -1001, -1000, -17, -1, 0, 1001, 1002, 1 << 16, 1 << 32, 1<<32 + 1, math.MaxInt} {
				if s, err := show.Digits(p, n, m); s != "" || aid.Errno(err) != int(api.ErrArg) {
					t.Errorf("Digits(%#x, %d, %d): %s, %v", p, n, m, brief(s), err)
				}
			}
		}
		for _, n := range []int{1, 2, 17, most} {
			if _, err := show.Digits(p, n, api.Even); err != nil {
				t.Errorf("Digits(%#x, %d): %v", p, n, err)
			}
		}
	}
}

// SH2: what is no number, and Endless, are as Short has them; 0 is so many noughts.
func TestDigitsNames(t *testing.T) {
	for _, n := range counts() {
		for _, p := range noNumbers() {
			for _, m := range aid.AllModes() {
				wantDigits(t, p, n, m, "nan")
			}
		}
		wantAll(t, inf, n, "inf")
	}
	wantAll(t, 0, 1, "0e0")
	wantAll(t, 0, 2, "0.0e0")
	wantAll(t, 0, 3, "0.00e0")
	for _, n := range counts()[1:] {
		wantAll(t, 0, n, "0."+strings.Repeat("0", n-1)+"e0")
	}
}

// SH2: the example of the chapter; and more digits than the pattern has, so that noughts stand behind.
func TestDigitsNoughtsBehind(t *testing.T) {
	wantAll(t, one, 3, "1.00e0")
	wantAll(t, one, 1, "1e0")
	wantAll(t, one, 2, "1.0e0")
	wantAll(t, half, 2, "5.0e-1")
	wantAll(t, ten, 1, "1e1")
	wantAll(t, ten, 4, "1.000e1")
	wantAll(t, 0x3ff8000000000000, 2, "1.5e0")
	wantAll(t, 0x3ff8000000000000, 3, "1.50e0")
	wantAll(t, patternOf(t, "1e300"), 1000, exactText(patternOf(t, "1e300"), 1000))
	wantAll(t, tenth, 55, "1.000000000000000055511151231257827021181583404541015625e-1")
	wantAll(t, tenth, 56, "1.0000000000000000555111512312578270211815834045410156250e-1")
	wantAll(t, tenth, most, "1.000000000000000055511151231257827021181583404541015625"+strings.Repeat("0", 945)+"e-1")
	for _, p := range edges() {
		n := len(allDigits(p))
		for _, more := range []int{0, 1, 2, most - n} {
			wantAll(t, p, n+more, exactText(p, n+more))
		}
	}
}

// allDigits are a pattern's digits, from the first one that is not 0 to the last one.
func allDigits(p uint64) string {
	v := sizeOf(p)
	places, _ := v.FloatPrec()
	return strings.Trim(strings.ReplaceAll(v.FloatString(places), ".", ""), "0")
}

// exactText is a pattern's text of n digits, where it has no more.
func exactText(p uint64, n int) string {
	digits := allDigits(p)
	digits += strings.Repeat("0", n-len(digits))
	whole, _ := new(big.Int).SetString(digits, 10)
	return text(whole, log(sizeOf(p))-n+1, n)
}

// SH2: the digit counts at which a pattern's digits end: the most that one has is 767.
func TestDigitsOfAll(t *testing.T) {
	for p, n := range map[uint64]int{1: 751, mostTiny: 767, leastBig: 715, 2*leastBig - 1: 767, last: 309, one + 1: 53, tenth: 55} {
		if got := len(allDigits(p)); got != n {
			t.Fatalf("%#x has %d digits", p, got)
		}
		low, high := digitsOf(p, n-1, api.Zero), digitsOf(p, n-1, api.Up)
		if low == high {
			t.Fatalf("%#x has fewer digits", p)
		}
		wantAll(t, p, n, exactText(p, n))
		wantRow(t, p, n-1, turned(digitsOf(p, n-1, api.Even), digitsOf(p, n-1, api.Away), low, high))
	}
}

// SH2: whole numbers are told with all their digits.
func TestDigitsWholes(t *testing.T) {
	wantAll(t, 0x419d6f3454000000, 9, "1.23456789e8")
	wantAll(t, 0x4340000000000001, 16, "9.007199254740994e15")
	wantAll(t, 0x44b52d02c7e14af6, 23, "9.9999999999999991611392e22")
	for n := range 1024 {
		whole := new(big.Int).Lsh(big.NewInt(1), uint(n)).String()
		s := whole[:1]
		if len(whole) > 1 {
			s += "." + whole[1:]
		}
		wantDigits(t, uint64(n+1023)<<52, len(whole), api.Mode(n%5), s+"e"+strconv.Itoa(len(whole)-1))
	}
	whole := new(big.Int).Lsh(big.NewInt(1<<53-1), 971).String()
	wantAll(t, last, len(whole), whole[:1]+"."+whole[1:]+"e308")
}

// SH2: what lies just between two texts of n digits, and its neighbours, by every mode and of both signs.
func TestDigitsBetween(t *testing.T) {
	for _, c := range []struct {
		number    string
		n         int
		even      string
		low, high string
	}{
		{"1.5", 1, "2e0", "1e0", "2e0"},
		{"2.5", 1, "2e0", "2e0", "3e0"},
		{"3.5", 1, "4e0", "3e0", "4e0"},
		{"8.5", 1, "8e0", "8e0", "9e0"},
		{"25", 1, "2e1", "2e1", "3e1"},
		{"35", 1, "4e1", "3e1", "4e1"},
		{"0.125", 2, "1.2e-1", "1.2e-1", "1.3e-1"},
		{"0.375", 2, "3.8e-1", "3.7e-1", "3.8e-1"},
		{"0.0625", 2, "6.2e-2", "6.2e-2", "6.3e-2"},
		{"1.25", 2, "1.2e0", "1.2e0", "1.3e0"},
		{"1.75", 2, "1.8e0", "1.7e0", "1.8e0"},
		{"10.5", 2, "1.0e1", "1.0e1", "1.1e1"},
		{"19.5", 2, "2.0e1", "1.9e1", "2.0e1"},
		{"2.125", 3, "2.12e0", "2.12e0", "2.13e0"},
		{"1000.5", 4, "1.000e3", "1.000e3", "1.001e3"},
		{"1125899906842624.5", 16, "1.125899906842624e15", "1.125899906842624e15", "1.125899906842625e15"},
		{"1125899906842625.5", 16, "1.125899906842626e15", "1.125899906842625e15", "1.125899906842626e15"},
		// rounded up to one digit more
		{"9.5", 1, "1e1", "9e0", "1e1"},
		{"95", 1, "1e2", "9e1", "1e2"},
		{"99.5", 2, "1.0e2", "9.9e1", "1.0e2"},
		{"999.5", 3, "1.00e3", "9.99e2", "1.00e3"},
		{"9999.5", 4, "1.000e4", "9.999e3", "1.000e4"},
		{"999999999999999.5", 15, "1.00000000000000e15", "9.99999999999999e14", "1.00000000000000e15"},
	} {
		p := patternOf(t, c.number)
		wantRow(t, p, c.n, turned(c.even, c.high, c.low, c.high))
		if len(allDigits(p)) != c.n+1 || !strings.HasSuffix(allDigits(p), "5") {
			t.Fatalf("%s lies not between two texts of %d digits", c.number, c.n)
		}
		wantRow(t, p+1, c.n, turned(c.high, c.high, c.low, c.high))
		wantRow(t, p-1, c.n, turned(c.low, c.low, c.low, c.high))
	}
	// Of these the neighbours are texts of seventeen digits themselves.
	wantRow(t, patternOf(t, "1125899906842624.25"), 17, turned("1.1258999068426242e15", "1.1258999068426243e15", "1.1258999068426242e15", "1.1258999068426243e15"))
	wantRow(t, patternOf(t, "1125899906842624.75"), 17, turned("1.1258999068426248e15", "1.1258999068426248e15", "1.1258999068426247e15", "1.1258999068426248e15"))
	wantAll(t, patternOf(t, "1125899906842624.5"), 17, "1.1258999068426245e15")
}

// SH2: what is not just between is rounded to the nearer one; what is rounded up may have another power.
func TestDigitsNear(t *testing.T) {
	for _, c := range []struct {
		p                uint64
		n                int
		near, low, above string
	}{
		{patternOf(t, "9.99"), 2, "1.0e1", "9.9e0", "1.0e1"},
		{patternOf(t, "9.99"), 1, "1e1", "9e0", "1e1"},
		{patternOf(t, "9.99"), 3, "9.99e0", "9.99e0", "1.00e1"},
		{patternOf(t, "9.94"), 2, "9.9e0", "9.9e0", "1.0e1"},
		{patternOf(t, "0.999"), 2, "1.0e0", "9.9e-1", "1.0e0"},
		{patternOf(t, "0.0999"), 2, "1.0e-1", "9.9e-2", "1.0e-1"},
		{patternOf(t, "9.99e99"), 2, "1.0e100", "9.9e99", "1.0e100"},
		{patternOf(t, "9.99e-101"), 2, "1.0e-100", "9.9e-101", "1.0e-100"},
		{one - 1, 1, "1e0", "9e-1", "1e0"},
		{one - 1, 15, "1.00000000000000e0", "9.99999999999999e-1", "1.00000000000000e0"},
		{one - 1, 16, "9.999999999999999e-1", "9.999999999999998e-1", "9.999999999999999e-1"},
		{one + 1, 1, "1e0", "1e0", "2e0"},
		{one + 1, 16, "1.000000000000000e0", "1.000000000000000e0", "1.000000000000001e0"},
		{one + 1, 17, "1.0000000000000002e0", "1.0000000000000002e0", "1.0000000000000003e0"},
		{tenth, 1, "1e-1", "1e-1", "2e-1"},
		{tenth, 17, "1.0000000000000001e-1", "1.0000000000000000e-1", "1.0000000000000001e-1"},
		{third, 1, "3e-1", "3e-1", "4e-1"},
		{third, 2, "3.3e-1", "3.3e-1", "3.4e-1"},
		{third, 17, "3.3333333333333331e-1", "3.3333333333333331e-1", "3.3333333333333332e-1"},
		{1, 1, "5e-324", "4e-324", "5e-324"},
		{1, 2, "4.9e-324", "4.9e-324", "5.0e-324"},
		{1, 17, "4.9406564584124654e-324", "4.9406564584124654e-324", "4.9406564584124655e-324"},
		{2, 1, "1e-323", "9e-324", "1e-323"},
		{mostTiny, 17, "2.2250738585072009e-308", "2.2250738585072008e-308", "2.2250738585072009e-308"},
		{leastBig, 17, "2.2250738585072014e-308", "2.2250738585072013e-308", "2.2250738585072014e-308"},
		{last, 1, "2e308", "1e308", "2e308"},
		{last, 2, "1.8e308", "1.7e308", "1.8e308"},
		{last, 17, "1.7976931348623157e308", "1.7976931348623157e308", "1.7976931348623158e308"},
	} {
		wantRow(t, c.p, c.n, turned(c.near, c.near, c.low, c.above))
	}
}

// SH2, all of it, word for word: the edges, powers of ten and their neighbours, and odd patterns, by every mode, of both signs.
func TestDigitsWordForWord(t *testing.T) {
	m := mixer{11}
	try := func(p uint64, n int) {
		t.Helper()
		mode := aid.Modes()[m.Below(5)]
		wantDigits(t, p, n, mode, digitsOf(p, n, mode))
		wantDigits(t, p+minus, n, mode, digitsOf(p+minus, n, mode))
	}
	for _, p := range edges() {
		for _, n := range counts() {
			try(p, n)
		}
	}
	for n := -323; n <= 308; n += 5 {
		p := patternOf(t, "1e"+strconv.Itoa(n))
		for _, q := range []uint64{p - 1, p, p + 1} {
			try(q, 1)
			try(q, 1+m.Below(20))
		}
	}
	for range 3_000 {
		try(m.finite(), 1+m.Below(1+m.Below(30)))
		try(m.finite(), 1+m.Below(most))
		if t.Failed() {
			return
		}
	}
}

// SH2: numbers of few bits lie just between two texts many times: each of them with each count of its digits, by every mode.
func TestDigitsFewBits(t *testing.T) {
	for exp := -6; exp <= 6; exp++ {
		for n := int64(1); n < 128; n += 2 {
			v := new(big.Rat).Mul(big.NewRat(n, 1), power(2, exp))
			f, _ := v.Float64()
			p := math.Float64bits(f)
			for digits := 1; digits <= len(allDigits(p)); digits++ {
				wantRow(t, p, digits, row{digitsOf(p, digits, api.Even), digitsOf(p, digits, api.Away), digitsOf(p, digits, api.Zero), digitsOf(p, digits, api.Up), digitsOf(p, digits, api.Down)})
			}
		}
	}
}

// SH2: by Even, what the machine's library writes.
func TestDigitsAsTheLibrary(t *testing.T) {
	m := mixer{13}
	for range 20_000 {
		p, n := m.finite(), 1+m.Below(1+m.Below(most))
		wantDigits(t, p, n, api.Even, libraryText(t, p, n))
		if t.Failed() {
			return
		}
	}
}
