package show_test

import (
	"math"
	"math/big"
	"regexp"
	"strconv"
	"strings"
	"testing"

	"tiller/aid"
	"tiller/api"
	"tiller/read"
	"tiller/show"
)

const (
	minus = 1 << 63

	half      = 0x3fe0000000000000
	one       = 0x3ff0000000000000
	ten       = 0x4024000000000000
	tenth     = 0x3fb999999999999a
	third     = 0x3fd5555555555555
	mostTiny  = 0x000fffffffffffff
	leastBig  = 0x0010000000000000 // the least plain pattern
	last      = 0x7fefffffffffffff // the greatest finite one
	inf       = 0x7ff0000000000000
	nan       = 0x7ff8000000000000
	mostShort = 17 // as many digits as are ever needed
	most      = 1000
)

// noNumbers are patterns of what is no number, quiet and loud, with and without the sign.
func noNumbers() []uint64 {
	var all []uint64
	for _, p := range []uint64{nan, nan + 1, nan + 0x123456789abcd, minus - 1, inf + 1, inf + 2, nan - 1, inf + 1<<50} {
		all = append(all, p, p+minus)
	}
	return all
}

// edges are finite patterns, without sign and not 0, at which something turns, and some others.
func edges() []uint64 {
	return []uint64{1, 2, 3, 4, 5, 6, 7, 8, 9, 10, 11, 16, 19, 20, 21, 99, 100, 1<<51 - 1, 1 << 51, mostTiny - 2, mostTiny - 1, mostTiny, leastBig, leastBig + 1, leastBig + 2, 2*leastBig - 1, 2 * leastBig, 2*leastBig + 1, tenth, third, half - 1, half, half + 1, one - 1, one, one + 1, ten - 1, ten, ten + 1, 0x433fffffffffffff, 0x4340000000000000, 0x4340000000000001, last - 2, last - 1, last}
}

// powers are all powers of two, and their neighbours but 0 and Endless.
func powers() []uint64 {
	var all []uint64
	for n := range 52 {
		p := uint64(1) << n
		all = append(all, p, p+1)
		if n > 0 {
			all = append(all, p-1)
		}
	}
	for e := uint64(1); e < 2047; e++ {
		all = append(all, e<<52-1, e<<52, e<<52+1)
	}
	return all
}

// patternOf is what a text is read as by Even.
func patternOf(t *testing.T, s string) uint64 {
	t.Helper()
	p, _, err := read.Parse(s, api.Even)
	if err != nil {
		t.Fatalf("%s: %v", brief(s), err)
	}
	return p
}

// brief is a text as it can be read in a test's answer.
func brief(s string) string {
	if len(s) > 120 {
		return strconv.Quote(s[:60]) + " .. " + strconv.Quote(s[len(s)-50:]) + " of " + strconv.Itoa(len(s)) + " bytes"
	}
	return strconv.Quote(s)
}

// wantShort asks for a text of a pattern without sign, and with it.
func wantShort(t *testing.T, p uint64, s string) {
	t.Helper()
	if got := show.Short(p); got != s {
		t.Errorf("Short(%#x): %s; want %s", p, brief(got), brief(s))
	}
	if got := show.Short(p + minus); got != "-"+s {
		t.Errorf("Short(%#x): %s; want -%s", p+minus, brief(got), brief(s))
	}
}

func wantHex(t *testing.T, p uint64, s string) {
	t.Helper()
	if got := show.Hex(p); got != s {
		t.Errorf("Hex(%#x): %s; want %s", p, brief(got), brief(s))
	}
	if got := show.Hex(p + minus); got != "-"+s {
		t.Errorf("Hex(%#x): %s; want -%s", p+minus, brief(got), brief(s))
	}
}

func wantDigits(t *testing.T, p uint64, n int, m api.Mode, s string) {
	t.Helper()
	if got, err := show.Digits(p, n, m); got != s || err != nil {
		t.Errorf("Digits(%#x, %d, %d): %s, %v; want %s", p, n, m, brief(got), err, brief(s))
	}
}

// wantAll asks for the same text of a pattern by every mode, and of the other sign.
func wantAll(t *testing.T, p uint64, n int, s string) {
	t.Helper()
	for _, m := range aid.AllModes() {
		wantDigits(t, p, n, m, s)
		wantDigits(t, p+minus, n, m, "-"+s)
	}
}

// row is what is answered of a pattern without sign by Even, Away, Zero, Up and Down.
type row [5]string

// turned tells which of two texts lies below and above, and which one is nearest by Even and by Away.
func turned(even, away, low, high string) row { return row{even, away, low, high, low} }

// wantRow tries a pattern without sign by every mode and with both signs; below 0 Up and Down change places, and a mode that is none is as Even.
func wantRow(t *testing.T, p uint64, n int, z row) {
	t.Helper()
	for _, m := range aid.AllModes() {
		as, other := m, m
		switch m {
		case api.Even, api.Away, api.Zero:
		case api.Up:
			other = api.Down
		case api.Down:
			other = api.Up
		default:
			as, other = api.Even, api.Even
		}
		wantDigits(t, p, n, m, z[as])
		wantDigits(t, p+minus, n, m, "-"+z[other])
	}
}

// form is a text of digits of what is finite and not 0, as the chapter's section 'Words' has it: its parts are the sign, the first digit, the others and the power.
var form = regexp.MustCompile(`^(-?)([1-9])(?:\.([0-9]+))?e(0|-?[1-9][0-9]*)$`)

// count is how many digits a text of digits has.
func count(t *testing.T, s string) int {
	t.Helper()
	parts := form.FindStringSubmatch(s)
	if parts == nil {
		t.Fatalf("%s is no text of digits", brief(s))
	}
	return 1 + len(parts[3])
}

// sizeOf is a finite pattern's size, as chapter 3 tells it.
func sizeOf(p uint64) *big.Rat {
	e, f := int(p>>52&2047), int64(p&(1<<52-1))
	if e == 0 {
		e++
	} else {
		f += 1 << 52
	}
	return new(big.Rat).Mul(big.NewRat(f, 1), power(2, e-1075))
}

// power is base to the n, exactly.
func power(base int64, n int) *big.Rat {
	p := new(big.Rat).SetInt(new(big.Int).Exp(big.NewInt(base), big.NewInt(int64(max(n, -n))), nil))
	if n < 0 {
		return p.Inv(p)
	}
	return p
}

// log is the greatest n for which 10^n is at most v, that is not 0.
func log(v *big.Rat) int {
	n := len(v.Num().String()) - len(v.Denom().String())
	if power(10, n).Cmp(v) > 0 {
		return n - 1
	}
	return n
}

// text is a whole number, that is not 0, times 10^last, as a text of just n digits: it has them, or ends with noughts beyond them.
func text(whole *big.Int, last, n int) string {
	digits := whole.String()
	first := last + len(digits) - 1
	s := digits[:1]
	if n > 1 {
		s += "." + digits[1:n]
	}
	return s + "e" + strconv.Itoa(first)
}

// multiple is how often u is in a size that is rounded to multiples of it, word for word as chapter 4 has it.
func multiple(v, u *big.Rat, below0 bool, m api.Mode) *big.Int {
	times := new(big.Rat).Quo(v, u)
	less := new(big.Int).Quo(times.Num(), times.Denom())
	if times.IsInt() {
		return less
	}
	greater := new(big.Int).Add(less, big.NewInt(1))
	switch {
	case m == api.Zero, m == api.Up && below0, m == api.Down && !below0:
		return less
	case m == api.Up, m == api.Down:
		return greater
	}
	down := new(big.Rat).Sub(times, new(big.Rat).SetInt(less))
	switch down.Cmp(big.NewRat(1, 2)) {
	case -1:
		return less
	case 1:
		return greater
	}
	if m == api.Away || less.Bit(0) == 1 {
		return greater
	}
	return less
}

// digitsOf is what Digits answers of a finite pattern that is not 0, word for word.
func digitsOf(p uint64, n int, m api.Mode) string {
	v, below0 := sizeOf(p&^minus), p&minus != 0
	last := log(v) - n + 1
	s := text(multiple(v, power(10, last), below0, m), last, n)
	if below0 {
		s = "-" + s
	}
	return s
}

// around are texts of n digits, some that lie next to a size on either side, also those that have another power of ten.
func around(v *big.Rat, n int) []string {
	var all []string
	least := power(10, n-1).Num()
	end := power(10, n).Num()
	// Of a neighbouring power of ten the first ones, or the last ones, are next to the size.
	for move := -1; move <= 1; move++ {
		last := log(v) - n + 1 + move
		times := new(big.Rat).Quo(v, power(10, last))
		at := new(big.Int).Quo(times.Num(), times.Denom())
		if at.Cmp(least) < 0 {
			at.Set(least)
		}
		if at.Cmp(end) >= 0 {
			at.Sub(end, big.NewInt(1))
		}
		for d := int64(-3); d <= 3; d++ {
			c := new(big.Int).Add(at, big.NewInt(d))
			if c.Cmp(least) >= 0 && c.Cmp(end) < 0 {
				all = append(all, text(c, last, n))
			}
		}
	}
	return all
}

// denoted is what a text of digits without sign denotes.
func denoted(t *testing.T, s string) *big.Rat {
	t.Helper()
	v, ok := new(big.Rat).SetString(s)
	if !ok {
		t.Fatalf("%s is no number", brief(s))
	}
	return v
}

// shortOf is what Short answers of a finite pattern without sign that is not 0, by reading texts of one digit, of two and so on.
func shortOf(t *testing.T, p uint64) string {
	t.Helper()
	v := sizeOf(p)
	for n := 1; n <= mostShort; n++ {
		best := ""
		var least *big.Rat
		for _, s := range around(v, n) {
			if patternOf(t, s) != p {
				continue
			}
			way := denoted(t, s)
			way.Abs(way.Sub(way, v))
			if least == nil || way.Cmp(least) < 0 || way.Cmp(least) == 0 && lastIsEven(s) {
				best, least = s, way
			}
		}
		if best != "" {
			return best
		}
	}
	t.Fatalf("no text of %d digits is read as %#x", mostShort, p)
	return ""
}

func lastIsEven(s string) bool {
	digits, _, _ := strings.Cut(s, "e")
	return strings.Contains("02468", digits[len(digits)-1:])
}

// plainPower is a text of the machine's library with its power as the chapter has it: without +, and without needless noughts.
func plainPower(t *testing.T, s, mark string) string {
	t.Helper()
	digits, whole, ok := strings.Cut(s, mark)
	n, err := strconv.Atoi(whole)
	if !ok || err != nil {
		t.Fatalf("%s: %v", s, err)
	}
	return digits + mark + strconv.Itoa(n)
}

// libraryText is what the machine's library writes of a pattern, by its fewest digits, or by n of them, if n is above 0, rounded by Even.
func libraryText(t *testing.T, p uint64, n int) string {
	t.Helper()
	return plainPower(t, strconv.FormatFloat(math.Float64frombits(p), 'e', n-1, 64), "e")
}

// mixer makes odd numbers, and patterns by them.
type mixer struct{ aid.Mixer }

// finite is a finite pattern without sign, that is not 0.
func (m *mixer) finite() uint64 {
	switch m.Below(10) {
	case 0:
		return max(m.Fraction(), 1)
	case 1:
		return 1 + uint64(m.Below(2000))
	case 2:
		return leastBig + uint64(m.Below(9)) - 4
	case 3:
		return last - uint64(m.Below(50))
	case 4:
		// whole numbers and such as have a few digits
		return uint64(1023-10+m.Below(80))<<52 + m.Fraction()
	case 5:
		return uint64(1+m.Below(2046)) << 52
	}
	return max(uint64(m.Below(2047))<<52+m.Fraction(), 1)
}

// signed is such a pattern with or without the sign.
func (m *mixer) signed() uint64 { return m.finite() + m.Word()&minus }

// any is a pattern of any class.
func (m *mixer) any() uint64 {
	switch m.Below(6) {
	case 0:
		all := append(noNumbers(), 0, minus, inf, inf+minus)
		return all[m.Below(len(all))]
	case 1:
		return m.Word()
	}
	return m.signed()
}
