package read_test

import (
	"math/big"
	"regexp"
	"strconv"
	"strings"
	"testing"

	"tiller/aid"
	"tiller/api"
	"tiller/read"
)

const (
	minus = 1 << 63

	none  = api.Flags(0)
	off   = api.Inexact
	tiny  = api.Underflow | api.Inexact
	great = api.Overflow | api.Inexact

	half     = 0x3fe0000000000000
	one      = 0x3ff0000000000000
	two      = 0x4000000000000000
	ten      = 0x4024000000000000
	leastBig = 0x0010000000000000 // the least plain pattern
	last     = 0x7fefffffffffffff // the greatest finite one
	inf      = 0x7ff0000000000000
	nan      = 0x7ff8000000000000

	mostBytes = 65_536
)

// answer is what Parse answers.
type answer struct {
	p   uint64
	f   api.Flags
	err int
}

func parse(s string, m api.Mode) answer {
	p, f, err := read.Parse(s, m)
	return answer{p, f, aid.Errno(err)}
}

// brief is a text as it can be read in a test's answer.
func brief(s string) string {
	if len(s) > 120 {
		return strconv.Quote(s[:60]) + " .. " + strconv.Quote(s[len(s)-50:]) + " of " + strconv.Itoa(len(s)) + " bytes"
	}
	return strconv.Quote(s)
}

func want(t *testing.T, s string, m api.Mode, z answer) {
	t.Helper()
	if got := parse(s, m); got != z {
		t.Errorf("Parse(%s, %d): %#x, %d, error %d; want %#x, %d, error %d", brief(s), m, got.p, got.f, got.err, z.p, z.f, z.err)
	}
}

// wantError asks for an error, and nothing beside it, by every mode.
func wantError(t *testing.T, s string, err api.Errno) {
	t.Helper()
	for _, m := range aid.AllModes() {
		want(t, s, m, answer{0, none, int(err)})
	}
}

// wantSame asks for one pattern without flags by every mode.
func wantSame(t *testing.T, s string, p uint64) {
	t.Helper()
	for _, m := range aid.AllModes() {
		want(t, s, m, answer{p, none, 0})
	}
}

// row is what is answered of a text without sign by Even, Away, Zero, Up and Down.
type row [5]answer

// same is one pattern by every mode, without flags.
func same(p uint64) row {
	z := answer{p: p}
	return row{z, z, z, z, z}
}

// apart is what is rounded to low, or to high, with the same flags: by Even and Away to those that are told.
func apart(even, away, low, high uint64, f api.Flags) row {
	return row{{even, f, 0}, {away, f, 0}, {low, f, 0}, {high, f, 0}, {low, f, 0}}
}

// lower, middle and upper lie between low and the next one: below the middle, in it, and above it.
func lower(low uint64, f api.Flags) row  { return apart(low, low, low, low+1, f) }
func middle(low uint64, f api.Flags) row { return apart(low+low&1, low+1, low, low+1, f) }
func upper(low uint64, f api.Flags) row  { return apart(low+1, low+1, low, low+1, f) }

// beyond is what is too great.
func beyond() row { return apart(inf, inf, last, inf, great) }

// around is what is answered just below the middle of a pattern and the next one, in it, and just above it.
func around(p uint64) (row, row, row) {
	switch {
	case p < leastBig-1:
		return lower(p, tiny), middle(p, tiny), upper(p, tiny)
	case p == leastBig-1:
		// Only a number above the middle is rounded up to the least plain one, by Up, if no quantum is the least.
		above := upper(p, tiny)
		above[api.Up].f = off
		return lower(p, tiny), middle(p, tiny), above
	case p == last:
		// Only what is rounded up is too great.
		below, above := lower(last, off), upper(last, off)
		below[api.Up].f = great
		for _, m := range []api.Mode{api.Even, api.Away, api.Up} {
			above[m].f = great
		}
		return below, above, above
	}
	return lower(p, off), middle(p, off), upper(p, off)
}

// mirror is what is answered of the same number with the other sign: Up and Down change places.
func mirror(z row) row {
	z[api.Up], z[api.Down] = z[api.Down], z[api.Up]
	for m := range z {
		z[m].p ^= minus
	}
	return z
}

// wantRow tries a text without a sign by every mode and with all signs; a mode that is none is as Even.
func wantRow(t *testing.T, s string, z row) {
	t.Helper()
	turned := mirror(z)
	try := func(m, as api.Mode) {
		t.Helper()
		want(t, s, m, z[as])
		want(t, "+"+s, m, z[as])
		want(t, "-"+s, m, turned[as])
	}
	for _, m := range aid.Modes() {
		try(m, m)
	}
	for _, m := range aid.NoModes() {
		try(m, api.Even)
	}
}

// noughts are so many of them.
func noughts(n int) string { return strings.Repeat("0", n) }

// number is n times 2^exp, exactly.
func number(n int64, exp int) *big.Rat { return new(big.Rat).Mul(big.NewRat(n, 1), powerOf2(exp)) }

func powerOf2(n int) *big.Rat {
	one := new(big.Rat).SetInt64(1)
	if n < 0 {
		return one.SetFrac(big.NewInt(1), new(big.Int).Lsh(big.NewInt(1), uint(-n)))
	}
	return one.SetInt(new(big.Int).Lsh(big.NewInt(1), uint(n)))
}

// sizeOf is a finite pattern's size, as chapter 3 tells it; of Endless what would be the next one.
func sizeOf(p uint64) *big.Rat {
	e, f := int(p>>52&2047), int64(p&(1<<52-1))
	if e == 0 {
		return number(f, -1074)
	}
	return number(f+1<<52, e-1075)
}

// between lies from the size of p up, so many parts of all of the way to the next one.
func between(p uint64, parts, all int64) *big.Rat {
	way := new(big.Rat).Sub(sizeOf(p+1), sizeOf(p))
	return way.Add(way.Mul(way, big.NewRat(parts, all)), sizeOf(p))
}

// decimal is the text of a number that parts of 2 make, all its digits, with noughts at neither end of them but ahead of the point.
func decimal(v *big.Rat) string {
	places, _ := v.FloatPrec()
	return v.FloatString(places)
}

// decimalBelow is a text that ends with a digit, or a point behind one, that is not 0, and is less by one of its last digit, with nines behind it.
func decimalBelow(s string) string {
	digits, point := strings.CutSuffix(s, ".")
	end := len(digits) - 1
	below := digits[:end] + string(digits[end]-1)
	if point {
		below += "."
	}
	return below + "999"
}

// shifted is the same with all digits ahead of, or behind, the point, and a whole number that makes up for it.
func shifted(v *big.Rat) (string, string) {
	places, _ := v.FloatPrec()
	digits := strings.TrimLeft(strings.ReplaceAll(v.FloatString(places), ".", ""), "0")
	return digits + "e-" + strconv.Itoa(places), "." + digits + "e" + strconv.Itoa(len(digits)-places)
}

// more is a text of digits and a point with a digit far behind.
func more(s string, far int) string {
	if !strings.Contains(s, ".") {
		s += "."
	}
	return s + noughts(far) + "1"
}

// grammar is chapter 13's section 'Words', and its parts: sign, name, digits and whole number of base 10, those of base 16.
var grammar = regexp.MustCompile(`^([+-]?)(?:(inf|nan)|([0-9]+|[0-9]+\.[0-9]*|\.[0-9]+)(?:e([+-]?[0-9]+))?|0x([0-9a-f]+|[0-9a-f]+\.[0-9a-f]*|\.[0-9a-f]+)p([+-]?[0-9]+))$`)

// denoted is what a text of digits denotes, without its sign; its whole number is of few digits.
func denoted(t *testing.T, parts []string) *big.Rat {
	t.Helper()
	base, unit, digits, whole := 10, int64(10), parts[3], parts[4]
	if digits == "" {
		base, unit, digits, whole = 16, 2, parts[5], parts[6]
	}
	ahead, behind, _ := strings.Cut(digits, ".")
	n, ok := new(big.Int).SetString(ahead+behind, base)
	if !ok {
		t.Fatalf("digits %s", brief(digits))
	}
	v := new(big.Rat).SetFrac(n, new(big.Int).Exp(big.NewInt(int64(base)), big.NewInt(int64(len(behind))), nil))
	if whole == "" {
		return v
	}
	power, err := strconv.Atoi(whole)
	if err != nil || power < -400_000 || power > 400_000 {
		t.Fatalf("whole number %s", brief(whole))
	}
	times := new(big.Rat).SetInt(new(big.Int).Exp(big.NewInt(unit), big.NewInt(int64(max(power, -power))), nil))
	if power < 0 {
		return v.Quo(v, times)
	}
	return v.Mul(v, times)
}

// multiple is a size, rounded to multiples of u word for word as chapter 4 has it.
func multiple(v, u *big.Rat, below0 bool, m api.Mode) *big.Rat {
	times := new(big.Rat).Quo(v, u)
	if times.IsInt() {
		return v
	}
	count := new(big.Int).Quo(times.Num(), times.Denom())
	less := new(big.Rat).Mul(new(big.Rat).SetInt(count), u)
	greater := new(big.Rat).Add(less, u)
	switch {
	case m == api.Zero, m == api.Up && below0, m == api.Down && !below0:
		return less
	case m == api.Up, m == api.Down:
		return greater
	}
	down, up := new(big.Rat).Sub(v, less), new(big.Rat).Sub(greater, v)
	switch down.Cmp(up) {
	case -1:
		return less
	case 1:
		return greater
	}
	if m == api.Away || count.Bit(0) == 1 {
		return greater
	}
	return less
}

// log is the greatest n for which 2^n is at most v, that is not 0.
func log(v *big.Rat) int {
	n := v.Num().BitLen() - v.Denom().BitLen()
	if powerOf2(n).Cmp(v) > 0 {
		return n - 1
	}
	return n
}

// rounded is what a size is rounded to, word for word as chapter 4 has it: the size, or the pattern that stands for it, if it is too great, and the flags.
func rounded(v *big.Rat, below0 bool, m api.Mode) (*big.Rat, uint64, api.Flags) {
	if v.Sign() == 0 {
		return v, 0, none
	}
	n := log(v)
	r := multiple(v, powerOf2(max(n-52, -1074)), below0, m)
	switch {
	case r.Cmp(powerOf2(1024)) >= 0 && (m == api.Zero || m == api.Up && below0 || m == api.Down && !below0):
		return nil, last, great
	case r.Cmp(powerOf2(1024)) >= 0:
		return nil, inf, great
	case r.Cmp(v) == 0:
		return r, 0, none
	case multiple(v, powerOf2(n-52), below0, m).Cmp(powerOf2(-1022)) < 0:
		return r, 0, tiny
	}
	return r, 0, off
}

// checkAll holds what is answered of any text against the chapter's words.
func checkAll(t *testing.T, s string, m api.Mode) {
	t.Helper()
	parts := grammar.FindStringSubmatch(s)
	switch {
	case len(s) > mostBytes:
		want(t, s, m, answer{err: int(api.ErrLong)})
	case parts == nil:
		want(t, s, m, answer{err: int(api.ErrForm)})
	case parts[2] == "nan":
		want(t, s, m, answer{p: nan})
	case parts[2] == "inf" && parts[1] == "-":
		want(t, s, m, answer{p: inf + minus})
	case parts[2] == "inf":
		want(t, s, m, answer{p: inf})
	default:
		checkNumber(t, s, m, denoted(t, parts), parts[1] == "-")
	}
}

func checkNumber(t *testing.T, s string, m api.Mode, v *big.Rat, below0 bool) {
	t.Helper()
	got := parse(s, m)
	size, standing, flags := rounded(v, below0, m)
	above := got.p &^ minus
	ok := got.err == 0 && got.f == flags && (got.p != above) == below0
	if size == nil {
		ok = ok && above == standing
	} else {
		ok = ok && above < inf && sizeOf(above).Cmp(size) == 0
	}
	if !ok {
		t.Errorf("Parse(%s, %d): %#x, %d, error %d; want the size %v (%#x), %d", brief(s), m, got.p, got.f, got.err, size, standing, flags)
	}
}

// mixer makes odd numbers, and texts by them.
type mixer struct{ aid.Mixer }

// pick is one of some texts.
func (m *mixer) pick(all ...string) string { return all[m.Below(len(all))] }

// finite is a finite pattern without sign.
func (m *mixer) finite() uint64 {
	switch m.Below(8) {
	case 0:
		return m.Fraction()
	case 1:
		return 1 + uint64(m.Below(20))
	case 2:
		return leastBig + uint64(m.Below(9)) - 4
	case 3:
		return last - uint64(m.Below(5))
	}
	return uint64(m.Below(2047))<<52 + m.Fraction()
}

// row is so many digits, of which some are noughts.
func (m *mixer) row(digits string, n int) string {
	var b strings.Builder
	for range n {
		b.WriteString(m.pick("0", digits[m.Below(len(digits)):][:1], digits[m.Below(len(digits)):][:1]))
	}
	return b.String()
}

// pointed is digits with a point among them, or not.
func (m *mixer) pointed(digits string) string {
	if m.Below(3) == 0 {
		return digits
	}
	at := m.Below(len(digits) + 1)
	return digits[:at] + "." + digits[at:]
}

// numeral is a text of digits, most times one that is not too great and not too small.
func (m *mixer) numeral() string {
	n := 1 + m.Below(1+m.Below(40))
	if m.Below(2) == 0 {
		power := m.Below(700) - 350
		text := m.pointed(m.row("0123456789", n))
		return text + m.pick("", "e"+strconv.Itoa(power), "e"+strconv.Itoa(power/10))
	}
	return "0x" + m.pointed(m.row("0123456789abcdef", n)) + "p" + strconv.Itoa(m.Below(2300)-1150)
}
