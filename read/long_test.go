package read_test

import (
	"strconv"
	"strings"
	"testing"

	"tiller/aid"
	"tiller/api"
)

// long is a text of just n bytes: front, the filler as often as there is room for it, and end.
func long(front, filler, end string, n int) string {
	room := n - len(front) - len(end)
	return (front + strings.Repeat(filler, room/len(filler)+1))[:n-len(end)] + end
}

// RE1: texts of 65,536 bytes are read; one byte more is ErrLong.
func TestLong(t *testing.T) {
	const third, thirds = 0x3fd5555555555555, 0x3fe5555555555555
	for _, c := range []struct {
		front, filler, end string
		want               row
	}{
		{"", "0", "", same(0)},
		{"", "0", ".", same(0)},
		{".", "0", "", same(0)},
		{"0x", "0", "p0", same(0)},
		{"0e", "9", "", same(0)},
		{"0e-", "9", "", same(0)},
		{"0x.0p", "9", "", same(0)},
		{"", "0", "1", same(one)},
		{"", "0", ".5", same(half)},
		{"1.", "0", "", same(one)},
		{"1.", "0", "e1", same(ten)},
		{"1.", "0", "1", lower(one, off)},
		{".", "9", "", upper(one-1, off)},
		{"0.", "3", "", lower(third, off)},
		{"0.", "6", "", lower(thirds, off)},
		{"0x", "0", "1p0", same(one)},
		{"0x1.", "0", "p0", same(one)},
		{"0x1.", "0", "1p0", lower(one, off)},
		{"0x.", "f", "p0", upper(one-1, off)},
		{"0x.", "5", "p0", lower(third, off)},
		{"0x.", "a", "p0", lower(thirds, off)},
		{"1e", "0", "", same(one)},
		{"1e+", "0", "1", same(ten)},
		{"100e-", "0", "1", same(ten)},
		{"0x1p", "0", "1", same(two)},
		{"0x4p-", "0", "1", same(two)},
		{"1e", "9", "", beyond()},
		{"1e-", "9", "", lower(0, tiny)},
		{"0x1p", "9", "", beyond()},
		{"0x1p-", "9", "", lower(0, tiny)},
		{"", "9", "", beyond()},
		{"1", "0", "", beyond()},
		{".", "0", "1", lower(0, tiny)},
		{"0x1", "0", "p0", beyond()},
		{"0x.", "0", "1p0", lower(0, tiny)},
		// with a whole number that makes up for the noughts
		{"1", "0", "e-65528", same(one)},
		{"1", "0", "e-65527", same(ten)},
		{"1", "0", "1e-65528", lower(one, off)},
		{".", "0", "1e65529", same(one)},
		{".", "0", "1e65530", same(ten)},
		{"0x1", "0", "p-262100", same(one)},
		{"0x1", "0", "p-262101", same(half)},
		{"0x1", "0", "1p-262100", lower(one, off)},
		{"0x.", "0", "1p262104", same(one)},
		{"0x.", "0", "1p262105", same(two)},
	} {
		wantLong(t, long(c.front, c.filler, c.end, mostBytes), c.want)
	}
}

// wantLong tries a text of as many bytes as may be; with one byte more, a sign or a digit, it is too long.
func wantLong(t *testing.T, s string, z row) {
	t.Helper()
	if len(s) != mostBytes || !grammar.MatchString(s) {
		t.Fatalf("%s is no text", brief(s))
	}
	for _, m := range aid.Modes() {
		want(t, s, m, z[m])
	}
	wantError(t, "+"+s, api.ErrLong)
	wantError(t, "-"+s, api.ErrLong)
	wantError(t, s+"0", api.ErrLong)
}

// RE1: a sign is a byte, too.
func TestLongWithSign(t *testing.T) {
	for _, sign := range []string{"+", "-"} {
		s := sign + noughts(mostBytes-2) + "1"
		p := uint64(one)
		if sign == "-" {
			p += minus
		}
		wantSame(t, s, p)
		wantError(t, s[:1]+"0"+s[1:], api.ErrLong)
	}
}

// RE1: ErrLong comes first, whatever the text is; what is no text and not too long is ErrForm.
func TestLongFirst(t *testing.T) {
	for _, c := range []struct{ front, filler, end string }{
		{"", " ", ""}, {"", "+", ""}, {"", "-", "1"}, {"", ".", ""}, {"", "x", ""}, {"", "e", ""}, {"", "\x00", ""}, {"", "\xff", ""},
		{"inf", " ", ""}, {"nan", "n", ""}, {"inf", "0", ""}, {"", "0", "inf"}, {"", "inf", ""}, {"", "nan", ""},
		{"1", "0", "e"}, {"1e", "0", "+"}, {"1.", "0", ".5"}, {"1e", "0", "e1"}, {"", "0", "x1p0"}, {"0x1", "0", ""}, {"0x1.", "0", "p"}, {"0x", "A", "p0"}, {"0x-", "1", "p0"}, {"0x1", "e", "e0"}, {"1", "0", "a"}, {"", "9", "\n"},
	} {
		wantError(t, long(c.front, c.filler, c.end, mostBytes), api.ErrForm)
		for _, n := range []int{mostBytes + 1, mostBytes + 2, 2 * mostBytes, 5 * mostBytes} {
			wantError(t, long(c.front, c.filler, c.end, n), api.ErrLong)
		}
	}
	for _, n := range []int{mostBytes + 1, mostBytes + 2, 1 << 17, 1 << 20} {
		wantError(t, noughts(n), api.ErrLong)
		wantError(t, long("0x", "0", "1p0", n), api.ErrLong)
		wantError(t, long("1.", "0", "", n), api.ErrLong)
	}
}

// RE1 and RE2: what lies just between two patterns, with noughts behind it and a last digit as far behind as may be, and a little less than it.
func TestLongMiddle(t *testing.T) {
	for _, p := range []uint64{0, 1, 2, leastBig - 2, leastBig - 1, leastBig, one - 1, one, one + 1, last - 1, last} {
		s := decimal(between(p, 1, 2))
		if !strings.Contains(s, ".") {
			s += "."
		}
		under := decimalBelow(s)
		below, at, above := around(p)
		for _, m := range aid.Modes() {
			want(t, long(s, "0", "", mostBytes), m, at[m])
			want(t, long("", "0", s, mostBytes), m, at[m])
			want(t, long(s, "0", "1", mostBytes), m, above[m])
			want(t, long(s, "7", "", mostBytes), m, above[m])
			want(t, long("", "0", s+"1", mostBytes), m, above[m])
			want(t, long(under, "9", "", mostBytes), m, below[m])
			want(t, long("", "0", under, mostBytes), m, below[m])
		}
	}
}

// RE2: whole numbers that make up for many noughts, of both bases, at every length of some.
func TestMakesUp(t *testing.T) {
	for _, n := range []int{0, 1, 2, 17, 18, 19, 59, 60, 61, 62, 300, 308, 309, 310, 323, 324, 325, 399, 400, 401, 767, 768, 769, 799, 800, 801, 802, 1023, 1024, 1074, 1200, 5000, 20_000, 20_001, 60_000} {
		for _, digits := range []string{"1", "10", "25", "12345"} {
			value, _ := strconv.Atoi(digits)
			p := parse(digits, api.Even).p
			if sizeOf(p).Cmp(number(int64(value), 0)) != 0 {
				t.Fatalf("%s: %#x", digits, p)
			}
			wantSame(t, digits+noughts(n)+"e-"+strconv.Itoa(n), p)
			wantSame(t, digits+noughts(n)+".000e-"+strconv.Itoa(n), p)
			wantSame(t, "0."+noughts(n)+digits+"e"+strconv.Itoa(n+len(digits)), p)
			wantSame(t, "."+noughts(n)+digits+"00e+"+strconv.Itoa(n+len(digits)), p)
			hex := strconv.FormatInt(int64(value), 16)
			wantSame(t, "0x"+hex+noughts(n)+"p-"+strconv.Itoa(4*n), p)
			wantSame(t, "0x"+hex+noughts(n)+".00p-"+strconv.Itoa(4*n), p)
			wantSame(t, "0x."+noughts(n)+hex+"p"+strconv.Itoa(4*(n+len(hex))), p)
			wantSame(t, "0x0."+noughts(n)+hex+"0p+"+strconv.Itoa(4*(n+len(hex))), p)
		}
	}
}
