package show_test

import (
	"math"
	"strconv"
	"strings"
	"testing"

	"tiller/aid"
	"tiller/api"
	"tiller/read"
	"tiller/show"
)

// SH3: what is no number has no sign; Endless and 0 have one.
func TestHexNames(t *testing.T) {
	for _, p := range noNumbers() {
		if s := show.Hex(p); s != "nan" {
			t.Errorf("Hex(%#x): %s", p, brief(s))
		}
	}
	wantHex(t, inf, "inf")
	wantHex(t, 0, "0x0p0")
}

// SH3: the chapter's example, and texts that are told here: fractions with and without noughts at their end, and in it, what is tiny, and every form of a power.
func TestHexTexts(t *testing.T) {
	for p, s := range map[uint64]string{
		0x3ff8000000000000: "0x1.8p0",
		one:                "0x1p0", half: "0x1p-1", ten: "0x1.4p3", one + 1: "0x1.0000000000001p0", one - 1: "0x1.fffffffffffffp-1", one + 0x10: "0x1.000000000001p0", one + 0x100000: "0x1.00000001p0", one + 0x1000001: "0x1.0000001000001p0",
		tenth: "0x1.999999999999ap-4", third: "0x1.5555555555555p-2", 0x3ffabcdef0123450: "0x1.abcdef012345p0", 0x400921fb54442d18: "0x1.921fb54442d18p1", 0x40f0000000000000: "0x1p16", 0x40effff000000000: "0x1.ffffp15", 0x408ff80000000000: "0x1.ff8p9",
		0x54b249ad2594c37d: "0x1.249ad2594c37dp332", 0x2b2bff2ee48e0530: "0x1.bff2ee48e053p-333",
		1: "0x0.0000000000001p-1022", 2: "0x0.0000000000002p-1022", 0xf: "0x0.000000000000fp-1022", 0x10: "0x0.000000000001p-1022", 0x11: "0x0.0000000000011p-1022", 1 << 51: "0x0.8p-1022", 1 << 48: "0x0.1p-1022", 1<<51 + 1: "0x0.8000000000001p-1022", mostTiny - 0xf: "0x0.ffffffffffffp-1022", mostTiny: "0x0.fffffffffffffp-1022",
		leastBig: "0x1p-1022", leastBig + 1: "0x1.0000000000001p-1022", 2*leastBig - 1: "0x1.fffffffffffffp-1022", 2 * leastBig: "0x1p-1021",
		last: "0x1.fffffffffffffp1023", last - 1: "0x1.ffffffffffffep1023", last - 0xf: "0x1.ffffffffffffp1023", 0x7fe0000000000000: "0x1p1023",
	} {
		wantHex(t, p, s)
	}
}

// SH3: each power of two, plain and tiny.
func TestHexPowers(t *testing.T) {
	for e := 1; e < 2047; e++ {
		wantHex(t, uint64(e)<<52, "0x1p"+strconv.Itoa(e-1023))
	}
	for n := range 52 {
		place := n / 4 // from behind
		s := "0x0." + strings.Repeat("0", 12-place) + strconv.Itoa(1<<(n%4)) + "p-1022"
		wantHex(t, 1<<n, s)
	}
}

// SH3: of what is plain, what the machine's library writes.
func TestHexAsTheLibrary(t *testing.T) {
	m := mixer{17}
	for range 50_000 {
		p := max(m.finite(), leastBig)
		wantHex(t, p, plainPower(t, strconv.FormatFloat(math.Float64frombits(p), 'x', -1, 64), "p"))
		if t.Failed() {
			return
		}
	}
}

// wantHexAgain asks that a pattern's text of base 16 is read as it, without flags, by a mode.
func wantHexAgain(t *testing.T, p uint64, m api.Mode) {
	t.Helper()
	s := show.Hex(p)
	if got, flags, err := read.Parse(s, m); got != p || flags != 0 || err != nil {
		t.Errorf("Parse(%s, %d) of Hex(%#x): %#x, %d, %v", s, m, p, got, flags, err)
	}
}

// SH3 and SH4: it is read as the pattern, without flags, by every mode.
func TestHexAgain(t *testing.T) {
	for _, m := range aid.AllModes() {
		for _, p := range append(append(edges(), powers()...), 0, inf) {
			wantHexAgain(t, p, m)
			wantHexAgain(t, p+minus, m)
		}
		wantHexAgain(t, nan, m)
	}
	m := mixer{19}
	for range 100_000 {
		wantHexAgain(t, m.signed(), m.Mode())
		if t.Failed() {
			return
		}
	}
}

// SH4: with that first digit and that power a text of a digit fewer is not read as the pattern: neither what is cut off, nor the next one.
func TestHexFewer(t *testing.T) {
	m := mixer{23}
	for _, p := range append(edges(), powers()...) {
		wantNoFewerHex(t, p)
	}
	for range 20_000 {
		wantNoFewerHex(t, m.finite())
		if t.Failed() {
			return
		}
	}
}

func wantNoFewerHex(t *testing.T, p uint64) {
	t.Helper()
	digits, whole, _ := strings.Cut(show.Hex(p), "p")
	first, fraction, _ := strings.Cut(strings.TrimPrefix(digits, "0x"), ".")
	if fraction == "" {
		return
	}
	cut, err := strconv.ParseUint(first+fraction[:len(fraction)-1], 16, 64)
	if err != nil {
		t.Fatal(err)
	}
	places := 4 * (len(fraction) - 1)
	e, _ := strconv.Atoi(whole)
	for _, n := range []uint64{cut, cut + 1} {
		s := "0x" + strconv.FormatUint(n, 16) + "p" + strconv.Itoa(e-places)
		if patternOf(t, s) == p {
			t.Errorf("%s is read as %#x, too", s, p)
		}
	}
}
