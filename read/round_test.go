package read_test

import (
	"math/big"
	"strconv"
	"strings"
	"testing"

	"tiller/aid"
	"tiller/api"
)

// forms are a number's texts: with a point, and with all digits ahead of it and behind it.
func forms(v *big.Rat) []string {
	ahead, behind := shifted(v)
	return []string{decimal(v), ahead, behind}
}

// wantForms tries all texts of a number.
func wantForms(t *testing.T, v *big.Rat, z row) {
	t.Helper()
	for _, s := range forms(v) {
		wantRow(t, s, z)
	}
}

// edges are patterns at which something turns, and some others.
func edges() []uint64 {
	return []uint64{0, 1, 2, 3, 4, 5, 1<<51 - 1, 1 << 51, leastBig - 3, leastBig - 2, leastBig - 1, leastBig, leastBig + 1, 2*leastBig - 1, 2 * leastBig, 2*leastBig + 1, half - 1, half, half + 1, one - 1, one, one + 1, 0x3fb999999999999a, 0x3fd5555555555555, 0x433fffffffffffff, 0x4340000000000000, 0x4340000000000001, last - 2, last - 1, last}
}

// RE1: a pattern's own digits are read as it, and what lies just between it and the next one, or a little less or more, with a digit near or far behind, is rounded by every mode, of both signs.
func TestBetween(t *testing.T) {
	for _, p := range edges() {
		if p > 0 {
			wantForms(t, sizeOf(p), same(p))
		}
		below, at, above := around(p)
		half := between(p, 1, 2)
		wantForms(t, half, at)
		wantForms(t, between(p, 1<<30-1, 1<<31), below)
		wantForms(t, between(p, 1<<30+1, 1<<31), above)
		s := decimal(half)
		for _, far := range []int{0, 1, 20, 100, 700, 1000, 3000, 25_000} {
			wantRow(t, more(s, far), above)
		}
	}
}

// RE1: the same of base 16.
func TestBetweenSixteens(t *testing.T) {
	for _, p := range edges() {
		digits, whole := hexOf(p)
		below, at, above := around(p)
		if p > 0 {
			wantRow(t, "0x"+digits+"p"+whole, same(p))
		}
		wantRow(t, "0x"+digits+".8p"+whole, at)
		wantRow(t, "0x"+digits+".8"+noughts(100)+"p"+whole, at)
		for _, far := range []int{0, 1, 2, 40, 44, 45, 46, 47, 48, 60, 61, 62, 63, 64, 65, 300, 30_000} {
			wantRow(t, "0x"+digits+".8"+noughts(far)+"1p"+whole, above)
			wantRow(t, "0x"+digits+".7"+strings.Repeat("f", far)+"p"+whole, below)
		}
	}
}

// hexOf is a finite pattern as a whole number of base 16 and a power of two, as chapter 3 tells it.
func hexOf(p uint64) (string, string) {
	e, f := int(p>>52), p&(1<<52-1)
	if e == 0 {
		return strconv.FormatUint(f, 16), "-1074"
	}
	return strconv.FormatUint(f+1<<52, 16), strconv.Itoa(e - 1075)
}

// RE1: the greatest finite pattern, what is rounded to it, and what is beyond it.
func TestGreatest(t *testing.T) {
	below, at, above := around(last)
	for _, s := range []string{"0x1.fffffffffffffp1023", "0x1fffffffffffffp971", "0x.fffffffffffff8p1024"} {
		wantRow(t, s, same(last))
	}
	for _, s := range []string{"1.7976931348623157e308", "179769313486231570e291"} {
		wantRow(t, s, upper(last-1, off))
	}
	for _, s := range []string{"1.7976931348623158e308", "0x1.fffffffffffff7fffp1023", "0x1.fffffffffffff4p1023"} {
		wantRow(t, s, below)
	}
	wantRow(t, "0x1.fffffffffffff8p1023", at)
	for _, s := range []string{"1.7976931348623159e308", "0x1.fffffffffffff8001p1023", "0x1.fffffffffffffcp1023", "0x1.ffffffffffffffffffffffffp1023"} {
		wantRow(t, s, above)
	}
	for _, s := range []string{"0x1p1024", "0x.1p1028", "0x1.0001p1024", "0x1p1025", "0x1p2000", "0x1p2500", "0x1p99999", "1.7976931348623160e308", "1.8e308", "2e308", "1e309", "10e308", "1e310", "1e311", "1e399", "1e400", "1e401", "1e402", "9e398", "123e398", "0.1e401", "1e1000", "1e99999"} {
		wantRow(t, s, beyond())
	}
}

// RE1: the least plain pattern and what is below it, with and without Underflow.
func TestLeastPlain(t *testing.T) {
	wantRow(t, "0x1p-1022", same(leastBig))
	wantRow(t, "0x.fffffffffffffp-1022", same(leastBig-1))
	// at is what is answered above 2^-1022 less 2^-1075; whether Underflow is raised hangs on the mode.
	at := func(even, away, up api.Flags) row {
		z := upper(leastBig-1, tiny)
		z[api.Even].f, z[api.Away].f, z[api.Up].f = even, away, up
		return z
	}
	wantRow(t, "0x.fffffffffffff7p-1022", lower(leastBig-1, tiny))
	wantRow(t, "0x.fffffffffffff8p-1022", middle(leastBig-1, tiny))
	wantRow(t, "0x.fffffffffffff8000000000001p-1022", at(tiny, tiny, off))
	wantRow(t, "0x.fffffffffffffbp-1022", at(tiny, tiny, off))
	wantRow(t, "0x.fffffffffffffbfffffffffffffffffp-1022", at(tiny, tiny, off))
	wantRow(t, "0x.fffffffffffffcp-1022", at(off, off, off))
	wantRow(t, "0x.fffffffffffffc0000000000001p-1022", at(off, off, off))
	wantRow(t, "0x.fffffffffffffffp-1022", at(off, off, off))
	wantRow(t, "0x1.00000000000008p-1022", middle(leastBig, off))
	wantRow(t, "2.2250738585072011e-308", lower(leastBig-1, tiny))
	wantRow(t, "2.2250738585072012e-308", at(tiny, tiny, off))
	wantRow(t, "2.2250738585072013e-308", at(off, off, off))
	wantRow(t, "2.2250738585072014e-308", lower(leastBig, off))
	// Where Underflow ends, all digits of it, of which there are 769 at most, and far behind them.
	turn := new(big.Rat).Sub(powerOf2(-1022), powerOf2(-1076))
	s := decimal(turn)
	wantForms(t, turn, at(off, off, off))
	for _, far := range []int{0, 30, 31, 32, 33, 100, 1000} {
		wantRow(t, more(s, far), at(off, off, off))
		wantRow(t, decimalBelow(s)+strings.Repeat("9", far), at(tiny, tiny, off))
	}
}

// RE1: the least pattern, its half, a little less and more than that, and what is far below.
func TestLeast(t *testing.T) {
	wantForms(t, number(1, -1074), same(1))
	wantForms(t, number(1, -1075), middle(0, tiny))
	wantForms(t, number(3, -1075), middle(1, tiny))
	wantForms(t, number(3, -1076), upper(0, tiny))
	wantForms(t, number(1, -1076), lower(0, tiny))
	wantForms(t, number(5, -1076), lower(1, tiny))
	wantForms(t, number(1<<40+1, -1115), upper(0, tiny))
	wantForms(t, number(1<<40-1, -1115), lower(0, tiny))
	for s, z := range map[string]row{
		"0x1p-1074": same(1), "0x.8p-1073": same(1), "0x2p-1075": same(1), "0x1p-1075": middle(0, tiny), "0x.8p-1074": middle(0, tiny), "0x1.8p-1075": upper(0, tiny), "0x1.8p-1074": middle(1, tiny), "0x1p-1076": lower(0, tiny),
		"0x.8000000000000000000000000000000000000000000000000000000000000001p-1074": upper(0, tiny), "0x.7fffffffffffffffffffffffffffffffffffffffffffffffffffffffffffffffp-1074": lower(0, tiny),
		"4.9406564584124654e-324": upper(0, tiny), "4.9406564584124655e-324": lower(1, tiny), "5e-324": lower(1, tiny), "4e-324": upper(0, tiny), "3e-324": upper(0, tiny), "2.4703282292062328e-324": upper(0, tiny), "2.4703282292062327e-324": lower(0, tiny), "2e-324": lower(0, tiny), "1e-324": lower(0, tiny),
		"1e-325": lower(0, tiny), "1e-330": lower(0, tiny), "1e-399": lower(0, tiny), "1e-400": lower(0, tiny), "1e-401": lower(0, tiny), "1e-402": lower(0, tiny), "9e-400": lower(0, tiny), "999e-403": lower(0, tiny), "1e-1000": lower(0, tiny), "1e-99999": lower(0, tiny), "0x1p-1077": lower(0, tiny), "0x1p-1400": lower(0, tiny), "0x1p-2000": lower(0, tiny), "0x1p-2500": lower(0, tiny), "0x1p-99999": lower(0, tiny),
	} {
		wantRow(t, s, z)
	}
}

// RE1: great whole numbers that differ from a pattern, or from the middle of two, by one bit far below, at every place of some.
func TestGreatWholes(t *testing.T) {
	for _, n := range []int{150, 255, 256, 257, 300, 511, 512, 777, 1022, 1023} {
		for _, f := range []uint64{0, 1, 0x5555555555555, 1<<52 - 2, 1<<52 - 1} {
			p := uint64(n+1023)<<52 + f
			below, at, above := around(p)
			wantForms(t, between(p, 1, 2), at)
			for bit := 0; bit < n-54; bit += 29 {
				little := powerOf2(bit)
				wantWhole(t, new(big.Rat).Add(sizeOf(p), little), below)
				wantWhole(t, new(big.Rat).Sub(between(p, 1, 2), little), below)
				wantWhole(t, new(big.Rat).Add(between(p, 1, 2), little), above)
				wantWhole(t, new(big.Rat).Sub(sizeOf(p+1), little), above)
			}
		}
	}
}

// wantWhole tries a whole number by every mode, by its digits and times ten, parted by it.
func wantWhole(t *testing.T, v *big.Rat, z row) {
	t.Helper()
	digits := decimal(v)
	if strings.Contains(digits, ".") {
		t.Fatalf("%s is no whole number", brief(digits))
	}
	for _, m := range aid.Modes() {
		want(t, digits, m, z[m])
		want(t, "-"+digits+"0e-1", m, mirror(z)[m])
	}
}
