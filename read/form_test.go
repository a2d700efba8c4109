package read_test

import (
	"slices"
	"strings"
	"testing"

	"tiller/aid"
	"tiller/api"
)

// signs are those that a text may have.
var signs = []string{"", "+", "-"}

// RE1: what is no text is ErrForm by every mode, and nothing is beside it.
func TestNoText(t *testing.T) {
	for _, s := range []string{
		"", "+", "-", "++", "--", "+-", "-+", "++1", "--1", "+-1", "-+1", "1+", "1-", " ", "1 ", " 1", "+ 1", "1 e5", "1\n", "\n1", "1\x00", "\x00", "\xff", "1\xff",
		"x", "1x", "1_000", "1,5", "1'0", "1f", "1a", "0b1", "0o7", "00x1p0", "1x1p0", "x1p0",
		"\u0661", "1\u0660", "\uff11", "\u2212" + "1", "1\u00b2", "\u221e",
		// decimal
		".", "..", "+.", "-.", "1..", "..1", "1..2", "1.2.", ".1.", ".1.2", "1.2.3", ".e5", "+.e5", "e", "e5", "-e5", ".e", "1e", "1.e", ".1e", "1.5e", "1e+", "1e-", "1.5e+", "1.5e-", "0e", "0e+", "0e-", ".0e",
		"1e5e", "1e5e5", "1ee5", "1e.", "1e.5", "1e5.", "1e5.5", "1e+-5", "1e--5", "1e++5", "1e5+", "1e5-", "1e 5", "1e5 ", "1ea", "1e0x1", "1e5f", "1E5", "1E+5", "1e5x", "1p5", "1.5p5", "1e5p5", "1einf", "1enan", "1e\u0665",
		// of base 16
		"0x", "0xp", "0xp0", "0x.", "0x.p0", "0xp5", "0x0", "0x1", "0x1.", "0x.1", "0x1.8", "0xe5", "0x1e5", "0x1e+5", "0x1p", "0x1p+", "0x1p-", "0x1.p", "0x1pp0", "0x1p0p0", "0x1p0p", "0x1p.", "0x1p1.5", "0x1pa", "0x1p0x1", "0x1p+-1", "0x1p--1",
		"0x..1p0", "0x1..p0", "0x1.2.3p0", "0x+1p0", "0x-1p0", "0x+", "0x-", "0x 1p0", "0x1 p0", "0x1p 0", "0x1p0 ", "0X1p0", "0x1P0", "0X1P0", "0xAp0", "0x1Fp0", "0x1.Fp0", "0xgp0", "0x1gp0", "0x1hp0", "0x0x1p0", "0xinf", "0xnan", "0x1,8p0", "0x1_0p0",
	} {
		for _, sign := range signs {
			// The tests' own grammar has to say the same.
			if grammar.MatchString(sign + s) {
				t.Fatalf("%s is a text", brief(sign+s))
			}
			wantError(t, sign+s, api.ErrForm)
		}
	}
}

// RE1: inf and nan with each sign, and what is neither.
func TestNames(t *testing.T) {
	wantSame(t, "inf", inf)
	wantSame(t, "+inf", inf)
	wantSame(t, "-inf", inf+minus)
	wantSame(t, "nan", nan)
	wantSame(t, "+nan", nan)
	wantSame(t, "-nan", nan)
	for _, name := range []string{"inf", "nan"} {
		for _, sign := range append(signs, "++", "--", "+-", "-+", " ", "0", "0x", "1", ".", "e") {
			for _, behind := range []string{"", " ", "\x00", "\n", "0", "1", ".", "e", "e0", "e5", "p0", "+", "-", "inf", "nan", "inity", "(1)", "x"} {
				if !slices.Contains(signs, sign) || behind != "" {
					wantError(t, sign+name+behind, api.ErrForm)
				}
			}
			for _, other := range []string{strings.ToUpper(name), strings.ToUpper(name[:1]) + name[1:], name[:2] + strings.ToUpper(name[2:]), name[:2], name[1:], name[:1]} {
				wantError(t, sign+other, api.ErrForm)
			}
		}
	}
	for _, s := range []string{"infinity", "Infinity", "-infinity", "∞", "snan", "qnan", "nan0x1"} {
		wantError(t, s, api.ErrForm)
	}
}

// RE1: decimal texts with digits on both sides of the point, on one of them, and with every form of a whole number.
func TestDecimalForms(t *testing.T) {
	for s, p := range map[string]uint64{
		"1": one, "2": two, "10": ten, "1.": one, "1.0": one, "0.5": half, ".5": half, "5.e-1": half, "10.": ten, "10.0": ten, "1.5": 0x3ff8000000000000, "9": 0x4022000000000000,
		"1e0": one, "1e+0": one, "1e-0": one, "1e1": ten, "1e+1": ten, "100e-1": ten, "1.e1": ten, ".1e2": ten, "1.0e1": ten, "0.1e2": ten, "1000e-2": ten, "1e01": ten, "1e+0001": ten, "100e-0001": ten, "5e-1": half, "5.0e-1": half, "50e-2": half,
		"123456789": 0x419d6f3454000000, "1234567890123456": 0x43118b54f22aeb00, "0.0009765625": 0x3f50000000000000,
	} {
		wantRow(t, s, same(p))
	}
}

// RE1: texts of base 16, with every form of digits and of a whole number.
func TestSixteenForms(t *testing.T) {
	for s, p := range map[string]uint64{
		"0x1p0": one, "0x1.p0": one, "0x1.0p0": one, "0x.1p4": one, "0x0.1p4": one, "0x10p-4": one, "0x1p+0": one, "0x1p-0": one, "0x1p+00": one, "0x01p0": one, "0x8p-3": one, "0x.8p1": one,
		"0x1p1": two, "0x2p0": two, "0x.8p2": two, "0x1p-1": half, "0x.8p0": half, "0x1p-01": half, "0xap0": ten, "0xa.p0": ten, "0xa.0p0": ten, "0x5p1": ten, "0x1.4p3": ten, "0x1.4p+3": ten, "0x1.4p003": ten, "0x14p-1": ten,
		"0x1e5p0": 0x407e500000000000, "0xe.ep0": 0x402dc00000000000, "0xabcdefp0": 0x4165_79bd_e000_0000, "0x1.8p0": 0x3ff8000000000000, "0xfp0": 0x402e000000000000, "0x.fp4": 0x402e000000000000,
		"0x1.fffffffffffffp1023": last, "0x0.0000000000001p-1022": 1, "0x1p-1074": 1, "0x0.fffffffffffffp-1022": leastBig - 1, "0x1p-1022": leastBig,
	} {
		wantRow(t, s, same(p))
	}
}

// RE1: digits that are all 0 are a 0 of the sign, whatever the whole number is.
func TestNoughts(t *testing.T) {
	for _, sign := range signs {
		p := uint64(0)
		if sign == "-" {
			p = minus
		}
		for _, digits := range []string{"0", "00", "0.", ".0", "0.0", "000.000", "." + noughts(500), noughts(500) + ".", noughts(900) + "." + noughts(900)} {
			wantSame(t, sign+digits, p)
			for _, whole := range []string{"0", "-0", "+0", "1", "-1", "+1", "308", "309", "400", "-324", "-400", "1100", "-1100", "9999999", "-9999999", "99999999999", "-99999999999", "9223372036854775807", "9223372036854775808", "-9223372036854775808", "-9223372036854775809", "18446744073709551616", "-18446744073709551616", strings.Repeat("9", 1000), "-" + strings.Repeat("9", 1000), noughts(1000)} {
				wantSame(t, sign+digits+"e"+whole, p)
				wantSame(t, sign+"0x"+digits+"p"+whole, p)
			}
		}
	}
}

// RE1: odd rows of the grammar's characters are held against the grammar, and those that are texts against what they denote.
func TestOddTexts(t *testing.T) {
	m := mixer{3}
	texts := 0
	for range 300_000 {
		var b strings.Builder
		b.WriteString(m.pick("", "", "+", "-"))
		b.WriteString(m.pick("", "", "0x"))
		for range m.Below(6) {
			b.WriteString(m.pick("0", "1", "9", ".", ".", "e", "p", "+", "-", "a", "f", "x", "inf", "nan", "E", " "))
		}
		s := b.String()
		if grammar.MatchString(s) {
			texts++
		}
		checkAll(t, s, m.Mode())
		if t.Failed() {
			return
		}
	}
	if texts < 10_000 {
		t.Errorf("%d of them are texts", texts)
	}
}

// RE1: a byte that does not belong there makes any text none; one that is left out, or put twice, is held against the grammar.
func TestOneByte(t *testing.T) {
	for _, s := range []string{"-12.5e+10", "+0x1a.8p-3", ".5e1", "0x.8p1", "inf", "-nan", "7"} {
		for i := range len(s) + 1 {
			for c := range 256 {
				checkAll(t, s[:i]+string([]byte{byte(c)})+s[i:], api.Even)
				if i < len(s) {
					checkAll(t, s[:i]+string([]byte{byte(c)})+s[i+1:], api.Up)
				}
			}
			if i < len(s) {
				checkAll(t, s[:i]+s[i+1:], api.Down)
			}
		}
	}
}

// RE1 and RE2: the examples of the chapter and of the document.
func TestExamples(t *testing.T) {
	want(t, "0.1", api.Even, answer{0x3fb999999999999a, off, 0})
	for _, m := range aid.AllModes() {
		want(t, "0x1p-1074", m, answer{1, none, 0})
	}
	wantRow(t, "0.1", upper(0x3fb9999999999999, off))
	wantRow(t, "1e-1", upper(0x3fb9999999999999, off))
}
