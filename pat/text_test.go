package pat_test

import (
	"fmt"
	"math"
	"strconv"
	"strings"
	"testing"

	"tiller/api"
	"tiller/pat"
)

// PT2, Hex: sixteen digits, small letters, with the noughts ahead.
func TestHex(t *testing.T) {
	for p, want := range map[uint64]string{
		0:                  "0000000000000000",
		1:                  "0000000000000001",
		15:                 "000000000000000f",
		16:                 "0000000000000010",
		0x0123456789abcdef: "0123456789abcdef",
		0xfedcba9876543210: "fedcba9876543210",
		api.One:            "3ff0000000000000",
		0x3fb999999999999a: "3fb999999999999a",
		api.Inf:            "7ff0000000000000",
		api.NaN:            "7ff8000000000000",
		api.Sign:           "8000000000000000",
		math.MaxUint64:     "ffffffffffffffff",
	} {
		if got := pat.Hex(p); got != want {
			t.Errorf("Hex(%#x): %q; want %q", p, got, want)
		}
	}
}

// PT2, Parse: texts of one up to sixteen digits.
func TestParse(t *testing.T) {
	for s, want := range map[string]uint64{
		"0":                0,
		"00":               0,
		"0000000000000000": 0,
		"1":                1,
		"9":                9,
		"a":                10,
		"f":                15,
		"0f":               15,
		"0b1":              0xb1,
		"10":               16,
		"ff":               255,
		"3ff":              0x3ff,
		"123456789abcdef":  0x123456789abcdef,
		"fffffffffffffff":  1<<60 - 1,
		"0000000000000001": 1,
		"0123456789abcdef": 0x0123456789abcdef,
		"fedcba9876543210": 0xfedcba9876543210,
		"3ff0000000000000": api.One,
		"7ff8000000000000": api.NaN,
		"8000000000000000": api.Sign,
		"ffffffffffffffff": math.MaxUint64,
	} {
		got, err := pat.Parse(s)
		wantPattern(t, "Parse of "+s, got, err, want)
	}
}

// PT2, Parse: each digit at each place of a text of each length.
func TestParseEach(t *testing.T) {
	for length := 1; length <= 16; length++ {
		for place := range length {
			for value, digit := range "0123456789abcdef" {
				s := strings.Repeat("0", place) + string(digit) + strings.Repeat("0", length-1-place)
				got, err := pat.Parse(s)
				wantPattern(t, "Parse of "+s, got, err, uint64(value)<<(4*(length-1-place)))
			}
		}
	}
}

// PT2, Parse: texts that are none.
func TestParseForm(t *testing.T) {
	for _, s := range []string{
		"", " ", "-", "+", "-1", "+1", " 1", "1 ", "1 2", "1_0", "1.", ".1", "x", "0x", "0x1", "0o1", "h", "g", "1g", "g1",
		"A", "F", "1A", "A1", "FF", "aF", "3FF0000000000000", "7ff800000000000A", "nan", "inf",
		"00000000000000000", "10000000000000000", "00000000000000001", "fffffffffffffffff", "0x3ff0000000000000",
		strings.Repeat("0", 17), strings.Repeat("0", 32), strings.Repeat("f", 1<<16), strings.Repeat("0", 1<<20),
		"000000000000000g", "g000000000000000", "000000000000000 ", " 000000000000000", "0000000000000000\n", "000000000000000\n",
		"\x00", "1\x00", "\xff", "1\xff2", "\xb0", "\xc0\xb1", "٣", "１", "ａ", "é", "1é", "а", "\u0130", "\U00010030", "\U00010061", "\ufffd",
		strings.Repeat("é", 8), strings.Repeat("é", 16),
	} {
		got, err := pat.Parse(s)
		wantError(t, "Parse of "+strconv.Quote(s[:min(len(s), 40)]), got, err, api.ErrForm)
	}
}

// PT2, Parse: every byte, alone and among digits, and every character of which the low bits are a digit's.
func TestParseBytes(t *testing.T) {
	for b := range 256 {
		value := strings.IndexByte("0123456789abcdef", byte(b))
		for ahead, behind := range map[string]string{"": "", "7": "", "c0": "3", "00000000": "0000000"} {
			s := ahead + string([]byte{byte(b)}) + behind
			got, err := pat.Parse(s)
			if value < 0 {
				wantError(t, "Parse of "+strconv.Quote(s), got, err, api.ErrForm)
				continue
			}
			want, _ := strconv.ParseUint(s, 16, 64)
			wantPattern(t, "Parse of "+strconv.Quote(s), got, err, want)
		}
	}
	for high := 1; high < 0x1100; high++ {
		for _, low := range "09af" {
			s := string(rune(high<<8) | low)
			got, err := pat.Parse(s)
			wantError(t, "Parse of "+strconv.Quote(s), got, err, api.ErrForm)
		}
	}
}

// PT2: Parse of Hex is the pattern, and so it is without the noughts ahead.
func TestParseOfHex(t *testing.T) {
	eachPattern(t, func(p uint64) bool {
		s := pat.Hex(p)
		got, err := pat.Parse(s)
		short, shortErr := pat.Parse(strconv.FormatUint(p, 16))
		return s == fmt.Sprintf("%016x", p) && got == p && err == nil && short == p && shortErr == nil
	})
}
