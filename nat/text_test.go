package nat_test

import (
	"math/big"
	"slices"
	"strconv"
	"strings"
	"testing"

	"tiller/api"
	"tiller/nat"
)

// NT3, Decimal: no needless noughts, and all the needed ones.
func TestDecimal(t *testing.T) {
	for _, c := range []struct {
		a    nat.N
		want string
	}{
		{nil, "0"},
		{nat.N{}, "0"},
		{nat.N{1}, "1"},
		{nat.N{10}, "10"},
		{nat.N{999_999_999}, "999999999"},
		{nat.N{1_000_000_000}, "1000000000"},
		{nat.N{1_000_000_007}, "1000000007"},
		{nat.N{full}, "4294967295"},
		{nat.N{0, 1}, "4294967296"},
		{nat.N{full, full}, "18446744073709551615"},
		{nat.N{0, 0, 1}, "18446744073709551616"},
		{nat.N{0xa7640000, 0xde0b6b3}, "1000000000000000000"},
		{nat.N{0x63100000, 0x6bc75e2d, 5}, "100000000000000000000"},
	} {
		if got, err := nat.Decimal(c.a); got != c.want || err != nil {
			t.Errorf("Decimal(%v): %q, %v; want %q", c.a, got, err, c.want)
		}
	}
	for _, a := range []nat.N{most(), power(262143), words(8192, 1)} {
		if got, err := nat.Decimal(a); got != toBig(a).String() || err != nil {
			t.Errorf("Decimal(%s): %d digits, %v", brief(a), len(got), err)
		}
	}
}

// NT3, Decimal: powers of ten, and their neighbours.
func TestDecimalPowers(t *testing.T) {
	for n := range 120 {
		power := new(big.Int).Exp(big.NewInt(10), big.NewInt(int64(n)), nil)
		for _, text := range []string{"1" + strings.Repeat("0", n), "1" + strings.Repeat("0", n) + "1", "9" + strings.Repeat("9", n)} {
			want, ok := new(big.Int).SetString(text, 10)
			if !ok {
				t.Fatal(text)
			}
			if got, err := nat.Decimal(fromBig(want)); got != text || err != nil {
				t.Errorf("Decimal: %q, %v; want %q", got, err, text)
			}
		}
		if got, err := nat.Decimal(fromBig(power)); got != power.String() || err != nil {
			t.Errorf("Decimal: %q, %v; want %v", got, err, power)
		}
	}
}

// NT3, Parse.
func TestParse(t *testing.T) {
	nines := strings.Repeat("9", 20_000)
	great, _ := new(big.Int).SetString(nines, 10)
	for _, c := range []struct {
		s    string
		want nat.N
	}{
		{"0", nil},
		{"00", nil},
		{strings.Repeat("0", 20_000), nil},
		{"1", nat.N{1}},
		{"01", nat.N{1}},
		{"9", nat.N{9}},
		{"10", nat.N{10}},
		{"999999999", nat.N{999_999_999}},
		{"1000000000", nat.N{1_000_000_000}},
		{"4294967295", nat.N{full}},
		{"4294967296", nat.N{0, 1}},
		{"18446744073709551616", nat.N{0, 0, 1}},
		{"000000000000000018446744073709551616", nat.N{0, 0, 1}},
		{"100000000000000000000", nat.N{0x63100000, 0x6bc75e2d, 5}},
		{strings.Repeat("0", 19_999) + "7", nat.N{7}},
		{nines, fromBig(great)},
	} {
		got, err := nat.Parse(c.s)
		wantNumber(t, "Parse of "+c.s[:min(len(c.s), 50)], got, err, c.want)
	}
}

// NT3, Parse: texts that are no number.
func TestParseForm(t *testing.T) {
	for _, s := range []string{"", " ", "-", "+", "-1", "+1", " 1", "1 ", "1 2", "1_000", "1,000", "1.", ".1", "1e3", "0x1", "a", "1a", "a1", "/", ":", "1/", "1:", "\x00", "1\x00", "\xff", "1\xff2", "\xb0", "\xb1\xb2", "٣", "１", "1\n", "12345678901234567890x", "x12345678901234567890"} {
		got, err := nat.Parse(s)
		wantError(t, "Parse of "+strconv.Quote(s), got, err, api.ErrForm)
	}
	for b := range 256 {
		s := "12" + string([]byte{byte(b)}) + "34"
		got, err := nat.Parse(s)
		if b < '0' || b > '9' {
			wantError(t, "Parse of "+strconv.Quote(s), got, err, api.ErrForm)
			continue
		}
		wantNumber(t, "Parse of "+strconv.Quote(s), got, err, nat.Of(12034+100*uint64(b-'0')))
	}
}

// NT3, Parse: too many digits, noughts among them; what is no number is ErrForm first.
func TestParseLong(t *testing.T) {
	for _, s := range []string{strings.Repeat("1", 20_001), strings.Repeat("0", 20_001), strings.Repeat("0", 20_000) + "1", strings.Repeat("9", 100_000)} {
		got, err := nat.Parse(s)
		wantError(t, "Parse of a long text", got, err, api.ErrLong)
	}
	for _, s := range []string{strings.Repeat("1", 20_000) + "x", "-" + strings.Repeat("1", 20_000), strings.Repeat("1", 20_001) + " ", strings.Repeat("x", 100_000)} {
		got, err := nat.Parse(s)
		wantError(t, "Parse of a long text that is no number", got, err, api.ErrForm)
	}
}

// NT4: Parse of Decimal is the number; both against other means.
func TestTextLaw(t *testing.T) {
	m := mixer{7}
	all := append(corners(), words(2076, full), power(66438))
	for range 3000 {
		all = append(all, m.number(12))
	}
	for range 10 {
		all = append(all, m.number(2076))
	}
	for _, a := range all {
		text, err := nat.Decimal(a)
		if err != nil || text != toBig(a).String() || len(text) > 20_000 {
			t.Fatalf("Decimal(%s): %q, %v", brief(a), text, err)
		}
		back, err := nat.Parse(text)
		if err != nil || !slices.Equal(back, a) {
			t.Fatalf("Parse(%q): %v, %v", text, back, err)
		}
		back, err = nat.Parse(strings.Repeat("0", min(20, 20_000-len(text))) + text)
		if err != nil || !slices.Equal(back, a) {
			t.Fatalf("Parse(%q), noughts ahead: %v, %v", text, back, err)
		}
	}
}

// NT4 ends at 20,000 digits: the greatest number of 20,000 is read again, the next one is not.
func TestTextEdge(t *testing.T) {
	last := new(big.Int).Exp(big.NewInt(10), big.NewInt(20_000), nil)
	text, err := nat.Decimal(fromBig(last))
	if err != nil || text != last.String() {
		t.Fatalf("Decimal of 10^20000: %d digits, %v", len(text), err)
	}
	got, err := nat.Parse(text)
	wantError(t, "Parse of 10^20000", got, err, api.ErrLong)
	last.Sub(last, big.NewInt(1))
	text, err = nat.Decimal(fromBig(last))
	if err != nil || len(text) != 20_000 {
		t.Fatalf("Decimal of 10^20000 - 1: %d digits, %v", len(text), err)
	}
	got, err = nat.Parse(text)
	wantNumber(t, "Parse of 10^20000 - 1", got, err, fromBig(last))
}
