package plan_test

import (
	"slices"
	"strconv"
	"strings"
	"testing"

	"tiller/aid"
	"tiller/api"
	"tiller/plan"
)

// wantText fails, if a text is not told as the rules say, whether it is a plan's or not.
func wantText(t *testing.T, text string) {
	t.Helper()
	wanted, ok := planOf(text)
	if !ok {
		wantNoText(t, text)
		return
	}
	if p, err := plan.Parse(text); !same(p, wanted) || err != nil {
		t.Errorf("Parse(%q): %v, %v; want %v", text, p, err, wanted)
	}
	if again, err := plan.Text(wanted); again != text || err != nil {
		t.Errorf("Text(%v): %q, %v; want %q", wanted, again, err, text)
	}
}

// PL3: texts that are near a plan's, but none's.
func TestNoText(t *testing.T) {
	texts := []string{
		"", " ", "=", "~", "x", "1", "12", "1=", "=1", "12=", "12~", "=4x3", "~64", "==", "~~", "1=1=1", "17~64~64", "12=4x3=", "12=4x3~32", "12~32=4x3", "17~64=1", "1~1=1", "1=1~1", "12=x", "12=4x", "12=x4", "12=4xx3", "12=x4x3", "12=4x3x",
		"+12=4x3", "12=+4x3", "12=4x+3", "-12=4x3", "4=-2x-2", "12=4x-3x-1", "+17~64", "17~+64", "-17~64", "17~-64", "1=+1", "+1=1", "-1=-1", "1=-1", "1~-1",
		"012=4x3", "12=04x3", "12=4x03", "017~64", "17~064", "01=1", "1=01", "01~1", "1~01", "00=1", "0=1", "1=0", "0=0", "0~1", "1~0", "0~0", "00012=4x3", "12=4x3x01",
		" 12=4x3", "12=4x3 ", "12 =4x3", "12= 4x3", "12=4 x3", "12=4x 3", "12=4x3\n", "\t12=4x3", "17 ~64", "17~ 64", "17~64 ", " 17~64", "1=1 ", "12=4x3\x00", "\ufeff12=4x3",
		"1=1x1", "2=1x2", "2=2x1", "4=4x1", "12=1x4x3", "12=4x1x3", "12=1", "2=1", "17=1", "6=6", "8=8", "9=9", "12=12", "12=2x6", "17=17", "34=2x17", "26=26", "16=16",
		"12=4", "12=3", "12=4x4", "12=4x3x2", "11=4x3", "13=4x3", "24=4x3", "1=2", "1=4x3", "2=4",
		"17~32", "17~63", "17~65", "17~96", "17~16", "17~1", "17~134217728", "17~67108865", "2~2", "33~64", "16777216~16777216", "16777217~33554432", "16777217~67108864", "33554432~67108864", "8388609~16777216",
		"33554432=4x4x4x4x4x4x4x4x4x4x4x4x2", "33554432=2x2x2x2x2x2x2x2x2x2x2x2x2x2x2x2x2x2x2x2x2x2x2x2x2", "16777216=2x2x2x2x2x2x2x2x2x2x2x2x2x2x2x2x2x2x2x2x2x2x2x2x2", "16777216=2x2x2x2x2x2x2x2x2x2x2x2x2x2x2x2x2x2x2x2x2x2x2",
		"18446744073709551628=4x3", "12=18446744073709551620x3", "12=4x18446744073709551619", "17~18446744073709551680", "18446744073709551633~64", "4294967308=4x3", "12=4294967300x3", "17~4294967360", "9223372036854775807=1", "9223372036854775808=1", "1~9223372036854775807", "1~9223372036854775808",
		"12=4X3", "12=4*3", "12=4,3", "12=4×3", "12:4x3", "12-4x3", "17-64", "12=4x3.", "12.0=4x3", "0xc=4x3", "12=0x4x3", "1_2=4x3", "12=4x3_", "1_7~64", "17~6_4", "1e1=2x5", "10=2x5.0", "17~1e2", "١٢=4x3", "12=４x3", "twelve", "NaN", "\xff", "12=4x\xff3",
		"17˜64", "12=4x3;", "{12 [4 3] 0}",
	}
	for _, text := range texts {
		if _, ok := planOf(text); ok {
			t.Errorf("%q is a plan's text", text)
		}
		wantNoText(t, text)
	}
}

// PL3: ErrForm of texts of any length, rows of plain parts, too.
func TestLongTexts(t *testing.T) {
	for _, n := range []int{50, 56, 57, 64, 100, 1000, 65_536, 3_000_000} {
		row := strings.Repeat("0", n)
		for _, text := range []string{row, row + "12=4x3", "12" + row + "=4x3", "12=" + row + "4x3", "12=4x3" + row, "17~" + row + "64", "17~64" + row, "1=1" + row, "1=1" + strings.Repeat("x1", n), "12=4x3" + strings.Repeat("x1", n), "16777216=2" + strings.Repeat("x2", n), "2=2" + strings.Repeat("x2", n), "4=4" + strings.Repeat("=4", n), "17~64" + strings.Repeat("~64", n), "12=4x3" + strings.Repeat("x", n), strings.Repeat("x", n), strings.Repeat("9", n) + "=1", "12=4x3" + strings.Repeat(" ", n), strings.Repeat("-", n)} {
			wantNoText(t, text)
		}
	}
	for parts := range 24 {
		n := 1 << parts
		wantText(t, strconv.Itoa(2*n)+"=2"+strings.Repeat("x2", parts))
		wantText(t, strconv.Itoa(n)+"=2"+strings.Repeat("x2", parts))
	}
}

// PL3: every text of up to 5 bytes that the letters of plans' texts, and others, make.
func TestAllShortTexts(t *testing.T) {
	letters, found := "0123456789=x~+- ", 0
	texts := []string{""}
	for len(texts) > 0 {
		text := texts[len(texts)-1]
		texts = texts[:len(texts)-1]
		p, err := plan.Parse(text)
		wanted, ok := planOf(text)
		switch {
		case ok && (err != nil || !same(p, wanted)):
			t.Errorf("Parse(%q): %v, %v; want %v", text, p, err, wanted)
		case !ok && (aid.Errno(err) != int(api.ErrForm) || !empty(p)):
			t.Errorf("Parse(%q): %v, %v", text, p, err)
		case ok:
			found++
		}
		for k := range letters {
			if len(text) < 5 {
				texts = append(texts, text+letters[k:k+1])
			}
		}
	}
	if found != shortTexts() {
		t.Errorf("%d texts are plans'", found)
	}
}

// shortTexts is how many plans have a text of up to 5 bytes, counted by their numbers.
func shortTexts() int {
	found := 0
	for n := 1; n <= 999; n++ {
		for pad := 1; pad <= 9999; pad *= 2 {
			if mayBe(padded(n, pad)) && len(textOf(padded(n, pad))) <= 5 {
				found++
			}
		}
		for _, p := range []plan.Plan{byParts(n), byParts(n, n)} {
			if mayBe(p) && len(textOf(p)) <= 5 {
				found++
			}
		}
		for _, r := range lengths() {
			if p := byParts(n, r, n/r); mayBe(p) && len(textOf(p)) <= 5 {
				found++
			}
		}
	}
	return found
}

// PL3, PL4: Parse of Text is the plan; texts of which a byte is another one, one more or one less are told as what they are.
func TestChangedTexts(t *testing.T) {
	m := mixer{7}
	letters := "0123456789=x~+- 4321"
	for range 30_000 {
		p := m.plan()
		text := []byte(textOf(p))
		wantText(t, string(text))
		at, letter := m.Below(len(text)), letters[m.Below(len(letters))]
		switch m.Below(4) {
		case 0:
			text[at] = letter
		case 1:
			text = slices.Insert(text, at, letter)
		case 2:
			text = slices.Delete(text, at, at+1)
		default:
			other := m.Below(len(text))
			text[at], text[other] = text[other], text[at]
		}
		wantText(t, string(text))
	}
}
