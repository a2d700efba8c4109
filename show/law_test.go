package show_test

import (
	"strconv"
	"strings"
	"testing"

	"tiller/api"
	"tiller/show"
)

// patterns are the edges, powers of two and their neighbours, and odd ones, of both signs.
func patterns(m mixer, odd int) []uint64 {
	var all []uint64
	for _, p := range append(edges(), powers()...) {
		all = append(all, p, p+minus)
	}
	for range odd {
		all = append(all, m.signed())
	}
	return all
}

// SH4: what Short writes is read as the pattern.
func TestShortAgain(t *testing.T) {
	for _, p := range append(patterns(mixer{29}, 20_000), 0, minus, inf, inf+minus, nan) {
		if s := show.Short(p); patternOf(t, s) != p {
			t.Fatalf("%s of %#x is read as %#x", s, p, patternOf(t, s))
		}
	}
}

// SH4: seventeen digits, rounded to the nearest, are read as the pattern; so are more.
func TestSeventeenAgain(t *testing.T) {
	m := mixer{31}
	for _, p := range patterns(mixer{37}, 10_000) {
		for _, n := range []int{17, 18 + m.Below(20)} {
			for _, mode := range []api.Mode{api.Even, api.Away, -1} {
				s, err := show.Digits(p, n, mode)
				if err != nil || patternOf(t, s) != p {
					t.Fatalf("%s, %v, of Digits(%#x, %d, %d) is not read as it", brief(s), err, p, n, mode)
				}
			}
		}
	}
}

// SH4: with a digit fewer no text is read as the pattern.
func TestShortFewer(t *testing.T) {
	m := mixer{41}
	all := append(edges(), powers()[:300]...)
	for range 1_500 {
		all = append(all, m.finite())
	}
	for _, p := range all {
		n := count(t, show.Short(p)) - 1
		if n == 0 {
			continue
		}
		for _, s := range around(sizeOf(p), n) {
			if patternOf(t, s) == p {
				t.Fatalf("%s is read as %#x, which is told as %s", s, p, show.Short(p))
			}
		}
	}
}

// SH4: the same with all texts of one digit, and of two, wherever the point stands.
func TestShortFewerOfFew(t *testing.T) {
	texts := map[uint64]int{} // the fewest digits of those that are read as a pattern
	for e := -326; e <= 309; e++ {
		for n := 99; n >= 1; n-- {
			digits := len(strings.TrimRight(strconv.Itoa(n), "0"))
			p := patternOf(t, strconv.Itoa(n)+"e"+strconv.Itoa(e))
			if old, ok := texts[p]; !ok || digits < old {
				texts[p] = digits
			}
		}
	}
	delete(texts, 0)
	delete(texts, inf)
	for p, digits := range texts {
		if n := count(t, show.Short(p)); n != digits {
			t.Errorf("Short(%#x): %s; there is a text of %d digits", p, show.Short(p), digits)
		}
	}
}

// SH1 and SH2: texts have their form: just so many digits, the first not 0, and a power without needless noughts; what is short ends with no nought.
func TestForm(t *testing.T) {
	m := mixer{43}
	for _, p := range patterns(mixer{47}, 5_000) {
		n := 1 + m.Below(40)
		s, err := show.Digits(p, n, m.Mode())
		if err != nil || count(t, s) != n || (s[0] == '-') != (p >= minus) {
			t.Fatalf("Digits(%#x, %d): %s, %v", p, n, s, err)
		}
		s = show.Short(p)
		n = count(t, s)
		if n > mostShort || n > 1 && strings.Contains(s, "0e") || (s[0] == '-') != (p >= minus) {
			t.Fatalf("Short(%#x): %s", p, s)
		}
	}
}

// SH1 and SH2: of a pattern with as few digits as are read as it, the nearest text is Short's, where it is read as the pattern at all.
func TestShortIsNearest(t *testing.T) {
	apart := 0
	for _, p := range patterns(mixer{53}, 5_000) {
		short := show.Short(p)
		s, err := show.Digits(p, count(t, short), api.Even)
		if err != nil {
			t.Fatal(err)
		}
		if s == short {
			continue
		}
		apart++
		if patternOf(t, s) == p {
			t.Fatalf("Short(%#x): %s; %s is nearer", p, short, s)
		}
	}
	// 2^-44 is one of them.
	if apart == 0 {
		t.Error("no pattern is told by a text that is not the nearest one")
	}
}
