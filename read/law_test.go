package read_test

import (
	"cmp"
	"errors"
	"math"
	"math/big"
	"slices"
	"strconv"
	"strings"
	"testing"

	"tiller/aid"
	"tiller/api"
)

// RE1, all of it, word for word: odd texts of digits.
func TestAll(t *testing.T) {
	m := mixer{7}
	for range 100_000 {
		checkAll(t, m.pick("", "+", "-")+m.numeral(), m.Mode())
		if t.Failed() {
			return
		}
	}
}

// RE1, all of it, word for word: texts of many digits, with whole numbers that make up for them or do not.
func TestAllLong(t *testing.T) {
	m := mixer{11}
	for range 1_500 {
		n := 1 + m.Below(3000)
		power := m.Below(n+800) - 400
		s := m.pointed(m.row("0123456789", n)) + "e-" + strconv.Itoa(max(power, 0))
		if m.Below(2) == 0 {
			s = "0x" + m.pointed(m.row("0123456789abcdef", n)) + "p-" + strconv.Itoa(4*max(power, 0))
		}
		checkAll(t, m.pick("", "+", "-")+s, m.Mode())
		if t.Failed() {
			return
		}
	}
}

// RE1 and RE2, word for word: what lies at, or next to, a pattern or the middle of two, with all its digits, changed at the last one or far behind.
func TestAllNear(t *testing.T) {
	m := mixer{13}
	for range 1_500 {
		p := m.finite()
		v := between(p, int64(m.Below(3)), 2)
		if v.Sign() == 0 {
			continue
		}
		s := forms(v)[m.Below(3)]
		digits, whole, _ := strings.Cut(s, "e")
		switch m.Below(4) {
		case 0:
			digits = more(digits, m.Below(900))
		case 1:
			// Of a whole number this is another one, which is held against its own digits.
			digits = strings.TrimRight(digits, "0.")
			digits = digits[:len(digits)-1] + string(digits[len(digits)-1]-1) + strings.Repeat("9", m.Below(900))
		case 2:
			digits += "0"
		}
		if whole != "" {
			whole = "e" + whole
		}
		checkAll(t, m.pick("", "+", "-")+digits+whole, m.Mode())
		if t.Failed() {
			return
		}
	}
}

// RE1: by Even a text is what the machine's library makes of it.
func TestAsTheLibrary(t *testing.T) {
	m := mixer{17}
	for range 300_000 {
		s := m.pick("", "+", "-") + m.numeral()
		f, err := strconv.ParseFloat(s, 64)
		if err != nil && !errors.Is(err, strconv.ErrRange) {
			t.Fatalf("%s: %v", brief(s), err)
		}
		if z := parse(s, api.Even); z.p != math.Float64bits(f) || z.err != 0 {
			t.Fatalf("Parse(%s, Even): %#x, error %d; want %#x", brief(s), z.p, z.err, math.Float64bits(f))
		}
	}
}

// RE1: what the machine's library writes of a pattern is read as that pattern: by its fewest digits and by seventeen, and by those of base 16 without flags by every mode.
func TestAgain(t *testing.T) {
	m := mixer{19}
	for range 100_000 {
		p := m.finite()
		f := math.Float64frombits(p)
		for _, digits := range []int{-1, 16} {
			if s := strconv.FormatFloat(f, 'e', digits, 64); parse(s, api.Even).p != p {
				t.Fatalf("Parse(%s, Even): not %#x", s, p)
			}
		}
		s, mode := strconv.FormatFloat(f, 'x', -1, 64), m.Mode()
		want(t, s, mode, answer{p: p})
		want(t, "-"+s, mode, answer{p: p + minus})
		if t.Failed() {
			return
		}
	}
}

// RE2: noughts ahead of the digits, and behind them and the point, change nothing; nor does a point that is moved with the whole number.
func TestNoughtsChangeNothing(t *testing.T) {
	m := mixer{23}
	for range 20_000 {
		s, mode := m.numeral(), m.Mode()
		z := parse(s, mode)
		body, sixteen := strings.CutPrefix(s, "0x")
		front, mark := "", "e"
		if sixteen {
			front, mark = "0x", "p"
		}
		digits, whole, ok := strings.Cut(body, mark)
		if ok {
			whole = mark + whole
		}
		want(t, front+noughts(m.Below(100))+digits+whole, mode, z)
		if !strings.Contains(digits, ".") {
			digits += m.pick(".", ".0")
		}
		want(t, front+digits+whole, mode, z)
		want(t, front+digits+noughts(m.Below(900))+whole, mode, z)
		want(t, front+noughts(m.Below(900))+digits+noughts(m.Below(100))+whole, mode, z)
		if t.Failed() {
			return
		}
	}
}

// RE2: what would be another pattern, if it were rounded to 53 bits, or to few digits, ahead of the last rounding.
func TestNotTwice(t *testing.T) {
	// Next to the middle of two tiny patterns: 53 bits of it lie in the middle.
	for p := uint64(1); p < 40; p++ {
		v := between(p, 1, 2)
		little := powerOf2(-1075 - 60)
		wantRow(t, decimal(new(big.Rat).Add(v, little)), upper(p, tiny))
		wantRow(t, decimal(new(big.Rat).Sub(v, little)), lower(p, tiny))
		wantRow(t, "0x"+strconv.FormatUint(p, 16)+".8"+noughts(15)+"1p-1074", upper(p, tiny))
		wantRow(t, "0x"+strconv.FormatUint(p, 16)+".7"+strings.Repeat("f", 15)+"p-1074", lower(p, tiny))
	}
	wantRow(t, "9007199254740993", middle(0x4340000000000000, off))
	wantRow(t, "9007199254740993.00000000000000000000000000001", upper(0x4340000000000000, off))
	wantRow(t, "9007199254740992.99999999999999999999999999999", lower(0x4340000000000000, off))
	wantRow(t, "9007199254740995", middle(0x4340000000000001, off))
	wantRow(t, "9007199254740994.99999999999999999999999999999", lower(0x4340000000000001, off))
}

// RE1: the other sign is rounded as the size is, Up and Down changing places.
func TestMirror(t *testing.T) {
	m := mixer{29}
	turned := map[api.Mode]api.Mode{api.Up: api.Down, api.Down: api.Up}
	for range 50_000 {
		s, mode := m.numeral(), m.Mode()
		other, ok := turned[mode]
		if !ok {
			other = mode
		}
		z := parse(s, mode)
		want(t, "+"+s, mode, z)
		want(t, "-"+s, other, answer{z.p ^ minus, z.f, z.err})
		if t.Failed() {
			return
		}
	}
}

// RE1 and RN3: of two texts the one that denotes more is never read as less, by every mode.
func TestGreaterNeverLess(t *testing.T) {
	type text struct {
		s string
		v *big.Rat
	}
	m := mixer{31}
	var rising []text
	for range 3_000 {
		s := m.numeral()
		rising = append(rising, text{s, denoted(t, grammar.FindStringSubmatch(s))})
	}
	slices.SortFunc(rising, func(a, b text) int { return a.v.Cmp(b.v) })
	for _, mode := range aid.AllModes() {
		before := uint64(0)
		for _, x := range rising {
			z := parse(x.s, mode)
			if cmp.Less(z.p, before) {
				t.Fatalf("Parse(%s, %d): %#x, after %#x", brief(x.s), mode, z.p, before)
			}
			before = z.p
		}
	}
}

// RE1: whole numbers at every digit count, of both signs, and those that are another number in fewer bits.
func TestWholeNumbers(t *testing.T) {
	for n := 3; n < 60; n++ {
		for _, whole := range []string{strings.Repeat("9", n), "1" + noughts(n), "4" + strings.Repeat("7", n)} {
			wantRow(t, "1e"+whole, beyond())
			wantRow(t, "1e+"+whole, beyond())
			wantRow(t, "1e-"+whole, lower(0, tiny))
			wantRow(t, "0x1p-"+whole+"0", lower(0, tiny))
			wantRow(t, "0x1p"+whole+"0", beyond())
			wantRow(t, "1e"+noughts(n), same(one))
			wantRow(t, "1e-"+noughts(n)+"0", same(one))
			wantRow(t, "1e+"+noughts(n)+"1", same(ten))
		}
	}
	for bits := 16; bits <= 130; bits++ {
		power := new(big.Int).Lsh(big.NewInt(1), uint(bits))
		for d := int64(-1); d <= 1; d++ {
			whole := new(big.Int).Add(power, big.NewInt(d)).String()
			for _, mark := range []string{"1e", "0x1p", "123.456e", "0xa.bp"} {
				wantRow(t, mark+whole, beyond())
				wantRow(t, mark+"-"+whole, lower(0, tiny))
			}
		}
	}
}
