package narrow_test

import (
	"math"
	"math/big"
	"testing"

	"tiller/aid"
	"tiller/api"
	"tiller/narrow"
)

// toCase is a pattern above 0, and what is answered by Even, Away, Zero, Up and Down.
type toCase struct {
	what string
	p    uint64
	want [5]answer
}

// same is one pattern by every mode, without flags.
func same(q uint32) [5]answer {
	z := answer{q, none}
	return [5]answer{z, z, z, z, z}
}

// apart is what is rounded to low, or to high, with the same flags: by Even and Away to those that are told.
func apart(even, away, low, high uint32, f api.Flags) [5]answer {
	return [5]answer{{even, f}, {away, f}, {low, f}, {high, f}, {low, f}}
}

// lower, middle and upper lie between low and the next one: below the middle, in it, with an even low, and above it, or in it, with an odd low.
func lower(low uint32, f api.Flags) [5]answer  { return apart(low, low, low, low+1, f) }
func middle(low uint32, f api.Flags) [5]answer { return apart(low, low+1, low, low+1, f) }
func upper(low uint32, f api.Flags) [5]answer  { return apart(low+1, low+1, low, low+1, f) }

// beyond is what is too great.
func beyond() [5]answer { return apart(inf4, inf4, last4, inf4, great) }

// mirror is what is answered of the same number with the other sign: Up and Down change places.
func mirror(want [5]answer) [5]answer {
	want[api.Up], want[api.Down] = want[api.Down], want[api.Up]
	for m := range want {
		want[m].q ^= minus4
	}
	return want
}

// play tries every case by every mode and both signs; a mode that is none is as Even.
func play(t *testing.T, cases []toCase) {
	t.Helper()
	for _, c := range cases {
		turned := mirror(c.want)
		try := func(m, as api.Mode) {
			t.Helper()
			wantTo(t, c.what, c.p, m, c.want[as])
			wantTo(t, c.what, c.p+minus, m, turned[as])
		}
		for _, m := range aid.Modes() {
			try(m, m)
		}
		for _, m := range aid.NoModes() {
			try(m, api.Even)
		}
	}
}

// NA1: what is no number is one pattern, without its sign and its fraction; Loud raises Invalid, Quiet nothing.
func TestToNoNumber(t *testing.T) {
	for _, m := range aid.AllModes() {
		for _, p := range quiets {
			wantTo(t, "Quiet", p, m, answer{0x7fc00000, none})
		}
		for _, p := range louds {
			wantTo(t, "Loud", p, m, answer{0x7fc00000, api.Invalid})
		}
	}
}

// NA1: noughts and Endless keep their signs.
func TestToStays(t *testing.T) {
	for _, m := range aid.AllModes() {
		wantTo(t, "0", 0, m, answer{0, none})
		wantTo(t, "-0", minus, m, answer{0x80000000, none})
		wantTo(t, "Endless", inf, m, answer{0x7f800000, none})
		wantTo(t, "-Endless", inf+minus, m, answer{0xff800000, none})
	}
}

// NA1: numbers that 32 bits have.
func TestToExact(t *testing.T) {
	play(t, []toCase{
		{"1", one, same(0x3f800000)},
		{"2", two, same(0x40000000)},
		{"a half", half, same(0x3f000000)},
		{"1.5", 0x3ff8000000000000, same(0x3fc00000)},
		{"10", 0x4024000000000000, same(0x41200000)},
		{"0.15625", 0x3fc4000000000000, same(0x3e200000)},
		{"next to 1", one + step, same(one4 + 1)},
		{"below 1", one - step, same(one4 - 1)},
		{"all bits", of(1<<24-1, 0), same(0x4b7fffff)},
		{"2^24", of(1<<24, 0), same(0x4b800000)},
		{"2^24 and 2", of(1<<24+2, 0), same(0x4b800001)},
	})
	for n := -126; n <= 127; n++ {
		play(t, []toCase{
			{"a power", power(n), same(uint32(n+127) << 23)},
			{"a power and a bit", power(n) + step, same(uint32(n+127)<<23 + 1)},
			{"all bits of a power", power(n+1) - step, same(uint32(n+128)<<23 - 1)},
		})
	}
}

// NA1: between two numbers: just above the one, a half, a little less and more than that, and just below the other.
func TestToBetween(t *testing.T) {
	play(t, []toCase{
		{"above 1", one + 1, lower(one4, off)},
		{"a quarter above 1", one + step/4, lower(one4, off)},
		{"less than a half above 1", one + step/2 - 1, lower(one4, off)},
		{"a half above 1", one + step/2, middle(one4, off)},
		{"more than a half above 1", one + step/2 + 1, upper(one4, off)},
		{"below the next", one + step - 1, upper(one4, off)},
		{"above an odd one", one + step + 1, lower(one4+1, off)},
		{"less than a half above an odd one", one + step + step/2 - 1, lower(one4+1, off)},
		{"a half above an odd one", one + step + step/2, upper(one4+1, off)},
		{"more than a half above an odd one", one + step + step/2 + 1, upper(one4+1, off)},
		{"above what is below 1", one - step + 1, lower(one4-1, off)},
		{"less than a half below 1", one - step/2 + 1, upper(one4-1, off)},
		{"a half below 1", one - step/2, upper(one4-1, off)},
		{"more than a half below 1", one - step/2 - 1, lower(one4-1, off)},
		{"just below 1", one - 1, upper(one4-1, off)},
		{"a tenth", 0x3fb999999999999a, upper(0x3dcccccc, off)},
		{"2^24 and 1", of(1<<24+1, 0), middle(0x4b800000, off)},
		{"2^24 and 3", of(1<<24+3, 0), upper(0x4b800001, off)},
	})
	for n := -126; n < 127; n++ {
		q := uint32(n+127) << 23
		play(t, []toCase{
			{"above a power", power(n) + 1, lower(q, off)},
			{"a half above a power", power(n) + step/2, middle(q, off)},
			{"more than a half above a power", power(n) + step/2 + 1, upper(q, off)},
			{"more than a half below the next power", power(n+1) - step/2 - 1, lower(q+1<<23-1, off)},
			{"a half below the next power", power(n+1) - step/2, upper(q+1<<23-1, off)},
		})
	}
}

// NA1: the greatest finite pattern, what is rounded to it and beyond it, and what is far beyond.
func TestToGreat(t *testing.T) {
	play(t, []toCase{
		{"the one below the greatest", power(128) - 2*step, same(last4 - 1)},
		{"above it", power(128) - 2*step + 1, lower(last4-1, off)},
		{"a half above it", power(128) - 2*step + step/2, middle(last4-1, off)},
		{"more than a half above it", power(128) - 2*step + step/2 + 1, upper(last4-1, off)},
		{"just below the greatest", power(128) - step - 1, upper(last4-1, off)},
		{"the greatest", power(128) - step, same(last4)},
		{"2^128", power(128), beyond()},
		{"above 2^128", power(128) + 1, beyond()},
		{"2^129", power(129), beyond()},
		{"2^200", power(200), beyond()},
		{"2^256", power(256), beyond()},
		{"2^384", power(384), beyond()},
		{"2^640", power(640), beyond()},
		{"2^1023", power(1023), beyond()},
		{"the greatest of 64 bits", last, beyond()},
	})
}

// NA1: between the greatest pattern and 2^128: only what is rounded to that is too great.
func TestToGreatBetween(t *testing.T) {
	play(t, []toCase{
		{"just above the greatest", power(128) - step + 1, [5]answer{{last4, off}, {last4, off}, {last4, off}, {inf4, great}, {last4, off}}},
		{"less than a half above it", power(128) - step/2 - 1, [5]answer{{last4, off}, {last4, off}, {last4, off}, {inf4, great}, {last4, off}}},
		{"a half above it", power(128) - step/2, [5]answer{{inf4, great}, {inf4, great}, {last4, off}, {inf4, great}, {last4, off}}},
		{"more than a half above it", power(128) - step/2 + 1, [5]answer{{inf4, great}, {inf4, great}, {last4, off}, {inf4, great}, {last4, off}}},
		{"just below 2^128", power(128) - 1, [5]answer{{inf4, great}, {inf4, great}, {last4, off}, {inf4, great}, {last4, off}}},
	})
}

// NA1: every power that is too great.
func TestToFarBeyond(t *testing.T) {
	for n := 128; n < 1024; n++ {
		play(t, []toCase{{"too great", power(n), beyond()}, {"all bits of it", power(n+1) - 1, beyond()}})
	}
}

// NA1: the least plain pattern, and what is a little less and is rounded to it: Underflow, if it is below 2^-126, too, when it is rounded by 24 bits.
func TestToLeastPlain(t *testing.T) {
	below := uint32(leastBig4 - 1)
	play(t, []toCase{
		{"the least plain one", power(-126), same(leastBig4)},
		{"above it", power(-126) + 1, lower(leastBig4, off)},
		{"a half above it", power(-126) + step/2, middle(leastBig4, off)},
		{"the greatest one with few bits", power(-126) - 2*step, same(below)},
		{"above that", power(-126) - 2*step + 1, lower(below, tiny)},
		{"less than a half above that", power(-126) - step - 1, lower(below, tiny)},
		{"a half above that", power(-126) - step, upper(below, tiny)},
		// From here on 24 bits are rounded to 2^-126 by Up.
		{"more than a half above that", power(-126) - step + 1, [5]answer{{leastBig4, tiny}, {leastBig4, tiny}, {below, tiny}, {leastBig4, off}, {below, tiny}}},
		{"three quarters, less a little", power(-126) - step/2 - 1, [5]answer{{leastBig4, tiny}, {leastBig4, tiny}, {below, tiny}, {leastBig4, off}, {below, tiny}}},
		// From here on by Even and Away, too.
		{"three quarters", power(-126) - step/2, [5]answer{{leastBig4, off}, {leastBig4, off}, {below, tiny}, {leastBig4, off}, {below, tiny}}},
		{"three quarters and a little", power(-126) - step/2 + 1, [5]answer{{leastBig4, off}, {leastBig4, off}, {below, tiny}, {leastBig4, off}, {below, tiny}}},
		{"just below the least plain one", power(-126) - 1, [5]answer{{leastBig4, off}, {leastBig4, off}, {below, tiny}, {leastBig4, off}, {below, tiny}}},
	})
}

// NA1: numbers with few bits, and what lies between two of them.
func TestToFewBits(t *testing.T) {
	play(t, []toCase{
		{"2^-127", power(-127), same(0x00400000)},
		{"2^-127 and a bit", power(-127) + 2*step, same(0x00400001)},
		{"2^-127 and half a bit", power(-127) + step, middle(0x00400000, tiny)},
		{"2^-127, and less than half a bit", power(-127) + step - 1, lower(0x00400000, tiny)},
		{"2^-127, and more than half a bit", power(-127) + step + 1, upper(0x00400000, tiny)},
		{"just below 2^-127", power(-127) - 1, upper(0x003fffff, tiny)},
		{"12345", of(12345, -149), same(12345)},
		{"12345 and a half", of(24691, -150), upper(12345, tiny)},
		{"12346 and a half", of(24693, -150), middle(12346, tiny)},
		{"12346 and a quarter", of(49385, -151), lower(12346, tiny)},
		{"12346 and three quarters", of(49387, -151), upper(12346, tiny)},
		{"three", of(3, -149), same(3)},
		{"two", of(2, -149), same(2)},
		{"two and a half", of(5, -150), middle(2, tiny)},
		{"one and a half", of(3, -150), upper(1, tiny)},
		{"less than one and a half", of(3, -150) - 1, lower(1, tiny)},
		{"more than one and a half", of(3, -150) + 1, upper(1, tiny)},
	})
	for n := -149; n < -126; n++ {
		play(t, []toCase{{"a power", power(n), same(1 << uint(n+149))}})
	}
}

// NA1: the least pattern above 0, its half, a little less and more than that, and what is far below it.
func TestToLeast(t *testing.T) {
	play(t, []toCase{
		{"the least", power(-149), same(1)},
		{"just above the least", power(-149) + 1, lower(1, tiny)},
		{"just below the least", power(-149) - 1, upper(0, tiny)},
		{"three quarters of it", of(3, -151), upper(0, tiny)},
		{"more than its half", power(-150) + 1, upper(0, tiny)},
		{"its half", power(-150), middle(0, tiny)},
		{"less than its half", power(-150) - 1, lower(0, tiny)},
		{"a quarter", power(-151), lower(0, tiny)},
		{"far below", power(-600), lower(0, tiny)},
		{"the least plain one of 64 bits", leastBig, lower(0, tiny)},
		{"the greatest one of 64 bits that is not plain", leastBig - 1, lower(0, tiny)},
		{"two of 64 bits", 2, lower(0, tiny)},
		{"the least of 64 bits", 1, lower(0, tiny)},
	})
	for n := -1022; n < -151; n++ {
		play(t, []toCase{{"far below", power(n), lower(0, tiny)}, {"all bits of it", power(n+1) - 1, lower(0, tiny)}})
	}
}

// The chapter's example.
func TestToExample(t *testing.T) {
	wantTo(t, "a third", 0x3fd5555555555555, api.Even, answer{0x3eaaaaab, api.Inexact})
	play(t, []toCase{{"a third", third, upper(0x3eaaaaaa, off)}})
}

// wordForWord is what a finite pattern is rounded to, as chapter 4 has it with the numbers of chapter 12: its size, or the pattern that stands for it, if it is too great, and the flags.
func wordForWord(p uint64, m api.Mode) (*big.Int, uint32, api.Flags) {
	v, below0 := size(p), p >= minus
	if v.Sign() == 0 {
		return v, 0, none
	}
	n := v.BitLen() - 1 - far
	r := multiple(v, units(max(n-23, -149)), below0, m)
	switch {
	case r.Cmp(units(128)) >= 0 && (m == api.Zero || m == api.Up && below0 || m == api.Down && !below0):
		return nil, last4, great
	case r.Cmp(units(128)) >= 0:
		return nil, inf4, great
	case r.Cmp(v) == 0:
		return r, 0, none
	case multiple(v, units(n-23), below0, m).Cmp(units(-126)) < 0:
		return r, 0, tiny
	}
	return r, 0, off
}

// NA1, all of it, word for word.
func TestToAll(t *testing.T) {
	m := mixer{3}
	for range 150_000 {
		p, mode := m.finite(), m.Mode()
		z := to(p, mode)
		v, standing, flags := wordForWord(p, mode)
		above := z.q &^ minus4
		ok := z.f == flags && (z.q != above) == (p >= minus)
		if v == nil {
			ok = ok && above == standing
		} else {
			ok = ok && above < inf4 && size4(above).Cmp(v) == 0
		}
		if !ok {
			t.Fatalf("To(%#x, %d): %#x, %d; want the size %v (%#x), %d", p, mode, z.q, z.f, v, standing, flags)
		}
	}
}

// NA1: by Even a number is what the machine makes of it.
func TestToAsTheMachine(t *testing.T) {
	m := mixer{5}
	for range 300_000 {
		p := m.finite()
		if q, _ := narrow.To(p, api.Even); q != math.Float32bits(float32(math.Float64frombits(p))) {
			t.Fatalf("To(%#x, Even): %#x", p, q)
		}
	}
}
