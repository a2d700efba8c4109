package scale_test

import "testing"

// next asks that b is next above a: of a it is Up, and of b a is Down; and so, turned round, with the other signs.
func next(t *testing.T, what string, a, b uint64) {
	t.Helper()
	up.pattern(t, what, a, b)
	down.pattern(t, what, b, a)
	up.pattern(t, what, b^minus, a^minus)
	down.pattern(t, what, a^minus, b^minus)
}

// SC2: the chapter's example.
func TestUpExample(t *testing.T) { up.pattern(t, "1", one, 0x3ff0000000000001) }

// SC2, SC3 and chapter 5's words: what is no number is NaN without a sign, of Down too; only Loud raises a flag.
func TestNeighbourNoNumber(t *testing.T) {
	up.noNumbers(t)
	down.noNumbers(t)
}

// SC2: of either 0 the least one above it, and below it.
func TestNeighbourOfZero(t *testing.T) {
	for _, a := range noughts {
		up.pattern(t, "0", a, 1)
		down.pattern(t, "0", a, 1+minus)
	}
}

// SC2: the least patterns on both sides of 0: the greatest one below 0 goes up to -0, the least one above it down to +0.
func TestNeighbourOfLeast(t *testing.T) {
	up.pattern(t, "the greatest below 0", 1+minus, minus)
	down.pattern(t, "the least above 0", 1, 0)
	next(t, "the least", 1, 2)
	next(t, "two of it", 2, 3)
}

// SC2: Endless stays on its own side, and goes to the greatest finite one on the other.
func TestNeighbourOfEndless(t *testing.T) {
	up.pattern(t, "Endless", inf, inf)
	up.pattern(t, "Endless, below 0", inf+minus, last+minus)
	down.pattern(t, "Endless", inf, last)
	down.pattern(t, "Endless, below 0", inf+minus, inf+minus)
}

// SC2: the greatest one of both signs: without Overflow, as Up and Down need no flags.
func TestNeighbourOfGreatest(t *testing.T) {
	next(t, "the greatest", last, inf)
	next(t, "the one below it", last-1, last)
	next(t, "next above the greatest power", power(1023), power(1023)+1)
}

// SC2: the least plain one and the greatest tiny one, and every power of two, with the patterns next to it.
func TestNeighbourOfPowers(t *testing.T) {
	next(t, "the greatest tiny one", 0x000fffffffffffff, 0x0010000000000000)
	next(t, "the one below it", leastBig-2, leastBig-1)
	next(t, "the least plain one", leastBig, leastBig+1)
	next(t, "below 1", 0x3fefffffffffffff, 0x3ff0000000000000)
	next(t, "below 2", 0x3fffffffffffffff, 0x4000000000000000)
	for n := -1073; n <= 1023; n++ {
		p := power(n)
		next(t, "below a power", p-1, p)
		next(t, "above a power", p, p+1)
	}
}

// SC2, word for word: Up is greater, and nothing that is greater is less than it; Down so, turned round.
func TestNeighbourAll(t *testing.T) {
	m := mixer{11}
	for range 60_000 {
		a, b := m.finite(), m.finite()
		if m.Below(2) == 0 {
			b = min(a&^minus+uint64(m.Below(9)), last) + a&minus
		}
		if order(a, b) == 0 {
			continue
		}
		if order(a, b) > 0 {
			a, b = b, a
		}
		above, below := up.of(a), down.of(b)
		if above.f != none || order(a, above.p) >= 0 || order(above.p, b) > 0 {
			t.Fatalf("Up(%#x): %#x, %d; below %#x", a, above.p, above.f, b)
		}
		if below.f != none || order(b, below.p) <= 0 || order(below.p, a) < 0 {
			t.Fatalf("Down(%#x): %#x, %d; above %#x", b, below.p, below.f, a)
		}
	}
}

// SC2: Down is Up of the other sign's, with the other sign.
func TestDownIsUpTurned(t *testing.T) {
	m := mixer{13}
	for range 60_000 {
		a := m.finite()
		for _, a := range append(bothSigns(0, inf), a) {
			if down.pattern(t, "turned", a, up.of(a^minus).p^minus); t.Failed() {
				return
			}
		}
	}
}

// SC3: Down of Up, and Up of Down, are the number, but of 0 and Endless; none of them raises a flag.
func TestThereAndBack(t *testing.T) {
	m := mixer{17}
	try := func(a uint64) {
		t.Helper()
		above, below := up.of(a), down.of(a)
		if above.f != none || below.f != none {
			t.Fatalf("%#x: flags %d, %d", a, above.f, below.f)
		}
		down.pattern(t, "Down of Up", above.p, a)
		up.pattern(t, "Up of Down", below.p, a)
	}
	for _, a := range finites {
		try(a)
	}
	for range 60_000 {
		if a := m.finite(); a&^minus != 0 {
			try(a)
		}
		if t.Failed() {
			return
		}
	}
}

// SC3: what 0 and Endless come back as: 0 with the sign of the side that it was left to, Endless only from the side where it was left.
func TestThereAndBackOfEnds(t *testing.T) {
	for _, a := range noughts {
		down.pattern(t, "Down of Up of 0", up.of(a).p, 0)
		up.pattern(t, "Up of Down of 0", down.of(a).p, minus)
	}
	down.pattern(t, "Down of Up of Endless", up.of(inf).p, last)
	up.pattern(t, "Up of Down of Endless", down.of(inf).p, inf)
	down.pattern(t, "Down of Up of Endless below 0", up.of(inf+minus).p, inf+minus)
	up.pattern(t, "Up of Down of Endless below 0", down.of(inf+minus).p, last+minus)
}
