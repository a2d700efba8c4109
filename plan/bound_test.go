package plan_test

import (
	"slices"
	"testing"
)

// PL2: Bound and Steps of one radix, of those of N 1, and of several, in any order, as they are told for here.
func TestParts(t *testing.T) {
	wantPlan(t, byParts(1), 0, 0, "1=1")
	wantPlan(t, byParts(2, 2), 8, 1, "2=2")
	wantPlan(t, byParts(3, 3), 33, 1, "3=3")
	wantPlan(t, byParts(4, 4), 12, 1, "4=4")
	wantPlan(t, byParts(5, 5), 65, 1, "5=5")
	wantPlan(t, byParts(7, 7), 105, 1, "7=7")
	wantPlan(t, byParts(11, 11), 209, 1, "11=11")
	wantPlan(t, byParts(13, 13), 273, 1, "13=13")
	wantPlan(t, byParts(4, 2, 2), 16, 4, "4=2x2")
	wantPlan(t, byParts(12, 4, 3), 45, 7, "12=4x3")
	wantPlan(t, byParts(12, 3, 4), 45, 7, "12=3x4")
	wantPlan(t, byParts(12, 2, 3, 2), 49, 16, "12=2x3x2")
	wantPlan(t, byParts(143, 13, 11), 482, 24, "143=13x11")
	wantPlan(t, byParts(60_060, 4, 3, 5, 7, 11, 13), 697, 15_015+20_020+12_012+8580+5460+4620, "60060=4x3x5x7x11x13")
	wantPlan(t, byParts(greatest, slices.Repeat([]int{4}, 12)...), 144, 50_331_648, "16777216=4x4x4x4x4x4x4x4x4x4x4x4")
	wantPlan(t, byParts(greatest, slices.Repeat([]int{2}, 24)...), 192, 201_326_592, "16777216=2x2x2x2x2x2x2x2x2x2x2x2x2x2x2x2x2x2x2x2x2x2x2x2")
	wantPlan(t, byParts(13*13*13*13*13*13, 13, 13, 13, 13, 13, 13), 6*273, 6*371_293, "4826809=13x13x13x13x13x13")
}

// PL2: Bound and Steps of padded plans: Pad's 2 behind its 4s, roots of squares and of those next to them, and a Pad above MaxLen.
func TestPads(t *testing.T) {
	wantPlan(t, padded(1, 1), 2*12+4, 0, "1~1")
	wantPlan(t, padded(1, 2), 2*(4*8+12)+4, 2, "1~2")
	wantPlan(t, padded(1, 4), 2*(4*12+12)+4, 2, "1~4")
	wantPlan(t, padded(1, 8), 2*(4*20+12)+4, 2*(2+4), "1~8")
	wantPlan(t, padded(2, 4), 2*2*(4*12+12)+4, 2, "2~4")
	wantPlan(t, padded(4, 8), 2*2*(4*20+12)+4, 12, "4~8")
	wantPlan(t, padded(5, 16), 2*3*(4*24+12)+4, 16, "5~16")
	wantPlan(t, padded(9, 32), 2*3*(4*32+12)+4, 2*(8+8+16), "9~32")
	wantPlan(t, padded(10, 32), 2*4*(4*32+12)+4, 64, "10~32")
	wantPlan(t, padded(16, 32), 2*4*(4*32+12)+4, 64, "16~32")
	wantPlan(t, padded(17, 64), 2*5*(4*36+12)+4, 96, "17~64")
	wantPlan(t, padded(17, farthest), 2*5*(4*156+12)+4, 436_207_616, "17~67108864")
	wantPlan(t, padded(17, greatest), 2*5*(4*144+12)+4, 100_663_296, "17~16777216")
	wantPlan(t, padded(lastPrime, 2*greatest), 2*4096*(4*152+12)+4, 2*(12*8_388_608+greatest), "16777213~33554432")
	wantPlan(t, padded(4095*4095, farthest), 2*4095*(4*156+12)+4, 436_207_616, "16769025~67108864")
	wantPlan(t, padded(4095*4095+1, farthest), 2*4096*(4*156+12)+4, 436_207_616, "16769026~67108864")
	wantPlan(t, padded(greatest, farthest), 2*4096*(4*156+12)+4, 436_207_616, "16777216~67108864")
}

// PL2: the bound's root of squares and of those next to them.
func TestRoots(t *testing.T) {
	for s := 2; s <= 4096; s++ {
		for n := s*s - 1; n <= min(s*s+1, greatest); n++ {
			wantAny(t, padded(n, padOf(n)))
		}
	}
}

// PL1 to PL4: odd plans that may be, and such as are next to them.
func TestOddPlans(t *testing.T) {
	m := mixer{5}
	for range 20_000 {
		p := m.plan()
		if !mayBe(p) {
			t.Fatalf("%v may not be", p)
		}
		wantAny(t, p)
		switch m.Below(4) {
		case 0:
			p.N += m.Below(5) - 2
		case 1:
			p.Pad += m.Below(5) - 2
		case 2:
			p.Radix = append(p.Radix, m.Below(15))
		default:
			if len(p.Radix) > 0 {
				p.Radix[m.Below(len(p.Radix))] = m.Below(15)
			}
		}
		wantAny(t, p)
	}
}
