/-
  PLAIN ARITHMETIC: a pattern's neighbour, and how far it is away; a number between neighbours, rounded; times a power of two.
-/
import Derived.Test.YtehfjljnaencjaaG15
import Derived.Test.YtehfjljnaencjaaG13
import Derived.Test.YtehfjljnaencjaaG14
import Derived.Test.YtehfjljnaencjaaG06
namespace Go.Rn
open Go.Nt Go.Wd Go.Pt

/-- the next size -/
theorem next_num {p : Int} (h0 : 0 ≤ p) (h1 : p < 9218868437227405311) : uV (p + 1) = uV p + 2 ^ (xp p + 1074).toNat := by
  have key : ∀ (q : Int) (S : Nat) (x : Int), (sg q).toNat = S → xp q = x → uV q = S * 2 ^ (x - -1074).toNat := fun q S x e1 e2 => by unfold uV szF; rw [e1, e2]
  have hf : ex p ≠ 2047 := fin_small h0 (by omega)
  have he : 0 ≤ ex p ∧ ex p ≤ 2046 := by unfold ex at *; omega
  have hr : 0 ≤ fr p ∧ fr p < 4503599627370496 := by unfold fr; omega
  have dec : p = 4503599627370496 * ex p + fr p := by unfold ex fr; omega
  by_cases hz : ex p = 0
  · have u1 := key p (fr p).toNat (-1074) (by unfold sg; rw [if_pos hz]) (by unfold xp; rw [if_pos hz])
    have ex1 : xp p = -1074 := by unfold xp; rw [if_pos hz]
    by_cases hs : fr p + 1 < 4503599627370496
    · have e2 : ex (p + 1) = 0 := by unfold ex; omega
      have f2 : fr (p + 1) = fr p + 1 := by unfold fr at *; omega
      have u2 := key (p + 1) (fr p + 1).toNat (-1074) (by unfold sg; rw [if_pos e2, f2]) (by unfold xp; rw [if_pos e2])
      rw [u1, u2, ex1]
      simp
      omega
    · have e2 : ex (p + 1) = 1 := by unfold ex; omega
      have f2 : fr (p + 1) = 0 := by unfold fr at *; omega
      have u2 := key (p + 1) 4503599627370496 (-1074) (by unfold sg; rw [e2, if_neg (by omega), if_neg (by omega), f2]; rfl) (by unfold xp; rw [e2, if_neg (by omega), if_neg (by omega)]; rfl)
      rw [u1, u2, ex1]
      simp
      omega
  · have u1 := key p (fr p + 4503599627370496).toNat (ex p - 1075) (by unfold sg; rw [if_neg hz, if_neg hf]) (by unfold xp; rw [if_neg hz, if_neg hf])
    have ex1 : xp p = ex p - 1075 := by unfold xp; rw [if_neg hz, if_neg hf]
    have et : (xp p + 1074).toNat = (ex p - 1075 - -1074).toNat := by rw [ex1]; congr 1
    rw [et]
    by_cases hs : fr p + 1 < 4503599627370496
    · have e2 : ex (p + 1) = ex p := by unfold ex at *; omega
      have f2 : fr (p + 1) = fr p + 1 := by unfold fr at *; omega
      have u2 := key (p + 1) (fr p + 1 + 4503599627370496).toNat (ex p - 1075) (by unfold sg; rw [e2, if_neg hz, if_neg hf, f2]) (by unfold xp; rw [e2, if_neg hz, if_neg hf])
      rw [u1, u2, show (fr p + 1 + 4503599627370496).toNat = (fr p + 4503599627370496).toNat + 1 by omega, Nat.add_mul, Nat.one_mul]
    · have e2 : ex (p + 1) = ex p + 1 := by unfold ex at *; omega
      have f2 : fr (p + 1) = 0 := by unfold fr at *; omega
      have hx : ex p + 1 ≠ 2047 := by omega
      have u2 := key (p + 1) 4503599627370496 (ex p - 1074) (by unfold sg; rw [e2, if_neg (by omega), if_neg hx, f2]; rfl) (by unfold xp; rw [e2, if_neg (by omega), if_neg hx]; omega)
      rw [u1, u2, show (ex p - 1074 - -1074).toNat = (ex p - 1075 - -1074).toNat + 1 by omega, Nat.pow_succ, show (fr p + 4503599627370496).toNat = 9007199254740991 by omega]
      generalize 2 ^ (ex p - 1075 - -1074).toNat = K
      omega
/-- a number between two neighbours -/
theorem between_num {p : Int} {N : Nat} (h0 : 0 ≤ p) (h1 : p < 9218868437227405311) (hl : uV p < N) (hu : N < uV (p + 1)) : rnP 3 false N (-1074) = p + 1 ∧ rnP 4 false N (-1074) = p ∧ inex N (-1074) = true := by
  obtain ⟨a1, _⟩ := own_uV (m := 2) (n := false) (fin_small (p := p) h0 (by omega))
  obtain ⟨b1, _⟩ := own_uV (m := 3) (n := false) (fin_small (p := p + 1) (by omega) (by omega))
  rw [mag_self h0 (by omega)] at a1
  rw [mag_self (by omega) (by omega)] at b1
  have lo := rnP_mono (m := 2) (neg := false) (E := -1074) (Nat.le_of_lt hl)
  have hi := rnP_mono (m := 3) (neg := false) (E := -1074) (Nat.le_of_lt hu)
  rw [a1] at lo
  rw [b1] at hi
  cases hx : inex N (-1074) with
  | true =>
    obtain ⟨p3, p4⟩ := inex_side (neg := false) hx
    simp only [Bool.false_eq_true, if_false, Int.add_zero] at p3 p4
    have e : cutP N (-1074) = rnP 2 false N (-1074) := rfl
    rw [← e] at lo
    rw [p3] at hi
    have : cutP N (-1074) = p := by omega
    exact ⟨by rw [p3, this], by rw [p4, this], rfl⟩
  | false =>
    exfalso
    obtain ⟨e3, f3⟩ := exact_of (m := 3) (neg := false) hx
    obtain ⟨e2, _⟩ := exact_of (m := 2) (neg := false) hx
    obtain ⟨_, c2⟩ := back_uV f3
    rw [e2] at lo
    rw [e3] at hi c2
    have : cutP N (-1074) = p ∨ cutP N (-1074) = p + 1 := by omega
    rcases this with h | h <;> rw [h] at c2 <;> omega
/-- a power of two that patterns have, as a pattern -/
def stP (p : Int) : Int := rnP 0 false 1 (xp p)
theorem st_num {p : Int} (hf : ex p ≠ 2047) (m : Int) (n : Bool) : rnF m n 1 (xp p) = 0 ∧ rnP m n 1 (xp p) = stP p ∧ 0 ≤ stP p ∧ stP p < 9218868437227405312 ∧ uV (stP p) = 2 ^ (xp p + 1074).toNat := by
  have xb := xp_bd p
  have hx : xp p ≤ 971 := by
    have hx2 : 0 ≤ ex p ∧ ex p < 2048 := by unfold ex; omega
    unfold xp
    rw [if_neg hf]
    split <;> omega
  obtain ⟨j, hj⟩ : ∃ j : Nat, (j : Int) = 2045 := ⟨2045, rfl⟩
  have e1 : xp 9214364837600034816 = 971 := by decide
  have e2 : (sg 9214364837600034816).toNat = 4503599627370496 := by decide
  have uc : uV 9214364837600034816 = 4503599627370496 * 2 ^ j := by
    unfold uV szF
    rw [e1, e2]
    congr 2
    omega
  have hle : 1 * 2 ^ (xp p + 1074).toNat ≤ uV 9214364837600034816 := by
    rw [uc, Nat.one_mul]
    exact Nat.le_trans (Nat.pow_le_pow_right (by omega) (by omega)) (Nat.le_mul_of_pos_left _ (by omega))
  have k := few_exact (D := 1) (E := xp p) (by omega) (by omega) (b := 9214364837600034816) (by decide) hle
  obtain ⟨a1, a2, a3, a4, a5⟩ := k m n
  obtain ⟨_, b2, b3, b4, b5⟩ := k 0 false
  rw [Nat.one_mul] at b5
  have mb : mag 9214364837600034816 = 9214364837600034816 := by decide
  rw [mb] at b4
  exact ⟨a1, a2.trans b2.symm, b3, by unfold stP; omega, b5⟩
/-- times a power of two: rounded -/
def scP (m a n : Int) : Int := rnP m (sgn a) (sg a).toNat (xp a + n)
def scF (m a n : Int) : Int := rnF m (sgn a) (sg a).toNat (xp a + n)
/-- what was scaled without flags is scaled back -/
theorem sc_back {m k a : Int} {n : Nat} (hf : ex a ≠ 2047) (h : scF m a n = 0) (s : Bool) : rnP k s (sg (scP m a n)).toNat (xp (scP m a n) - n) = mag a ∧ rnF k s (sg (scP m a n)).toNat (xp (scP m a n) - n) = 0 := by
  have xb := xp_bd a
  have sb := sg_lt a
  obtain ⟨o1, o2⟩ := own_pat (m := k) (neg := s) hf
  by_cases hz : (sg a).toNat = 0
  · have e : scP m a n = 0 := by unfold scP rnP; rw [if_pos hz]
    have m0 : (sg 0).toNat = 0 := by decide
    rw [e, m0]
    unfold rnP rnF
    rw [if_pos rfl, if_pos rfl]
    rw [hz] at o1
    unfold rnP at o1
    rw [if_pos rfl] at o1
    exact ⟨o1, rfl⟩
  · have q := h
    unfold scF at q
    have sp := rnP_scale m (sgn a) (sg a).toNat (xp a + n + 1074).toNat (xp a + n)
    have sf := rnF_scale m (sgn a) (sg a).toNat (xp a + n + 1074).toNat (xp a + n)
    rw [show xp a + n - ((xp a + n + 1074).toNat : Int) = -1074 by omega] at sp sf
    obtain ⟨b1, b2⟩ := back_uV (sf.trans q)
    rw [sp] at b1 b2
    have hs : scP m a n = rnP m (sgn a) (sg a).toNat (xp a + n) := rfl
    rw [← hs] at b1 b2
    generalize scP m a n = r at *
    have xr := xp_bd r
    -- the number of r is that of a times 2^n
    have e1 : (sg r).toNat * 2 ^ (xp r + 1074).toNat = (sg a).toNat * 2 ^ (xp a + n + 1074).toNat := by
      have : uV r = (sg r).toNat * 2 ^ (xp r + 1074).toNat := by unfold uV szF; congr 2
      rw [← this]
      exact b2
    have t1 := rnP_scale k s (sg r).toNat (xp r + 1074).toNat (xp r - n)
    have t2 := rnF_scale k s (sg r).toNat (xp r + 1074).toNat (xp r - n)
    have t3 := rnP_scale k s (sg a).toNat (xp a + n + 1074).toNat (xp a)
    have t4 := rnF_scale k s (sg a).toNat (xp a + n + 1074).toNat (xp a)
    rw [e1, show xp r - (n : Int) - ((xp r + 1074).toNat : Int) = xp a - ((xp a + n + 1074).toNat : Int) by omega] at t1 t2
    exact ⟨by rw [← t1, t3, o1], by rw [← t2, t4, o2]⟩
end Go.Rn

/-
  What is known of calls, for powers of two and neighbours.
-/
namespace Go.Proofs.Ytehfjljnaencjaa
open Go.KRun Go.Wd Go.Pt Go.Rn
set_option maxRecDepth 100000

def conK0 : Con := alt 32 (g1 lenV4) conG0
theorem conK0_ok : ConOk conK0 := alt_ok Try.func32 rfl (g1_ok wlen_calls) conG0_ok
end Go.Proofs.Ytehfjljnaencjaa

/-
  scale.Scale, Log, Step, Up and Down, as calls in every world.
-/
namespace Go.Proofs.Ytehfjljnaencjaa
open Go.KRun Go.Wd Go.Pt Go.Rn
set_option maxRecDepth 100000

def sE9 (a n : Int) : Int := IntKind.i64.wrap (xp a + if 4096 < (if -4096 > n then -4096 else n) then 4096 else (if -4096 > n then -4096 else n))
def lgI9 (a : Int) : Int := IntKind.i64.wrap (IntKind.i64.wrap (xp a + lenI (wSg a)) - 1)
def lgW9 (a : Int) : W4 := ⟨IntKind.u64.wrap (if IntKind.i64.wrap (0 - lgI9 a) > lgI9 a then IntKind.i64.wrap (0 - lgI9 a) else lgI9 a), 0, 0, 0⟩
theorem sc_n1 (a n m : Int) : Fits (reckon (tabOf Try.prog extY conK0 true) 300 8 [.int .u64 a, .int .i64 n, .int .i64 m] [cmp true, cmp false]) (rdT 9221120237041090560 0) [(cl a == 5, false), lU a, (cl a == 4, true), lU a] := ⟨by kernel_rfl, by kernel_rfl, by kernel_rfl, by kernel_rfl⟩
theorem sc_n2 (a n m : Int) : Fits (reckon (tabOf Try.prog extY conK0 true) 300 8 [.int .u64 a, .int .i64 n, .int .i64 m] [cmp false, cmp true, cmp true]) (rdT 9221120237041090560 1) [(cl a == 5, true), lU a, (cl a == 5, true), (cl a == 4, false), lU a] := ⟨by kernel_rfl, by kernel_rfl, by kernel_rfl, by kernel_rfl⟩
theorem sc_z (a n m : Int) : Fits (reckon (tabOf Try.prog extY conK0 true) 300 8 [.int .u64 a, .int .i64 n, .int .i64 m] [cmp false, cmp false, cmp true]) (rdT a 0) [(cl a == 0, true), (cl a == 5, false), (cl a == 4, false), lU a] := ⟨by kernel_rfl, by kernel_rfl, by kernel_rfl, by kernel_rfl⟩
theorem sc_e (a n m : Int) : Fits (reckon (tabOf Try.prog extY conK0 true) 300 8 [.int .u64 a, .int .i64 n, .int .i64 m] [cmp false, cmp false, cmp false, cmp true]) (rdT a 0) [(cl a == 3, true), (cl a == 0, false), (cl a == 5, false), (cl a == 4, false), lU a] := ⟨by kernel_rfl, by kernel_rfl, by kernel_rfl, by kernel_rfl⟩
theorem sc_f (a n m : Int) : Fits (reckon (tabOf Try.prog extY conK0 true) 300 8 [.int .u64 a, .int .i64 n, .int .i64 m] [cmp false, cmp false, cmp false, cmp false, cmp true]) (rdV m (sgn a) (tw (wSg a) false) (clp (sE9 a n) - 1)) [(decide (wSg a).ok, true), lU a, (decide (cl a ≤ 2), true), lU a, (cl a == 3, false), (cl a == 0, false), (cl a == 5, false), (cl a == 4, false), lU a] := ⟨by kernel_rfl, by kernel_rfl, by kernel_rfl, by kernel_rfl⟩
theorem lg_n1 (a : Int) : Fits (reckon (tabOf Try.prog extY conK0 true) 300 11 [.int .u64 a] [cmp true, cmp false]) (rdT 9221120237041090560 0) [(cl a == 5, false), lU a, (cl a == 4, true), lU a] := ⟨by kernel_rfl, by kernel_rfl, by kernel_rfl, by kernel_rfl⟩
theorem lg_n2 (a : Int) : Fits (reckon (tabOf Try.prog extY conK0 true) 300 11 [.int .u64 a] [cmp false, cmp true, cmp true]) (rdT 9221120237041090560 1) [(cl a == 5, true), lU a, (cl a == 5, true), (cl a == 4, false), lU a] := ⟨by kernel_rfl, by kernel_rfl, by kernel_rfl, by kernel_rfl⟩
theorem lg_z (a : Int) : Fits (reckon (tabOf Try.prog extY conK0 true) 300 11 [.int .u64 a] [cmp false, cmp false, cmp true]) (rdT 18442240474082181120 2) [(cl a == 0, true), (cl a == 5, false), (cl a == 4, false), lU a] := ⟨by kernel_rfl, by kernel_rfl, by kernel_rfl, by kernel_rfl⟩
theorem lg_e (a : Int) : Fits (reckon (tabOf Try.prog extY conK0 true) 300 11 [.int .u64 a] [cmp false, cmp false, cmp false, cmp true]) (rdT 9218868437227405312 0) [(cl a == 3, true), (cl a == 0, false), (cl a == 5, false), (cl a == 4, false), lU a] := ⟨by kernel_rfl, by kernel_rfl, by kernel_rfl, by kernel_rfl⟩
theorem lg_f (a : Int) : Fits (reckon (tabOf Try.prog extY conK0 true) 300 11 [.int .u64 a] [cmp false, cmp false, cmp false, cmp false, cmp true, cmp true]) (rdV 0 true (tw (lgW9 a) false) (clp 0 - 1)) [(decide (lgW9 a).ok, true), (decide (lgI9 a < 0), true), (decide (wSg a).ok, true), lU a, (decide (cl a ≤ 2), true), lU a, (cl a == 3, false), (cl a == 0, false), (cl a == 5, false), (cl a == 4, false), lU a] := ⟨by kernel_rfl, by kernel_rfl, by kernel_rfl, by kernel_rfl⟩
theorem lg_g (a : Int) : Fits (reckon (tabOf Try.prog extY conK0 true) 300 11 [.int .u64 a] [cmp false, cmp false, cmp false, cmp false, cmp true, cmp false]) (rdV 0 false (tw (lgW9 a) false) (clp 0 - 1)) [(decide (lgW9 a).ok, true), (decide (lgI9 a < 0), false), (decide (wSg a).ok, true), lU a, (decide (cl a ≤ 2), true), lU a, (cl a == 3, false), (cl a == 0, false), (cl a == 5, false), (cl a == 4, false), lU a] := ⟨by kernel_rfl, by kernel_rfl, by kernel_rfl, by kernel_rfl⟩
theorem st_n1 (a : Int) : Fits (reckon (tabOf Try.prog extY conK0 true) 300 13 [.int .u64 a] [cmp true, cmp false]) (rdT 9221120237041090560 0) [(cl a == 5, false), lU a, (cl a == 4, true), lU a] := ⟨by kernel_rfl, by kernel_rfl, by kernel_rfl, by kernel_rfl⟩
theorem st_n2 (a : Int) : Fits (reckon (tabOf Try.prog extY conK0 true) 300 13 [.int .u64 a] [cmp false, cmp true, cmp true]) (rdT 9221120237041090560 1) [(cl a == 5, true), lU a, (cl a == 5, true), (cl a == 4, false), lU a] := ⟨by kernel_rfl, by kernel_rfl, by kernel_rfl, by kernel_rfl⟩
theorem st_e (a : Int) : Fits (reckon (tabOf Try.prog extY conK0 true) 300 13 [.int .u64 a] [cmp false, cmp false, cmp true]) (rdT 9218868437227405312 0) [(cl a == 3, true), (cl a == 5, false), (cl a == 4, false), lU a] := ⟨by kernel_rfl, by kernel_rfl, by kernel_rfl, by kernel_rfl⟩
theorem st_f (a : Int) : Fits (reckon (tabOf Try.prog extY conK0 true) 300 13 [.int .u64 a] [cmp false, cmp false, cmp false]) (rdV 0 false (tw (⟨1, 0, 0, 0⟩ : W4) false) (clp (xp a) - 1)) [(decide (⟨1, 0, 0, 0⟩ : W4).ok, true), lU a, (cl a == 3, false), (cl a == 5, false), (cl a == 4, false), lU a] := ⟨by kernel_rfl, by kernel_rfl, by kernel_rfl, by kernel_rfl⟩
theorem up_n1 (a : Int) : Fits (reckon (tabOf Try.prog extY conK0 true) 300 15 [.int .u64 a] [cmp true, cmp false]) (rdT 9221120237041090560 0) [(cl a == 5, false), lU a, (decide (cl a > 3), true), lU a] := ⟨by kernel_rfl, by kernel_rfl, by kernel_rfl, by kernel_rfl⟩
theorem up_n2 (a : Int) : Fits (reckon (tabOf Try.prog extY conK0 true) 300 15 [.int .u64 a] [cmp true, cmp true]) (rdT 9221120237041090560 1) [(cl a == 5, true), lU a, (decide (cl a > 3), true), lU a] := ⟨by kernel_rfl, by kernel_rfl, by kernel_rfl, by kernel_rfl⟩
theorem up_e (a : Int) : Fits (reckon (tabOf Try.prog extY conK0 true) 300 15 [.int .u64 a] [cmp false, cmp true]) (rdT a 0) [(a == 9218868437227405312, true), (decide (cl a > 3), false), lU a] := ⟨by kernel_rfl, by kernel_rfl, by kernel_rfl, by kernel_rfl⟩
theorem up_z (a : Int) : Fits (reckon (tabOf Try.prog extY conK0 true) 300 15 [.int .u64 a] [cmp false, cmp false, cmp true]) (rdT 1 0) [(cl a == 0, true), lU a, (a == 9218868437227405312, false), (decide (cl a > 3), false), lU a] := ⟨by kernel_rfl, by kernel_rfl, by kernel_rfl, by kernel_rfl⟩
theorem up_p (a : Int) : Fits (reckon (tabOf Try.prog extY conK0 true) 300 15 [.int .u64 a] [cmp false, cmp false, cmp false, cmp true]) (rdT (IntKind.u64.wrap (a + 1)) 0) [((bNot a 9223372036854775808) == a, true), (cl a == 0, false), lU a, (a == 9218868437227405312, false), (decide (cl a > 3), false), lU a] := ⟨by kernel_rfl, by kernel_rfl, by kernel_rfl, by kernel_rfl⟩
theorem up_m (a : Int) : Fits (reckon (tabOf Try.prog extY conK0 true) 300 15 [.int .u64 a] [cmp false, cmp false, cmp false, cmp false]) (rdT (IntKind.u64.wrap (a - 1)) 0) [((bNot a 9223372036854775808) == a, false), (cl a == 0, false), lU a, (a == 9218868437227405312, false), (decide (cl a > 3), false), lU a] := ⟨by kernel_rfl, by kernel_rfl, by kernel_rfl, by kernel_rfl⟩
/-- a power of two, within bounds -/
def kN9 (n : Int) : Int := if 9000 < (if -9000 > n then -9000 else n) then 9000 else (if -9000 > n then -9000 else n)
def nanF (a : Int) : Int := if cl a = 5 then 1 else 0
/-- what Scale answers -/
def scaP (m a n : Int) : Int := if 3 < cl a then 9221120237041090560 else if cl a = 0 ∨ cl a = 3 then a else sS (sgn a) (scP m a (kN9 n))
def scaF (m a n : Int) : Int := if 3 < cl a then nanF a else if cl a = 0 ∨ cl a = 3 then 0 else scF m a (kN9 n)
/-- the power of two that is in a pattern; what Log answers -/
def logN (a : Int) : Int := xp a + (bitLen (sg a).toNat : Nat) - 1
def logP (a : Int) : Int := if 3 < cl a then 9221120237041090560 else if cl a = 0 then 18442240474082181120 else if cl a = 3 then 9218868437227405312 else sS (decide (logN a < 0)) (rnP 0 (decide (logN a < 0)) (logN a).natAbs 0)
def logF (a : Int) : Int := if 3 < cl a then nanF a else if cl a = 0 then 2 else if cl a = 3 then 0 else rnF 0 (decide (logN a < 0)) (logN a).natAbs 0
/-- what Step answers -/
def stepP (a : Int) : Int := if 3 < cl a then 9221120237041090560 else if cl a = 3 then 9218868437227405312 else stP a
def stepF (a : Int) : Int := if 3 < cl a then nanF a else 0
/-- what Up and Down answer; the flags of both -/
def upP (a : Int) : Int := if 3 < cl a then 9221120237041090560 else if a = 9218868437227405312 then a else if cl a = 0 then 1 else if a < 9223372036854775808 then a + 1 else a - 1
def upF (a : Int) : Int := if 3 < cl a then nanF a else 0
def dnP (a : Int) : Int := if 3 < cl a then 9221120237041090560 else ng (upP (ng a))
theorem ofN_v9 {X : Nat} (h : X < 2 ^ 256) : (ofN X).val = (X : Int) := by
  have h2 : (2 : Nat) ^ 256 = 115792089237316195423570985008687907853269984665640564039457584007913129639936 := rfl
  unfold ofN
  rw [W4.val_of, Int.emod_eq_of_lt (by omega) (by omega)]
theorem w1_nat {x : Int} (h : 0 ≤ x) (h1 : x < 18446744073709551616) : (⟨x, 0, 0, 0⟩ : W4).ok ∧ (⟨x, 0, 0, 0⟩ : W4).nat = x.toNat := by
  refine ⟨⟨⟨h, h1⟩, ⟨by dsimp only; omega, by dsimp only; omega⟩, ⟨by dsimp only; omega, by dsimp only; omega⟩, ⟨by dsimp only; omega, by dsimp only; omega⟩⟩, ?_⟩
  unfold W4.nat W4.val
  simp only [Int.mul_zero, Int.add_zero]
/-- the program's rounding in plain terms -/
theorem rd_w9 (m : Int) (n : Bool) {x : W4} (hx : x.ok) {C D : Int} (h : C = D ∨ (1700 ≤ C ∧ 1700 ≤ D) ∨ (C ≤ -1700 ∧ D ≤ -1700)) : rdV m n (tw x false) (clp C - 1) = rdT (sS n (rnP m n x.nat D)) (rnF m n x.nat D) := by
  obtain ⟨p, f⟩ := same_round (m := m) (neg := n) hx false (C := clp C) (D := D) (by unfold clp; split <;> split <;> omega)
  unfold rdV
  rw [p, f]
  simp only [rT, jB, Int.sub_zero]
theorem len_bd9 {a : Int} : bitLen (sg a).toNat ≤ 53 := len_le (by have := sg_lt a; have e : (2 : Nat) ^ 53 = 9007199254740992 := rfl; omega)
theorem lg9 (a : Int) : lgI9 a = logN a ∧ (lgW9 a).ok ∧ (lgW9 a).nat = (logN a).natAbs := by
  have hx := xp_bd a
  have hl := len_bd9 (a := a)
  have e : lenI (wSg a) = (bitLen (sg a).toNat : Nat) := by unfold lenI; rw [wSg_val]
  have e1 : lgI9 a = logN a := by
    unfold lgI9 logN
    rw [e, wrapI' (n := xp a + _) ⟨by omega, by omega⟩, wrapI' ⟨by omega, by omega⟩]
  have hb : -1075 ≤ logN a ∧ logN a ≤ 1100 := by unfold logN; omega
  have ew : IntKind.i64.wrap (0 - logN a) = 0 - logN a := wrapI' ⟨by omega, by omega⟩
  have e2 : (if IntKind.i64.wrap (0 - lgI9 a) > lgI9 a then IntKind.i64.wrap (0 - lgI9 a) else lgI9 a) = ((logN a).natAbs : Int) := by
    rw [e1, ew]
    split <;> omega
  have e3 : lgW9 a = ⟨((logN a).natAbs : Int), 0, 0, 0⟩ := by
    unfold lgW9
    rw [e2, wrapU' ⟨by omega, by omega⟩]
  obtain ⟨o, n⟩ := w1_nat (x := ((logN a).natAbs : Int)) (by omega) (by omega)
  exact ⟨e1, by rw [e3]; exact o, by rw [e3, n]; omega⟩
theorem scale_calls (a n m : Int) (ha : U a) (w : World) : Calls Try.prog 8 #[.int .u64 a, .int .i64 n, .int .i64 m] w fun r w' => r = .returned (rdT (scaP m a n) (scaF m a n)) ∧ Tidy w w' := by
  have hv : ([.int .u64 a, .int .i64 n, .int .i64 m].all (lt 0)) = true := rfl
  have T := tabY_ok conK0_ok
  have ka : decide (U a) = true := decide_eq_true ha
  have ba := cl_bd a
  have xa := xp_bd a
  unfold scaP scaF nanF
  by_cases ha3 : 3 < cl a
  · rw [if_pos ha3, if_pos ha3]
    by_cases a5 : cl a = 5
    · rw [if_pos a5]
      exact fits_calls T (sc_n2 a n m) (okCons (beq_t (by omega)) (okCons ka (okCons (beq_t (by omega)) (okCons (beq_f (by omega)) (okL1 ka))))) hv (by rfl) w
    · rw [if_neg a5]
      exact fits_calls T (sc_n1 a n m) (okCons (beq_f (by omega)) (okCons ka (okCons (beq_t (by omega)) (okL1 ka)))) hv (by rfl) w
  rw [if_neg ha3, if_neg ha3]
  by_cases a0 : cl a = 0
  · rw [if_pos (.inl a0), if_pos (.inl a0)]
    exact fits_calls T (sc_z a n m) (okCons (beq_t (by omega)) (okCons (beq_f (by omega)) (okCons (beq_f (by omega)) (okL1 ka)))) hv (by rfl) w
  by_cases a3 : cl a = 3
  · rw [if_pos (.inr a3), if_pos (.inr a3)]
    exact fits_calls T (sc_e a n m) (okCons (beq_t (by omega)) (okCons (beq_f (by omega)) (okCons (beq_f (by omega)) (okCons (beq_f (by omega)) (okL1 ka))))) hv (by rfl) w
  rw [if_neg (by omega), if_neg (by omega)]
  have hf := sc_f a n m
  have hw : sE9 a n = xp a + if 4096 < (if -4096 > n then -4096 else n) then 4096 else (if -4096 > n then -4096 else n) := by
    unfold sE9
    apply wrapI'
    constructor <;> split <;> split <;> omega
  have hr := rd_w9 m (sgn a) (wSg_ok a) (C := sE9 a n) (D := xp a + kN9 n) (by
    rw [hw]
    unfold kN9
    split <;> split <;> split <;> split <;> omega)
  rw [hr, wSg_nat] at hf
  exact fits_calls T hf (okCons (decide_eq_true (wSg_ok a)) (okCons ka (okCons (decide_eq_true (by omega)) (okCons ka (okCons (beq_f (by omega)) (okCons (beq_f (by omega)) (okCons (beq_f (by omega)) (okCons (beq_f (by omega)) (okL1 ka))))))))) hv (by rfl) w
theorem log_calls9 (a : Int) (ha : U a) (w : World) : Calls Try.prog 11 #[.int .u64 a] w fun r w' => r = .returned (rdT (logP a) (logF a)) ∧ Tidy w w' := by
  have hv : ([.int .u64 a].all (lt 0)) = true := rfl
  have T := tabY_ok conK0_ok
  have ka : decide (U a) = true := decide_eq_true ha
  have ba := cl_bd a
  unfold logP logF nanF
  by_cases ha3 : 3 < cl a
  · rw [if_pos ha3, if_pos ha3]
    by_cases a5 : cl a = 5
    · rw [if_pos a5]
      exact fits_calls T (lg_n2 a) (okCons (beq_t (by omega)) (okCons ka (okCons (beq_t (by omega)) (okCons (beq_f (by omega)) (okL1 ka))))) hv (by rfl) w
    · rw [if_neg a5]
      exact fits_calls T (lg_n1 a) (okCons (beq_f (by omega)) (okCons ka (okCons (beq_t (by omega)) (okL1 ka)))) hv (by rfl) w
  rw [if_neg ha3, if_neg ha3]
  by_cases a0 : cl a = 0
  · rw [if_pos a0, if_pos a0]
    exact fits_calls T (lg_z a) (okCons (beq_t (by omega)) (okCons (beq_f (by omega)) (okCons (beq_f (by omega)) (okL1 ka)))) hv (by rfl) w
  rw [if_neg a0, if_neg a0]
  by_cases a3 : cl a = 3
  · rw [if_pos a3, if_pos a3]
    exact fits_calls T (lg_e a) (okCons (beq_t (by omega)) (okCons (beq_f (by omega)) (okCons (beq_f (by omega)) (okCons (beq_f (by omega)) (okL1 ka))))) hv (by rfl) w
  rw [if_neg a3, if_neg a3]
  obtain ⟨el, ow, nw⟩ := lg9 a
  by_cases hn : logN a < 0
  · rw [decide_eq_true hn]
    have hf := lg_f a
    rw [rd_w9 0 true ow (C := 0) (D := 0) (.inl rfl), nw] at hf
    rw [← el] at hn
    exact fits_calls T hf (okCons (decide_eq_true ow) (okCons (decide_eq_true hn) (okCons (decide_eq_true (wSg_ok a)) (okCons ka (okCons (decide_eq_true (by omega)) (okCons ka (okCons (beq_f (by omega)) (okCons (beq_f (by omega)) (okCons (beq_f (by omega)) (okCons (beq_f (by omega)) (okL1 ka))))))))))) hv (by rfl) w
  · rw [decide_eq_false hn]
    have hf := lg_g a
    rw [rd_w9 0 false ow (C := 0) (D := 0) (.inl rfl), nw] at hf
    rw [← el] at hn
    exact fits_calls T hf (okCons (decide_eq_true ow) (okCons (decide_eq_false hn) (okCons (decide_eq_true (wSg_ok a)) (okCons ka (okCons (decide_eq_true (by omega)) (okCons ka (okCons (beq_f (by omega)) (okCons (beq_f (by omega)) (okCons (beq_f (by omega)) (okCons (beq_f (by omega)) (okL1 ka))))))))))) hv (by rfl) w
theorem step_calls9 (a : Int) (ha : U a) (w : World) : Calls Try.prog 13 #[.int .u64 a] w fun r w' => r = .returned (rdT (stepP a) (stepF a)) ∧ Tidy w w' := by
  have hv : ([.int .u64 a].all (lt 0)) = true := rfl
  have T := tabY_ok conK0_ok
  have ka : decide (U a) = true := decide_eq_true ha
  have ba := cl_bd a
  unfold stepP stepF nanF
  by_cases ha3 : 3 < cl a
  · rw [if_pos ha3, if_pos ha3]
    by_cases a5 : cl a = 5
    · rw [if_pos a5]
      exact fits_calls T (st_n2 a) (okCons (beq_t (by omega)) (okCons ka (okCons (beq_t (by omega)) (okCons (beq_f (by omega)) (okL1 ka))))) hv (by rfl) w
    · rw [if_neg a5]
      exact fits_calls T (st_n1 a) (okCons (beq_f (by omega)) (okCons ka (okCons (beq_t (by omega)) (okL1 ka)))) hv (by rfl) w
  rw [if_neg ha3, if_neg ha3]
  by_cases a3 : cl a = 3
  · rw [if_pos a3]
    exact fits_calls T (st_e a) (okCons (beq_t (by omega)) (okCons (beq_f (by omega)) (okCons (beq_f (by omega)) (okL1 ka)))) hv (by rfl) w
  rw [if_neg a3]
  obtain ⟨f0, p0, _⟩ := st_num (p := a) (fin_ex (by omega)) 0 false
  have hf := st_f a
  obtain ⟨o, n⟩ := w1_nat (x := 1) (by omega) (by omega)
  rw [rd_w9 0 false o (C := xp a) (D := xp a) (.inl rfl), n, show (1 : Int).toNat = 1 from rfl, p0, f0] at hf
  exact fits_calls T hf (okCons (by decide) (okCons ka (okCons (beq_f (by omega)) (okCons (beq_f (by omega)) (okCons (beq_f (by omega)) (okL1 ka)))))) hv (by rfl) w
theorem up_calls9 (a : Int) (ha : U a) (w : World) : Calls Try.prog 15 #[.int .u64 a] w fun r w' => r = .returned (rdT (upP a) (upF a)) ∧ Tidy w w' := by
  have hv : ([.int .u64 a].all (lt 0)) = true := rfl
  have T := tabY_ok conK0_ok
  have ka : decide (U a) = true := decide_eq_true ha
  have ba := cl_bd a
  unfold upP upF nanF
  by_cases ha3 : 3 < cl a
  · rw [if_pos ha3, if_pos ha3]
    by_cases a5 : cl a = 5
    · rw [if_pos a5]
      exact fits_calls T (up_n2 a) (okCons (beq_t (by omega)) (okCons ka (okCons (decide_eq_true (by omega)) (okL1 ka)))) hv (by rfl) w
    · rw [if_neg a5]
      exact fits_calls T (up_n1 a) (okCons (beq_f (by omega)) (okCons ka (okCons (decide_eq_true (by omega)) (okL1 ka)))) hv (by rfl) w
  rw [if_neg ha3, if_neg ha3]
  by_cases hi : a = 9218868437227405312
  · rw [if_pos hi]
    exact fits_calls T (up_e a) (okCons (beq_t hi) (okCons (decide_eq_false (by omega)) (okL1 ka))) hv (by rfl) w
  rw [if_neg hi]
  by_cases a0 : cl a = 0
  · rw [if_pos a0]
    exact fits_calls T (up_z a) (okCons (beq_t (by omega)) (okCons ka (okCons (beq_f hi) (okCons (decide_eq_false (by omega)) (okL1 ka))))) hv (by rfl) w
  rw [if_neg a0]
  by_cases hs : a < 9223372036854775808
  · rw [if_pos hs]
    have hm : mag a = a := mag_self ha.1 hs
    have hf := up_p a
    rw [wrapU' (n := a + 1) ⟨by unfold U at ha; omega, by unfold U at ha; omega⟩] at hf
    exact fits_calls T hf (okCons (beq_t (by rw [bNot_mag ha]; exact hm)) (okCons (beq_f (by omega)) (okCons ka (okCons (beq_f hi) (okCons (decide_eq_false (by omega)) (okL1 ka)))))) hv (by rfl) w
  · rw [if_neg hs]
    have hm : mag a ≠ a := by unfold mag; omega
    have hf := up_m a
    rw [wrapU' (n := a - 1) ⟨by unfold U at ha; omega, by unfold U at ha; omega⟩] at hf
    exact fits_calls T hf (okCons (beq_f (by rw [bNot_mag ha]; exact hm)) (okCons (beq_f (by omega)) (okCons ka (okCons (beq_f hi) (okCons (decide_eq_false (by omega)) (okL1 ka)))))) hv (by rfl) w
def gKU : Ans := gU fun a => rdT (upP a) (upF a)
theorem gKU_ok : AnsOk 15 gKU := gU_ok fun a ha w => up_calls9 a ha w
def conK1 : Con := alt 15 gKU conK0
theorem conK1_ok : ConOk conK1 := alt_ok Try.func15 rfl gKU_ok conK0_ok
theorem dn_n1 (a : Int) : Fits (reckon (tabOf Try.prog extY conK1 true) 300 17 [.int .u64 a] [cmp true, cmp false]) (rdT 9221120237041090560 0) [(cl a == 5, false), lU a, (decide (cl a > 3), true), lU a] := ⟨by kernel_rfl, by kernel_rfl, by kernel_rfl, by kernel_rfl⟩
theorem dn_n2 (a : Int) : Fits (reckon (tabOf Try.prog extY conK1 true) 300 17 [.int .u64 a] [cmp true, cmp true]) (rdT 9221120237041090560 1) [(cl a == 5, true), lU a, (decide (cl a > 3), true), lU a] := ⟨by kernel_rfl, by kernel_rfl, by kernel_rfl, by kernel_rfl⟩
theorem dn_f (a : Int) : Fits (reckon (tabOf Try.prog extY conK1 true) 300 17 [.int .u64 a] [cmp false]) (rdT (bXor (upP (bXor a 9223372036854775808)) 9223372036854775808) (upF (bXor a 9223372036854775808))) [lU (bXor a 9223372036854775808), (decide (cl a > 3), false), lU a] := ⟨by kernel_rfl, by kernel_rfl, by kernel_rfl, by kernel_rfl⟩
theorem cl_ng {a : Int} (ha : U a) : cl (ng a) = cl a := by
  obtain ⟨_, _, e1, e2, _⟩ := ng_parts ha
  unfold cl
  rw [e1, e2]
theorem up_U {a : Int} (ha : U a) : U (upP a) := by
  have ba := cl_bd a
  unfold upP U at *
  split
  · omega
  · split
    · omega
    · split
      · omega
      · split <;> omega
theorem down_calls9 (a : Int) (ha : U a) (w : World) : Calls Try.prog 17 #[.int .u64 a] w fun r w' => r = .returned (rdT (dnP a) (upF a)) ∧ Tidy w w' := by
  have hv : ([.int .u64 a].all (lt 0)) = true := rfl
  have T := tabY_ok conK1_ok
  have ka : decide (U a) = true := decide_eq_true ha
  have ba := cl_bd a
  have hn := (ng_parts ha).1
  unfold dnP upF nanF
  by_cases ha3 : 3 < cl a
  · rw [if_pos ha3, if_pos ha3]
    by_cases a5 : cl a = 5
    · rw [if_pos a5]
      exact fits_calls T (dn_n2 a) (okCons (beq_t (by omega)) (okCons ka (okCons (decide_eq_true (by omega)) (okL1 ka)))) hv (by rfl) w
    · rw [if_neg a5]
      exact fits_calls T (dn_n1 a) (okCons (beq_f (by omega)) (okCons ka (okCons (decide_eq_true (by omega)) (okL1 ka)))) hv (by rfl) w
  rw [if_neg ha3, if_neg ha3]
  have hf := dn_f a
  have e : upF (ng a) = 0 := by unfold upF; rw [cl_ng ha, if_neg ha3]
  rw [bXor_ng ha, bXor_ng (up_U hn), e] at hf
  exact fits_calls T hf (okCons (decide_eq_true hn) (okCons (decide_eq_false (by omega)) (okL1 ka))) hv (by rfl) w
def gKD : Ans := gU fun a => rdT (dnP a) (upF a)
theorem gKD_ok : AnsOk 17 gKD := gU_ok fun a ha w => down_calls9 a ha w
def gKL : Ans := gU fun a => rdT (logP a) (logF a)
theorem gKL_ok : AnsOk 11 gKL := gU_ok fun a ha w => log_calls9 a ha w
def gKT : Ans := gU fun a => rdT (stepP a) (stepF a)
theorem gKT_ok : AnsOk 13 gKT := gU_ok fun a ha w => step_calls9 a ha w
def gKS : Ans := fun vals s =>
  match vals with
  | [.int .u64 a, .int .i64 n, .int .i64 m] => some (rdT (scaP m a n) (scaF m a n), s, [(decide (U a), true)])
  | _ => none
theorem gKS_ok : AnsOk 8 gKS := by
  intro vals s v s' lg h hl w
  unfold gKS at h
  split at h
  · cases h
    exact scale_calls _ _ _ (of_decide_eq_true (hl _ (List.mem_singleton.2 rfl))) w
  · cases h
def conK2 : Con := alt 15 gKU (alt 17 gKD (alt 11 gKL (alt 13 gKT (alt 8 gKS conN))))
theorem conK2_ok : ConOk conK2 := alt_ok Try.func15 rfl gKU_ok (alt_ok Try.func17 rfl gKD_ok (alt_ok Try.func11 rfl gKL_ok (alt_ok Try.func13 rfl gKT_ok (alt_ok Try.func8 rfl gKS_ok conN_ok))))
theorem sure9_n : upP 4607182418800017408 = 4607182418800017409 ∧ upF 4607182418800017408 = 0 ∧ logP 4621819117588971520 = 4613937818241073152 ∧ logF 4621819117588971520 = 0 := ⟨by kernel_rfl, by kernel_rfl, by kernel_rfl, by kernel_rfl⟩
theorem sure9 : Fits (reckon (tabOf Try.prog extY conK2 true) 300 10 [] [cmp true, cmp true, cmp true, cmp true]) (.bool true) [(logF 4621819117588971520 == 0, true), (logP 4621819117588971520 == 4613937818241073152, true), (upF 4607182418800017408 == 0, true), (upP 4607182418800017408 == 4607182418800017409, true), (decide (U 4621819117588971520), true), (decide (U 4607182418800017408), true)] := ⟨by kernel_rfl, by kernel_rfl, by kernel_rfl, by kernel_rfl⟩
def gSure9 : Ans := fun vals s => match vals with | [] => some (.bool true, s, []) | _ => none
theorem gSure9_ok : AnsOk 10 gSure9 := by
  intro vals s v s' lg h hl w
  unfold gSure9 at h
  split at h
  · cases h
    obtain ⟨n1, n2, n3, n4⟩ := sure9_n
    exact fits_calls (tabY_ok conK2_ok) sure9 (okCons (beq_t n4) (okCons (beq_t n3) (okCons (beq_t n2) (okCons (beq_t n1) (okCons (by decide) (okL1 (by decide))))))) (by rfl) (by rfl) w
  · cases h
def conS9 : Con := alt 10 gSure9 conK2
theorem conS9_ok : ConOk conS9 := alt_ok Try.func10 rfl gSure9_ok conK2_ok
end Go.Proofs.Ytehfjljnaencjaa
