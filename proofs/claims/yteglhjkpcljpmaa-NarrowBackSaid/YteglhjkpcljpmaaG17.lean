/-
  PLAIN ARITHMETIC: rests of patterns' numbers, and patterns' numbers rounded to whole ones.
-/
import Derived.Test.YteglhjkpcljpmaaG16
import Derived.Test.YteglhjkpcljpmaaG15
namespace Go.Rn
open Go.Nt Go.Wd Go.Pt

/-! ### patterns and their numbers, in one order -/
theorem mag_self {p : Int} (h0 : 0 ≤ p) (h1 : p < 9223372036854775808) : mag p = p := by unfold mag; omega
theorem fin_small {p : Int} (h0 : 0 ≤ p) (h1 : p < 9218868437227405312) : ex p ≠ 2047 := by unfold ex; omega
theorem uV_lt {p q : Int} (hp : 0 ≤ p) (hpq : p < q) (hq : q < 9218868437227405312) : uV p < uV q := by
  rcases Nat.lt_or_ge (uV p) (uV q) with h | h
  · exact h
  · exfalso
    obtain ⟨a1, _⟩ := own_uV (m := 0) (n := false) (fin_small (p := p) hp (by omega))
    obtain ⟨b1, _⟩ := own_uV (m := 0) (n := false) (fin_small (p := q) (by omega) hq)
    have := rnP_mono (m := 0) (neg := false) (E := -1074) h
    rw [a1, b1, mag_self hp (by omega), mag_self (by omega) (by omega)] at this
    omega
theorem uV_le {p q : Int} (hq0 : 0 ≤ q) (hp : p < 9218868437227405312) (h : uV p ≤ uV q) : p ≤ q := by
  rcases Int.lt_or_le q p with hc | hc
  · have := uV_lt hq0 hc hp; omega
  · exact hc
theorem mag_lt2 (p : Int) : 0 ≤ mag p ∧ mag p < 9223372036854775808 := by unfold mag; omega
theorem uV_mag (p : Int) : uV (mag p) = uV p := by
  have e : ex (mag p) = ex p ∧ fr (mag p) = fr p := by unfold ex fr mag; omega
  unfold uV xp sg
  rw [e.1, e.2]
/-- twice a pattern's number, where it is a finite one -/
def tw2 (p : Int) : Int := if p / 4503599627370496 % 2048 = 0 then 2 * p else p + 4503599627370496
theorem tw2_num {p : Int} (h0 : 0 ≤ p) (h1 : p < 9214364837600034816) : uV (tw2 p) = 2 * uV p ∧ 0 ≤ tw2 p ∧ tw2 p < 9218868437227405312 := by
  have key : ∀ (q : Int) (S : Nat) (x : Int), (sg q).toNat = S → xp q = x → uV q = S * 2 ^ (x - -1074).toNat := fun q S x e1 e2 => by unfold uV szF; rw [e1, e2]
  by_cases hz : p / 4503599627370496 % 2048 = 0
  · have e : tw2 p = 2 * p := by unfold tw2; rw [if_pos hz]
    have hp : p < 4503599627370496 := by omega
    have ep : ex p = 0 := hz
    have fp : fr p = p := by unfold fr; omega
    have u1 := key p p.toNat (-1074) (by unfold sg; rw [if_pos ep, fp]) (by unfold xp; rw [if_pos ep])
    rw [e]
    refine ⟨?_, by omega, by omega⟩
    by_cases hs : 2 * p < 4503599627370496
    · have e2 : ex (2 * p) = 0 := by unfold ex; omega
      have f2 : fr (2 * p) = 2 * p := by unfold fr; omega
      have u2 := key (2 * p) (2 * p).toNat (-1074) (by unfold sg; rw [if_pos e2, f2]) (by unfold xp; rw [if_pos e2])
      rw [u1, u2]
      simp
      omega
    · have e2 : ex (2 * p) = 1 := by unfold ex; omega
      have f2 : fr (2 * p) = 2 * p - 4503599627370496 := by unfold fr; omega
      have u2 := key (2 * p) (2 * p).toNat (-1074) (by unfold sg; rw [e2, if_neg (by omega), if_neg (by omega), f2]; congr 1; omega) (by unfold xp; rw [e2, if_neg (by omega), if_neg (by omega)]; omega)
      rw [u1, u2]
      simp
      omega
  · have e : tw2 p = p + 4503599627370496 := by unfold tw2; rw [if_neg hz]
    have ep : ex p = p / 4503599627370496 % 2048 := rfl
    have hx : 1 ≤ ex p ∧ ex p ≤ 2045 := by unfold ex; omega
    have e2 : ex (p + 4503599627370496) = ex p + 1 := by unfold ex; omega
    have f2 : fr (p + 4503599627370496) = fr p := by unfold fr; omega
    have u1 := key p (fr p + 4503599627370496).toNat (ex p - 1075) (by unfold sg; rw [if_neg (by omega), if_neg (by omega)]) (by unfold xp; rw [if_neg (by omega), if_neg (by omega)])
    have u2 := key (p + 4503599627370496) (fr p + 4503599627370496).toNat (ex p - 1074) (by unfold sg; rw [e2, if_neg (by omega), if_neg (by omega), f2]) (by unfold xp; rw [e2, if_neg (by omega), if_neg (by omega)]; omega)
    rw [e]
    refine ⟨?_, by omega, by omega⟩
    rw [u1, u2, show (ex p - 1074 - -1074).toNat = (ex p - 1075 - -1074).toNat + 1 by omega, Nat.pow_succ, ← Nat.mul_assoc]
    omega
/-- few bits, at a unit that patterns have: nothing is rounded -/
theorem few_exact {D : Nat} {E : Int} (hE : -1074 ≤ E) (hD : D < 9007199254740992) {b : Int} (hb : ex b ≠ 2047) (hle : D * 2 ^ (E + 1074).toNat ≤ uV b) (m : Int) (n : Bool) :
    rnF m n D E = 0 ∧ rnP m n D E = rnP 0 false (D * 2 ^ (E + 1074).toNat) (-1074) ∧ 0 ≤ rnP m n D E ∧ rnP m n D E ≤ mag b ∧ uV (rnP m n D E) = D * 2 ^ (E + 1074).toNat := by
  have sp := rnP_scale m n D (E + 1074).toNat E
  have sf := rnF_scale m n D (E + 1074).toNat E
  rw [show E - ((E + 1074).toNat : Int) = -1074 by omega] at sp sf
  obtain ⟨N, hN⟩ : ∃ N, N = D * 2 ^ (E + 1074).toNat := ⟨_, rfl⟩
  rw [← hN] at sp sf hle ⊢
  have ob := own_uV (m := 0) (n := false) hb
  have mb := mag_lt2 b
  by_cases hz : D = 0
  · have hN0 : N = 0 := by rw [hN, hz, Nat.zero_mul]
    have p0' : rnP m n D E = 0 := by unfold rnP; rw [if_pos hz]
    have f0' : rnF m n D E = 0 := by unfold rnF; rw [if_pos hz]
    have q0 : rnP 0 false N (-1074) = 0 := by unfold rnP; rw [if_pos hN0]
    rw [p0', f0', q0, hN0]
    exact ⟨rfl, rfl, by omega, by omega, by decide⟩
  · have hU : uV b ≠ 0 := by
      have : 0 < 2 ^ (E + 1074).toNat := Nat.pow_pos (by omega)
      have : 0 < N := by rw [hN]; exact Nat.mul_pos (by omega) this
      omega
    have hpb : p0 0 false (uV b) (-1074) < 9218868437227405312 := (rn_num hU (.inl ob.2)).1
    have hF : ∀ m n, rnF m n D E = 0 := fun m n => by
      have hD2 : D ≤ N := by rw [hN]; exact Nat.le_mul_of_pos_right _ (Nat.pow_pos (by omega))
      have hk : p0 0 false (D) E < 9218868437227405312 := by
        have e := p0_scale (T := D) hz 0 false (E + 1074).toNat E
        rw [show E - ((E + 1074).toNat : Int) = -1074 by omega, ← hN] at e
        rw [← e]
        have := p0_mono (m := 0) (neg := false) (E := -1074) (T := N) (U := uV b) (by rw [hN]; exact Nat.mul_ne_zero hz (Nat.ne_of_gt (Nat.pow_pos (by omega)))) hle
        omega
      exact few_bits (k := 0) (s := false) (A := D) hE hD (Nat.le_refl _) hk
    have f1 := hF m n
    have f2 : rnF m n N (-1074) = 0 := by rw [sf]; exact f1
    have f3 : rnF 0 false N (-1074) = 0 := by
      have := rnF_scale 0 false D (E + 1074).toNat E
      rw [show E - ((E + 1074).toNat : Int) = -1074 by omega, ← hN] at this
      rw [this]
      exact hF 0 false
    obtain ⟨b1, b2⟩ := back_uV f2
    obtain ⟨c1, c2⟩ := back_uV f3
    have n0 := (rnP_bd m n N (-1074)).1
    have n1 := (rnP_bd 0 false N (-1074)).1
    have same : rnP m n N (-1074) = rnP 0 false N (-1074) := by
      have h1 := uV_le n1 b1 (Nat.le_of_eq (b2.trans c2.symm))
      have h2 := uV_le n0 c1 (Nat.le_of_eq (c2.trans b2.symm))
      omega
    have mono := rnP_mono (m := 0) (neg := false) (E := -1074) hle
    rw [ob.1] at mono
    rw [← sp]
    exact ⟨f1, same, n0, by rw [same]; exact mono, b2⟩
/-! ### rests -/
/-- the lesser unit; both sizes in it -/
def wlE (a b : Int) : Int := if xp a ≤ xp b then xp a else xp b
def wlU (a b : Int) : Nat := (sg a).toNat * 2 ^ (xp a - wlE a b).toNat
def wlV (a b : Int) : Nat := (sg b).toNat * 2 ^ (xp b - wlE a b).toNat
/-- the rest of the quotient that is cut; whether the nearest quotient is the next one; its rest -/
def rsM (a b : Int) : Nat := wlU a b % wlV a b
def rsB (a b : Int) : Bool := decide (wlV a b < 2 * rsM a b ∨ (2 * rsM a b = wlV a b ∧ wlU a b / wlV a b % 2 = 1))
def rsR (a b : Int) : Nat := if rsB a b = true then wlV a b - rsM a b else rsM a b
theorem wlE_bd (a b : Int) : -1074 ≤ wlE a b ∧ wlE a b ≤ 972 ∧ wlE a b ≤ xp a ∧ wlE a b ≤ xp b ∧ (wlE a b = xp a ∨ wlE a b = xp b) := by
  have h1 := xp_bd a
  have h2 := xp_bd b
  unfold wlE
  split <;> omega
theorem wl_num (a b : Int) : wlU a b * 2 ^ (wlE a b + 1074).toNat = uV a ∧ wlV a b * 2 ^ (wlE a b + 1074).toNat = uV b := by
  obtain ⟨h0, _, h1, h2, _⟩ := wlE_bd a b
  unfold wlU wlV uV szF
  rw [Nat.mul_assoc, Nat.mul_assoc, ← Nat.pow_add, ← Nat.pow_add]
  exact ⟨by congr 2; omega, by congr 2; omega⟩
theorem wlV_pos {a b : Int} (hb : sg b ≠ 0) : 0 < wlV a b := by
  have := sg_lt b
  unfold wlV
  exact Nat.mul_pos (by omega) (Nat.pow_pos (by omega))
theorem rs_bd {a b : Int} (hb : sg b ≠ 0) : rsM a b < wlV a b ∧ rsM a b < 9007199254740992 ∧ rsR a b < 9007199254740992 ∧ 2 * rsR a b ≤ wlV a b := by
  have sa := sg_lt a
  have sb := sg_lt b
  have pv := wlV_pos (a := a) hb
  have h1 : rsM a b < wlV a b := Nat.mod_lt _ pv
  have hU : rsM a b ≤ wlU a b := Nat.mod_le _ _
  have hR : rsR a b ≤ rsM a b ∧ 2 * rsR a b ≤ wlV a b := by
    unfold rsR
    by_cases hB : rsB a b = true
    · rw [if_pos hB]
      have := of_decide_eq_true hB
      omega
    · rw [if_neg hB]
      have : ¬ (wlV a b < 2 * rsM a b ∨ (2 * rsM a b = wlV a b ∧ wlU a b / wlV a b % 2 = 1)) := fun h => hB (decide_eq_true h)
      omega
  have small : rsM a b < 9007199254740992 := by
    obtain ⟨_, _, _, _, h5⟩ := wlE_bd a b
    rcases h5 with h5 | h5
    · have : wlU a b = (sg a).toNat := by unfold wlU; rw [h5, Int.sub_self]; simp
      omega
    · have : wlV a b = (sg b).toNat := by unfold wlV; rw [h5, Int.sub_self]; simp
      omega
  exact ⟨h1, small, by omega, hR.2⟩
/-- the rests' patterns -/
def mdP (a b : Int) : Int := rnP 0 (sgn a) (rsM a b) (wlE a b)
def rmP (a b : Int) : Int := rnP 0 (sgn a != rsB a b) (rsR a b) (wlE a b)
theorem md_num {a b : Int} (hb : sg b ≠ 0) (hf : ex b ≠ 2047) (m : Int) (n : Bool) : rnF m n (rsM a b) (wlE a b) = 0 ∧ rnP m n (rsM a b) (wlE a b) = mdP a b ∧ 0 ≤ mdP a b ∧ mdP a b < mag b ∧ uV (mdP a b) = rsM a b * 2 ^ (wlE a b + 1074).toNat := by
  obtain ⟨h1, h2, _, _⟩ := rs_bd (a := a) hb
  obtain ⟨w1, w2⟩ := wl_num a b
  have hp : 0 < 2 ^ (wlE a b + 1074).toNat := Nat.pow_pos (by omega)
  have hlt : rsM a b * 2 ^ (wlE a b + 1074).toNat < uV b := by rw [← w2]; exact Nat.mul_lt_mul_of_pos_right h1 hp
  have k := few_exact (wlE_bd a b).1 h2 hf (Nat.le_of_lt hlt)
  obtain ⟨a1, a2, a3, a4, a5⟩ := k m n
  obtain ⟨b1, b2, b3, b4, b5⟩ := k 0 (sgn a)
  refine ⟨a1, a2.trans b2.symm, b3, ?_, b5⟩
  rcases Int.lt_or_le (rnP 0 (sgn a) (rsM a b) (wlE a b)) (mag b) with hc | hc
  · exact hc
  · exfalso
    have e : rnP 0 (sgn a) (rsM a b) (wlE a b) = mag b := by omega
    rw [e, uV_mag] at b5
    omega
theorem rm_num {a b : Int} (hb : sg b ≠ 0) (hf : ex b ≠ 2047) (m : Int) (n : Bool) : rnF m n (rsR a b) (wlE a b) = 0 ∧ rnP m n (rsR a b) (wlE a b) = rmP a b ∧ 0 ≤ rmP a b ∧ rmP a b < mag b ∧ 2 * uV (rmP a b) ≤ uV b := by
  obtain ⟨_, _, h3, h4⟩ := rs_bd (a := a) hb
  obtain ⟨w1, w2⟩ := wl_num a b
  have pv := wlV_pos (a := a) hb
  have hp : 0 < 2 ^ (wlE a b + 1074).toNat := Nat.pow_pos (by omega)
  have h2 : 2 * (rsR a b * 2 ^ (wlE a b + 1074).toNat) ≤ uV b := by rw [← w2, ← Nat.mul_assoc]; exact Nat.mul_le_mul_right _ h4
  have hlt : rsR a b * 2 ^ (wlE a b + 1074).toNat < uV b := by
    have : 0 < uV b := by rw [← w2]; exact Nat.mul_pos pv hp
    omega
  have k := few_exact (wlE_bd a b).1 h3 hf (Nat.le_of_lt hlt)
  obtain ⟨a1, a2, a3, a4, a5⟩ := k m n
  obtain ⟨b1, b2, b3, b4, b5⟩ := k 0 (sgn a != rsB a b)
  refine ⟨a1, a2.trans b2.symm, b3, ?_, by unfold rmP; rw [b5]; exact h2⟩
  rcases Int.lt_or_le (rnP 0 (sgn a != rsB a b) (rsR a b) (wlE a b)) (mag b) with hc | hc
  · exact hc
  · exfalso
    have e : rnP 0 (sgn a != rsB a b) (rsR a b) (wlE a b) = mag b := by omega
    rw [e, uV_mag] at b5
    omega
/-- twice the rest of the nearest quotient is not above what was divided by -/
theorem rm_twice {a b : Int} (hb : sg b ≠ 0) (hf : ex b ≠ 2047) : tw2 (rmP a b) ≤ mag b := by
  obtain ⟨_, _, r0, r1, r2⟩ := rm_num (a := a) hb hf 0 false
  have sb := sg_lt b
  have mb := mag_lt2 b
  have fb : mag b < 9218868437227405312 := by
    have : mag b = 4503599627370496 * ex b + fr b := by unfold mag ex fr; omega
    have h1 : 0 ≤ ex b ∧ ex b < 2048 := by unfold ex; omega
    have h2 : 0 ≤ fr b ∧ fr b < 4503599627370496 := by unfold fr; omega
    omega
  have hc : rmP a b < 9214364837600034816 := by
    rcases Int.lt_or_le (rmP a b) 9214364837600034816 with h | h
    · exact h
    · exfalso
      have hx : xp b ≤ 971 := by
        have hx2 : 0 ≤ ex b ∧ ex b < 2048 := by unfold ex; omega
        unfold xp
        rw [if_neg hf]
        split <;> omega
      obtain ⟨j, hj⟩ : ∃ j : Nat, (j : Int) = 2045 := ⟨2045, rfl⟩
      have uc : uV 9214364837600034816 = 4503599627370496 * 2 ^ j := by
        have e1 : xp 9214364837600034816 = 971 := by decide
        have e2 : (sg 9214364837600034816).toNat = 4503599627370496 := by decide
        unfold uV szF
        rw [e1, e2]
        congr 2
        omega
      have ub : uV b < 9007199254740992 * 2 ^ j := by
        unfold uV szF
        have h1 : 2 ^ (xp b - -1074).toNat ≤ 2 ^ j := Nat.pow_le_pow_right (by omega) (by omega)
        have h2 : (sg b).toNat * 2 ^ (xp b - -1074).toNat ≤ (sg b).toNat * 2 ^ j := Nat.mul_le_mul_left _ h1
        have h3 : (sg b).toNat * 2 ^ j < 9007199254740992 * 2 ^ j := Nat.mul_lt_mul_of_pos_right (by omega) (Nat.pow_pos (by omega))
        omega
      have : uV 9214364837600034816 ≤ uV (rmP a b) := by
        rcases Int.lt_or_eq_of_le h with h' | h'
        · exact Nat.le_of_lt (uV_lt (by omega) h' (by omega))
        · rw [h']; exact Nat.le_refl _
      omega
  obtain ⟨t1, t2, t3⟩ := tw2_num r0 hc
  refine uV_le mb.1 t3 ?_
  rw [t1, uV_mag]
  exact r2
/-! ### rounded to a whole number -/
def whQ (m a : Int) : Nat := toQ m (sgn a) (sg a).toNat (xp a) 0
def whP (m a : Int) : Int := if 0 ≤ xp a then mag a else rnP 0 (sgn a) (whQ m a) 0
def whL (a : Int) : Bool := toL (sg a).toNat (xp a) 0
/-- what is cut towards 0 -/
def whC (a : Int) : Nat := (sg a).toNat / 2 ^ (0 - xp a).toNat
theorem whQ_eq {m a : Int} (h : xp a < 0) : whQ m a = whC a + (if gup m (sgn a) (sg a).toNat (xp a) 0 = true then 1 else 0) := by
  have hx : ¬ (0 ≤ xp a) := by omega
  unfold whQ toQ gup whC rq
  rw [if_neg hx, if_neg hx]
theorem wh_sides {a : Int} (h : xp a < 0) : (whL a = false ∧ (∀ m, whQ m a = whC a) ∧ (sg a).toNat = whC a * 2 ^ (0 - xp a).toNat) ∨
    (whL a = true ∧ (∀ m, whQ m a = whC a ∨ whQ m a = whC a + 1) ∧ whQ 3 a = whC a + (if sgn a = true then 0 else 1) ∧ whQ 4 a = whC a + (if sgn a = true then 1 else 0) ∧ whC a * 2 ^ (0 - xp a).toNat < (sg a).toNat ∧ (sg a).toNat < (whC a + 1) * 2 ^ (0 - xp a).toNat) := by
  have dm := Nat.div_add_mod (sg a).toNat (2 ^ (0 - xp a).toNat)
  have hp : 0 < 2 ^ (0 - xp a).toNat := Nat.pow_pos (by omega)
  have ml := Nat.mod_lt (sg a).toNat hp
  have eL : whL a = decide ((sg a).toNat % 2 ^ (0 - xp a).toNat ≠ 0) := by unfold whL toL; rw [if_neg (by omega)]
  have hc : 2 ^ (0 - xp a).toNat * ((sg a).toNat / 2 ^ (0 - xp a).toNat) = whC a * 2 ^ (0 - xp a).toNat := Nat.mul_comm _ _
  rw [hc] at dm
  cases hl : whL a with
  | false =>
    left
    rw [eL] at hl
    have hz : (sg a).toNat % 2 ^ (0 - xp a).toNat = 0 := by simpa using hl
    refine ⟨rfl, fun m => ?_, by omega⟩
    rw [whQ_eq h, gup_lost (by unfold toL; rw [if_neg (by omega)]; exact hl)]
    simp
  | true =>
    right
    have hl' : toL (sg a).toNat (xp a) 0 = true := hl
    obtain ⟨g3, g4, _⟩ := gup_side (neg := sgn a) hl'
    rw [eL] at hl
    have hz : (sg a).toNat % 2 ^ (0 - xp a).toNat ≠ 0 := of_decide_eq_true hl
    refine ⟨rfl, fun m => ?_, ?_, ?_, by omega, ?_⟩
    · rw [whQ_eq h]
      split
      · exact .inr rfl
      · exact .inl rfl
    · rw [whQ_eq h, g3]; cases sgn a <;> rfl
    · rw [whQ_eq h, g4]
    · rw [Nat.add_mul, Nat.one_mul]; omega
theorem whQ_bd {m a : Int} (h : xp a < 0) : whQ m a ≤ 4503599627370496 := by
  have s := sg_lt a
  have hc : whC a ≤ 4503599627370495 := by
    unfold whC
    have e : 2 ^ (0 - xp a).toNat = 2 * 2 ^ ((0 - xp a).toNat - 1) := by rw [← Nat.pow_succ']; congr 1; omega
    rw [e, ← Nat.div_div_eq_div_mul]
    have := Nat.div_le_self ((sg a).toNat / 2) (2 ^ ((0 - xp a).toNat - 1))
    omega
  rw [whQ_eq h]
  split <;> omega
/-- a whole number as a pattern -/
theorem int_num {D j : Nat} (hj : (j : Int) = 1074) (hD : D ≤ 4503599627370496) (m : Int) (n : Bool) : rnF m n D 0 = 0 ∧ rnP m n D 0 = rnP 0 false D 0 ∧ 0 ≤ rnP m n D 0 ∧ rnP m n D 0 ≤ 4845873199050653696 ∧ uV (rnP m n D 0) = D * 2 ^ j := by
  have e1 : xp 4845873199050653696 = 1 := by decide
  have e2 : (sg 4845873199050653696).toNat = 4503599627370496 := by decide
  have ej : ((0 : Int) + 1074).toNat = j := by omega
  have ub : uV 4845873199050653696 = 4503599627370496 * 2 ^ (j + 1) := by
    unfold uV szF
    rw [e1, e2]
    congr 2
    omega
  have hle : D * 2 ^ ((0 : Int) + 1074).toNat ≤ uV 4845873199050653696 := by
    rw [ej, ub, Nat.pow_succ]
    exact Nat.mul_le_mul hD (Nat.le_mul_of_pos_right _ (by omega))
  have k := few_exact (D := D) (E := 0) (by omega) (by omega) (b := 4845873199050653696) (by decide) hle
  obtain ⟨a1, a2, a3, a4, a5⟩ := k m n
  obtain ⟨_, b2, _, _, _⟩ := k 0 false
  rw [ej] at a5
  exact ⟨a1, a2.trans b2.symm, a3, a4, a5⟩
theorem wh_num {m a : Int} {j : Nat} (hj : (j : Int) = 1074) (h : xp a < 0) : uV (whP m a) = whQ m a * 2 ^ j ∧ 0 ≤ whP m a ∧ whP m a ≤ 4845873199050653696 := by
  obtain ⟨_, _, h3, h4, h5⟩ := int_num hj (whQ_bd (m := m) h) 0 (sgn a)
  unfold whP
  rw [if_neg (by omega)]
  exact ⟨h5, h3, h4⟩
/-- a whole number stays -/
theorem wh_stays {m p : Int} {j W : Nat} (hj : (j : Int) = 1074) (hf : ex p ≠ 2047) (hW : uV p = W * 2 ^ j) : whP m p = mag p ∧ (xp p < 0 → whL p = false) := by
  have xb := xp_bd p
  unfold whP
  by_cases h : 0 ≤ xp p
  · rw [if_pos h]
    exact ⟨rfl, fun h' => by omega⟩
  · rw [if_neg h]
    obtain ⟨k, hk⟩ : ∃ k : Nat, k = (0 - xp p).toNat := ⟨_, rfl⟩
    have hs : (sg p).toNat = W * 2 ^ k := by
      unfold uV szF at hW
      have e : 2 ^ j = 2 ^ k * 2 ^ (xp p - -1074).toNat := by rw [← Nat.pow_add]; congr 1; omega
      rw [e, ← Nat.mul_assoc] at hW
      exact Nat.eq_of_mul_eq_mul_right (Nat.pow_pos (by omega)) hW
    have hz : (sg p).toNat % 2 ^ k = 0 := by rw [hs]; exact Nat.mul_mod_left _ _
    have hL : whL p = false := by
      unfold whL toL
      rw [if_neg (by omega), ← hk, hz]
      rfl
    refine ⟨?_, fun _ => hL⟩
    have hq : whQ m p = W := by
      rcases wh_sides (a := p) (by omega) with ⟨_, h2, h3⟩ | ⟨h1, _⟩
      · rw [h2]
        rw [← hk, hs] at h3
        exact (Nat.eq_of_mul_eq_mul_right (Nat.pow_pos (by omega)) h3).symm
      · rw [hL] at h1; cases h1
    rw [hq]
    obtain ⟨o1, _⟩ := own_pat (m := 0) (neg := sgn p) hf
    rw [hs] at o1
    have sp := rnP_scale 0 (sgn p) W k 0
    rw [show (0 : Int) - (k : Int) = xp p by omega] at sp
    rw [← sp]
    exact o1
end Go.Rn

/-
  PLAIN ARITHMETIC: patterns of 32 bits and of 64, forth and back.
-/
namespace Go.Rn
open Go.Nt Go.Wd Go.Pt

/-! ### the parts of a pattern of 32 bits -/
def sgn3 (q : Int) : Bool := decide (2147483648 ≤ q)
def mag3 (q : Int) : Int := q % 2147483648
def ex3 (q : Int) : Int := q / 8388608 % 256
def fr3 (q : Int) : Int := q % 8388608
def xp3 (q : Int) : Int := if ex3 q = 0 then -149 else ex3 q - 150
def sg3 (q : Int) : Int := if ex3 q = 0 then fr3 q else fr3 q + 8388608
theorem ex3_bd (q : Int) : 0 ≤ ex3 q ∧ ex3 q < 256 := by unfold ex3; omega
theorem fr3_bd (q : Int) : 0 ≤ fr3 q ∧ fr3 q < 8388608 := by unfold fr3; omega
theorem mag3_eq (q : Int) : mag3 q = 8388608 * ex3 q + fr3 q := by unfold mag3 ex3 fr3; omega
theorem sg3_bd (q : Int) : 0 ≤ sg3 q ∧ sg3 q < 16777216 := by
  have := fr3_bd q
  unfold sg3
  split <;> omega
theorem xp3_bd (q : Int) : -149 ≤ xp3 q ∧ xp3 q ≤ 105 := by
  have := ex3_bd q
  unfold xp3
  split <;> omega
/-- a pattern's own number is rounded to it -/
theorem own_3 {q : Int} (h : ex3 q ≠ 255) (m : Int) (n : Bool) : rnPN m n (sg3 q).toNat (xp3 q) = mag3 q ∧ rnFN m n (sg3 q).toNat (xp3 q) = 0 := by
  have h1 := ex3_bd q
  have h2 := fr3_bd q
  have h3 := mag3_eq q
  unfold sg3 xp3
  by_cases h0 : ex3 q = 0
  · simp only [if_pos h0]
    obtain ⟨a, b⟩ := own_eqN (m := m) (neg := n) (S := (fr3 q).toNat) (x := -149) (by omega) (by omega) (by omega) (by omega) (by omega)
    exact ⟨by rw [a]; omega, b⟩
  · simp only [if_neg h0]
    obtain ⟨a, b⟩ := own_eqN (m := m) (neg := n) (S := (fr3 q + 8388608).toNat) (x := ex3 q - 150) (by omega) (by omega) (by omega) (by omega) (by omega)
    exact ⟨by rw [a]; omega, b⟩
/-- as a pattern of 64 bits it is the same number -/
theorem fu_num {q : Int} (h : ex3 q ≠ 255) (m : Int) (n : Bool) : rnF m n (sg3 q).toNat (xp3 q) = 0 ∧ rnP m n (sg3 q).toNat (xp3 q) = rnP 0 false (sg3 q).toNat (xp3 q) ∧ 0 ≤ rnP m n (sg3 q).toNat (xp3 q) ∧ rnP m n (sg3 q).toNat (xp3 q) ≤ 5183643171103440896 ∧ uV (rnP m n (sg3 q).toNat (xp3 q)) = (sg3 q).toNat * 2 ^ (xp3 q + 1074).toNat := by
  have hs := sg3_bd q
  have hx := xp3_bd q
  have hx2 : xp3 q ≤ 104 := by
    have := ex3_bd q
    unfold xp3
    split <;> omega
  have e1 : xp 5183643171103440896 = 76 := by decide
  have e2 : (sg 5183643171103440896).toNat = 2 ^ 52 := by decide
  have hle : (sg3 q).toNat * 2 ^ (xp3 q + 1074).toNat ≤ uV 5183643171103440896 := by
    unfold uV szF
    rw [e1, e2]
    refine Nat.le_trans (Nat.mul_le_mul_right _ (show (sg3 q).toNat ≤ 2 ^ 24 from ?_)) ?_
    · have : (2 : Nat) ^ 24 = 16777216 := rfl
      omega
    · rw [← Nat.pow_add, ← Nat.pow_add]
      exact Nat.pow_le_pow_right (by omega) (by omega)
  have k := few_exact (D := (sg3 q).toNat) (E := xp3 q) (by omega) (by omega) (b := 5183643171103440896) (by decide) hle
  obtain ⟨a1, a2, a3, a4, a5⟩ := k m n
  obtain ⟨_, b2, _, _, _⟩ := k 0 false
  exact ⟨a1, a2.trans b2.symm, a3, a4, a5⟩
/-- rounding asks for the number alone -/
theorem na_uV (m : Int) (n : Bool) (p : Int) : rnPN m n (sg p).toNat (xp p) = rnPN m n (uV p) (-1074) ∧ rnFN m n (sg p).toNat (xp p) = rnFN m n (uV p) (-1074) := by
  have xb := xp_bd p
  have h1 := rnP_scaleN m n (sg p).toNat (xp p - -1074).toNat (xp p)
  have h2 := rnF_scaleN m n (sg p).toNat (xp p - -1074).toNat (xp p)
  rw [show xp p - ((xp p - -1074).toNat : Int) = -1074 by omega] at h1 h2
  unfold uV szF
  exact ⟨h1.symm, h2.symm⟩
/-- back again -/
theorem na_back {p q : Int} (h : ex3 q ≠ 255) (hu : uV p = (sg3 q).toNat * 2 ^ (xp3 q + 1074).toNat) (m : Int) (n : Bool) : rnPN m n (sg p).toNat (xp p) = mag3 q ∧ rnFN m n (sg p).toNat (xp p) = 0 := by
  have hx := xp3_bd q
  obtain ⟨a1, a2⟩ := na_uV m n p
  have h1 := rnP_scaleN m n (sg3 q).toNat (xp3 q + 1074).toNat (xp3 q)
  have h2 := rnF_scaleN m n (sg3 q).toNat (xp3 q + 1074).toNat (xp3 q)
  rw [show xp3 q - ((xp3 q + 1074).toNat : Int) = -1074 by omega] at h1 h2
  obtain ⟨b1, b2⟩ := own_3 h m n
  rw [a1, a2, hu, h1, h2]
  exact ⟨b1, b2⟩
/-- between neighbours -/
theorem na_sides (T : Nat) (E : Int) : (rnPN 3 false T E = rnPN 4 false T E ∧ rnFN 3 false T E = 0 ∧ rnFN 4 false T E = 0) ∨ (rnPN 3 false T E = rnPN 4 false T E + 1 ∧ (rnFN 3 false T E = 16 ∨ rnFN 3 false T E = 20 ∨ rnFN 3 false T E = 24) ∧ (rnFN 4 false T E = 16 ∨ rnFN 4 false T E = 20 ∨ rnFN 4 false T E = 24)) := by
  cases h : inexN T E with
  | false =>
    obtain ⟨a1, a2⟩ := exact_ofN (m := 3) (neg := false) h
    obtain ⟨b1, b2⟩ := exact_ofN (m := 4) (neg := false) h
    exact .inl ⟨a1.trans b1.symm, a2, b2⟩
  | true =>
    obtain ⟨a1, a2⟩ := inex_sideN (neg := false) h
    refine .inr ⟨?_, inex_FN h, inex_FN h⟩
    rw [a1, a2, if_neg (by decide), if_neg (by decide), Int.add_zero]
/-- the greater one never becomes a less one -/
theorem na_mono {x y : Int} (hx : 0 ≤ x) (h : x ≤ y) (hy : y < 9218868437227405312) (m : Int) : rnPN m false (sg x).toNat (xp x) ≤ rnPN m false (sg y).toNat (xp y) := by
  rw [(na_uV m false x).1, (na_uV m false y).1]
  refine rnP_monoN ?_
  rcases Int.lt_or_eq_of_le h with h | h
  · exact Nat.le_of_lt (uV_lt hx h hy)
  · rw [h]
    exact Nat.le_refl _
end Go.Rn

/-
  PLAIN ARITHMETIC: bits of words of 32, as the model's operators write them; patterns of 32 bits with a sign.
-/
namespace Go.Rn
open Go.Pt Go.Wd

def hAnd (x y : Int) : Int := IntKind.u32.wrap ((BitVec.ofInt 32 x &&& BitVec.ofInt 32 y).toNat : Nat)
def hOr (x y : Int) : Int := IntKind.u32.wrap ((BitVec.ofInt 32 x ||| BitVec.ofInt 32 y).toNat : Nat)
def hNot (x y : Int) : Int := IntKind.u32.wrap ((BitVec.ofInt 32 x &&& ~~~(BitVec.ofInt 32 y)).toNat : Nat)
abbrev U3 (p : Int) : Prop := 0 ≤ p ∧ p < 4294967296
theorem wrap3 (n : Int) : IntKind.u32.wrap n = n % 4294967296 := by simp [IntKind.wrap, IntKind.bits, IntKind.signed]
theorem of3 {Z : Nat} (h : Z < 4294967296) : (BitVec.ofInt 32 (Z : Int)).toNat = Z := by simp; omega
theorem back3 {V : BitVec 32} : IntKind.u32.wrap (V.toNat : Nat) = (V.toNat : Int) := by
  have := V.isLt
  rw [wrap3]
  omega
theorem hNot_sign {q : Int} (hq : U3 q) : hNot q 2147483648 = mag3 q := by
  obtain ⟨h0, h1⟩ := hq
  obtain ⟨Z, rfl⟩ := Int.eq_ofNat_of_zero_le h0
  unfold hNot mag3
  have e : (~~~(BitVec.ofInt 32 2147483648)).toNat = 2 ^ 31 - 1 := by decide
  rw [back3, BitVec.toNat_and, of3 (by omega), e, Nat.and_two_pow_sub_one_eq_mod]
  omega
theorem hAnd_mag {q : Int} (hq : U3 q) : hAnd q 2147483647 = mag3 q := by
  obtain ⟨h0, h1⟩ := hq
  obtain ⟨Z, rfl⟩ := Int.eq_ofNat_of_zero_le h0
  unfold hAnd mag3
  have e : (BitVec.ofInt 32 2147483647).toNat = 2 ^ 31 - 1 := by decide
  rw [back3, BitVec.toNat_and, of3 (by omega), e, Nat.and_two_pow_sub_one_eq_mod]
  omega
theorem hAnd_sign {q : Int} (hq : U3 q) : hAnd q 2147483648 = if sgn3 q = true then 2147483648 else 0 := by
  obtain ⟨h0, h1⟩ := hq
  obtain ⟨Z, rfl⟩ := Int.eq_ofNat_of_zero_le h0
  unfold hAnd sgn3
  have e : (BitVec.ofInt 32 2147483648).toNat = 2 ^ 31 * (2 ^ 1 - 1) := by decide
  rw [back3, BitVec.toNat_and, of3 (by omega), e, and_mask]
  have e2 : (2 : Nat) ^ 31 = 2147483648 := rfl
  rw [e2]
  by_cases h : (2147483648 : Int) ≤ (Z : Int)
  · rw [if_pos (decide_eq_true h)]
    omega
  · rw [if_neg (by simpa using h)]
    omega
theorem hOr_sign {q : Int} (h0 : 0 ≤ q) (h1 : q < 2147483648) : hOr q 2147483648 = q + 2147483648 := by
  obtain ⟨Z, rfl⟩ := Int.eq_ofNat_of_zero_le h0
  have hZ : Z < 2 ^ 31 := by
    have : (2 : Nat) ^ 31 = 2147483648 := rfl
    omega
  unfold hOr
  have e : (BitVec.ofInt 32 2147483648).toNat = 2 ^ 31 * 1 := by decide
  rw [back3, BitVec.toNat_or, of3 (by omega), e, Nat.or_comm, ← Nat.two_pow_add_eq_or_of_lt hZ]
  have e2 : (2 : Nat) ^ 31 = 2147483648 := rfl
  rw [e2]
  omega
theorem hOr_zero {q : Int} (hq : U3 q) : hOr q 0 = q := by
  obtain ⟨h0, h1⟩ := hq
  obtain ⟨Z, rfl⟩ := Int.eq_ofNat_of_zero_le h0
  unfold hOr
  have e : (BitVec.ofInt 32 0).toNat = 0 := by decide
  rw [back3, BitVec.toNat_or, of3 (by omega), e, Nat.or_zero]
/-- a pattern of 32 bits with a sign -/
def s3 (n : Bool) (q : Int) : Int := if n = true then q + 2147483648 else q
/-- the sign of one of 64 bits, taken over -/
theorem sign_over {p q : Int} (hp : U p) (h0 : 0 ≤ q) (h1 : q < 2147483648) : hOr q (hAnd (IntKind.u32.wrap (p / 4294967296)) 2147483648) = s3 (sgn p) q := by
  have hp0 := hp.1
  have hp1 := hp.2
  have e : IntKind.u32.wrap (p / 4294967296) = p / 4294967296 := by rw [wrap3]; omega
  have es : sgn3 (p / 4294967296) = sgn p := by
    unfold sgn3 sgn
    exact decide_eq_decide.2 (by omega)
  rw [e, hAnd_sign ⟨by omega, by omega⟩, es]
  unfold s3
  cases sgn p with
  | true =>
    rw [if_pos rfl, if_pos rfl]
    exact hOr_sign h0 h1
  | false =>
    rw [if_neg (by decide), if_neg (by decide)]
    exact hOr_zero ⟨h0, by omega⟩
theorem s3_sign {n : Bool} {q : Int} (h0 : 0 ≤ q) (h1 : q < 2147483648) : U3 (s3 n q) ∧ sgn3 (s3 n q) = n ∧ mag3 (s3 n q) = q := by
  unfold s3 sgn3 mag3
  cases n with
  | true => rw [if_pos rfl]; exact ⟨⟨by omega, by omega⟩, decide_eq_true (by omega), by omega⟩
  | false => rw [if_neg (by decide)]; exact ⟨⟨by omega, by omega⟩, decide_eq_false (by omega), by omega⟩
theorem s3_own {q : Int} (hq : U3 q) : s3 (sgn3 q) (mag3 q) = q := by
  unfold s3 sgn3 mag3 U3 at *
  split <;> rename_i h <;> simp only [decide_eq_true_eq] at h <;> omega
/-- the sign of one of 32 bits, taken over -/
theorem sign_up {q : Int} (hq : U3 q) : U (q * 4294967296) ∧ sgn (q * 4294967296) = sgn3 q := by
  unfold sgn sgn3 U
  unfold U3 at hq
  exact ⟨⟨by omega, by omega⟩, decide_eq_decide.2 (by omega)⟩
/-- of all sizes that are too great, by any mode -/
theorem up_34 (m : Int) (n : Bool) : toQ m n 3 (-2) 0 = if upR m n true 3 = true then 1 else 0 := by
  have ho : ∀ o, upR m n o 3 = upR m n true 3 := fun o => by
    unfold upR
    cases o <;> simp
  unfold toQ rq
  rw [if_neg (by omega)]
  have e1 : (2 : Nat) ^ (0 - -2 : Int).toNat = 4 := rfl
  rw [e1]
  have e2 : restC (3 % 4) 4 = 3 := by decide
  rw [e2, show (3 / 4 : Nat) = 0 from rfl, ho]
  split <;> simp_all
/-! ### what To and From answer -/
def naP (m p : Int) : Int := if 3 < cl p then 2143289344 else if cl p = 3 then s3 (sgn p) 2139095040 else s3 (sgn p) (rnPN m (sgn p) (sg p).toNat (xp p))
def naF (m p : Int) : Int := if 3 < cl p then (if cl p = 5 then 1 else 0) else if cl p = 3 then 0 else rnFN m (sgn p) (sg p).toNat (xp p)
def nfP (q : Int) : Int := if 2139095040 < mag3 q then 9221120237041090560 else if mag3 q = 2139095040 then (if sgn3 q = true then 18442240474082181120 else 9218868437227405312) else (if sgn3 q = true then rnP 0 false (sg3 q).toNat (xp3 q) + 9223372036854775808 else rnP 0 false (sg3 q).toNat (xp3 q))
def nfF (q : Int) : Int := if 2139095040 < mag3 q ∧ mag3 q < 2143289344 then 1 else 0
theorem ex3_fin {q : Int} : ex3 q ≠ 255 ↔ mag3 q < 2139095040 := by
  have h1 := ex3_bd q
  have h2 := fr3_bd q
  have h3 := mag3_eq q
  omega
theorem parts3 (q : Int) : sg3 (mag3 q) = sg3 q ∧ xp3 (mag3 q) = xp3 q := by
  have e1 : ex3 (mag3 q) = ex3 q := by unfold ex3 mag3; omega
  have e2 : fr3 (mag3 q) = fr3 q := by unfold fr3 mag3; omega
  unfold sg3 xp3
  rw [e1, e2]
  exact ⟨rfl, rfl⟩
end Go.Rn
