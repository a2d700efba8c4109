/-
  PLAIN ARITHMETIC: the root of a square that needs no rounding; a root by Down and Up.
-/
import Derived.Test.YtmfgjfnhonohjaaG15
import Derived.Test.YtmfgjfnhonohjaaG14
namespace Go.Rn
open Go.Nt Go.Wd Go.Pt

/-- a product without flags, as a number: in units of 2^-2148 -/
theorem ml_exact {m : Int} {n : Bool} {T : Nat} {E : Int} {j : Nat} (hj : (j : Int) = 1074) (hT : T ≠ 0) (hE : -2148 ≤ E) (h : rnF m n T E = 0) : uV (rnP m n T E) * 2 ^ j = T * 2 ^ (E + 2148).toNat ∧ rnP m n T E < 9218868437227405312 := by
  obtain ⟨h1, h2, h3, h4⟩ := rn_num hT (.inl h)
  have hl := h4.1 h
  refine ⟨?_, by omega⟩
  rw [h3]
  have hge := lowE_ge T E
  generalize lowE T E = e at *
  unfold toL at hl
  unfold toQ
  by_cases he : e ≤ E
  · rw [if_pos he, Nat.mul_assoc, Nat.mul_assoc, ← Nat.pow_add, ← Nat.pow_add]
    congr 2
    omega
  · rw [if_neg he] at hl ⊢
    have hz : T % 2 ^ (e - E).toNat = 0 := by simpa using hl
    rw [rq_exact hz]
    have hd := Nat.div_add_mod T (2 ^ (e - E).toNat)
    rw [hz, Nat.add_zero] at hd
    have ee : 2 ^ (e + 1074).toNat * 2 ^ j = 2 ^ (e - E).toNat * 2 ^ (E + 2148).toNat := by
      rw [← Nat.pow_add, ← Nat.pow_add]
      congr 1
      omega
    rw [Nat.mul_assoc, ee, ← Nat.mul_assoc, Nat.mul_comm _ (2 ^ (e - E).toNat), hd]
/-- the root of a square -/
theorem rt_square {m a s : Int} {j : Nat} (hj : (j : Int) = 1074) (hf : ex a ≠ 2047) (hs : sg s ≠ 0) (h : uV s * 2 ^ j = prV a a * 2 ^ (prE a a + 2148).toNat) : rtP m s = mag a ∧ rtF m s = 0 := by
  have hA := sg_lt a
  have hS := sg_lt s
  have xa := xp_bd a
  have xs := xp_bd s
  have uU := rtU_bd s
  have ev : (xp s - rtU s) % 2 = 0 := by unfold rtU; omega
  unfold uV szF prV prE at h
  obtain ⟨S, eS⟩ : ∃ S, S = (sg s).toNat := ⟨_, rfl⟩
  obtain ⟨A, eA⟩ : ∃ A, A = (sg a).toNat := ⟨_, rfl⟩
  rw [← eS, ← eA] at h
  obtain ⟨x, ex⟩ : ∃ x : Nat, x = (xp s - -1074).toNat + j := ⟨_, rfl⟩
  obtain ⟨y, ey⟩ : ∃ y : Nat, y = (xp a + xp a + 2148).toNat := ⟨_, rfl⟩
  rw [Nat.mul_assoc, ← Nat.pow_add, ← ex, ← ey] at h
  have hA2 : A * A < 2 ^ 106 := by
    have := Nat.mul_le_mul (show A ≤ 9007199254740991 by omega) (show A ≤ 9007199254740991 by omega)
    exact Nat.lt_of_le_of_lt this (by decide)
  have hxy : x ≤ y + 105 := by
    rcases Nat.lt_or_ge (y + 105) x with hc | hc
    · exfalso
      have e1 : x = (x - y) + y := by omega
      rw [e1, Nat.pow_add, ← Nat.mul_assoc] at h
      have e2 := Nat.eq_of_mul_eq_mul_right (Nat.pow_pos (by omega)) h
      have h1 : 2 ^ 106 ≤ 2 ^ (x - y) := Nat.pow_le_pow_right (by omega) (by omega)
      have h2 : 2 ^ (x - y) ≤ S * 2 ^ (x - y) := Nat.le_mul_of_pos_left _ (by omega)
      omega
    · exact hc
  obtain ⟨k, hk⟩ : ∃ k : Nat, y + rtU s = x + (k + k) := ⟨(y + rtU s - x) / 2, by omega⟩
  have hX : rtX s = A * 2 ^ k * (A * 2 ^ k) := by
    unfold rtX
    rw [← eS]
    refine Nat.eq_of_mul_eq_mul_right (show 0 < 2 ^ x from Nat.pow_pos (by omega)) ?_
    rw [Nat.mul_mul_mul_comm, Nat.mul_right_comm, h, Nat.mul_assoc (A * A), ← Nat.pow_add, ← Nat.pow_add, Nat.mul_assoc (A * A), ← Nat.pow_add]
    congr 2
    omega
  have hlim : A * 2 ^ k * (A * 2 ^ k) < lim := by
    rw [← hX]
    exact Nat.lt_trans (Nat.lt_of_le_of_lt (Nat.le_mul_of_pos_right _ (by decide)) (rtX_lt s 0 (by omega))) (by decide)
  have hK : rtK (rtX s) = A * 2 ^ (k + 1) := by
    unfold rtK
    rw [hX, isq_sq hlim, if_pos rfl, Nat.pow_succ, Nat.add_zero, Nat.mul_comm 2, Nat.mul_assoc]
  have hE : rtE s = xp a - ((k + 1 : Nat) : Int) := by unfold rtE; omega
  obtain ⟨q1, q2⟩ := own_pat (m := m) (neg := false) hf
  unfold rtP rtF
  rw [hK, hE, rnP_scale, rnF_scale, eA, q1, q2]
  exact ⟨rfl, rfl⟩
theorem rtK_bd {a : Int} (h : sg a ≠ 0) : 66 ≤ bitLen (rtK (rtX a)) ∧ bitLen (rtK (rtX a)) ≤ 98 := by
  have h0 := sg_lt a
  have u := rtU_bd a
  have x1 : rtX a < 2 ^ 194 := Nat.lt_of_le_of_lt (Nat.le_mul_of_pos_right _ (by decide)) (rtX_lt a 0 (by omega))
  have x0 : 2 ^ 128 ≤ rtX a := by
    unfold rtX
    exact Nat.le_trans (Nat.pow_le_pow_right (by omega) u.1) (Nat.le_mul_of_pos_left _ (by omega))
  obtain ⟨s1, s2⟩ := isq_spec (n := rtX a) (Nat.lt_trans x1 (by decide))
  have r0 : 2 ^ 64 ≤ isq (rtX a) := by
    rcases Nat.lt_or_ge (isq (rtX a)) (2 ^ 64) with hc | hc
    · have := Nat.mul_le_mul hc hc
      rw [← Nat.pow_add] at this
      have h1 := Nat.lt_of_lt_of_le s2 this
      omega
    · exact hc
  have r1 : isq (rtX a) < 2 ^ 97 := by
    rcases Nat.lt_or_ge (isq (rtX a)) (2 ^ 97) with hc | hc
    · exact hc
    · have := Nat.mul_le_mul hc hc
      rw [← Nat.pow_add] at this
      have h1 := Nat.le_trans this s1
      omega
  refine ⟨le_len (k := 65) ?_, len_le (k := 98) ?_⟩
  · unfold rtK
    split <;> omega
  · unfold rtK
    split <;> omega
/-- a root by Down and Up -/
theorem rt_sides {a : Int} (h : sg a ≠ 0) : (rtP 3 a = rtP 4 a ∧ rtF 3 a = 0 ∧ rtF 4 a = 0) ∨ (rtP 3 a = rtP 4 a + 1 ∧ rtF 3 a = 16 ∧ rtF 4 a = 16) := by
  obtain ⟨b1, b2⟩ := rtK_bd h
  have u := rtU_bd a
  have xa := xp_bd a
  have hE : -605 ≤ rtE a ∧ rtE a ≤ 425 := by unfold rtE; omega
  have hT : rtK (rtX a) ≠ 0 := fun h0 => by rw [h0] at b1; simp [bitLen] at b1
  have hlg : -540 ≤ lgN (rtK (rtX a)) (rtE a) ∧ lgN (rtK (rtX a)) (rtE a) ≤ 522 := by unfold lgN; omega
  have hlo : lowE (rtK (rtX a)) (rtE a) ≤ 470 := by unfold lowE; split <;> omega
  have hF : ∀ m, rnF m false (rtK (rtX a)) (rtE a) = 0 ∨ rnF m false (rtK (rtX a)) (rtE a) = 16 := by
    intro m
    have hq := low_hi m false (rtK (rtX a)) (rtE a)
    have hp : p0 m false (rtK (rtX a)) (rtE a) < 9218868437227405312 := by unfold p0; omega
    have ht : tiny m false (rtK (rtX a)) (rtE a) = false := by
      unfold tiny
      rw [if_neg (by omega)]
      exact decide_eq_false (by omega)
    unfold rnF
    rw [if_neg hT, if_neg (by omega), ht]
    split
    · exact .inr rfl
    · exact .inl rfl
  unfold rtP rtF
  cases hi : inex (rtK (rtX a)) (rtE a) with
  | false =>
    left
    obtain ⟨p3, f3⟩ := exact_of (m := 3) (neg := false) hi
    obtain ⟨p4, f4⟩ := exact_of (m := 4) (neg := false) hi
    exact ⟨by rw [p3, p4], f3, f4⟩
  | true =>
    right
    obtain ⟨p3, p4⟩ := inex_side (neg := false) hi
    have f3 := inex_F (m := 3) (neg := false) hi
    have f4 := inex_F (m := 4) (neg := false) hi
    have g3 := hF 3
    have g4 := hF 4
    refine ⟨?_, by omega, by omega⟩
    rw [p3, p4]
    simp
end Go.Rn

/-
  PLAIN ARITHMETIC: rests of patterns' numbers, and patterns' numbers rounded to whole ones.
-/
namespace Go.Rn
open Go.Nt Go.Wd Go.Pt

/-! ### patterns and their numbers, in one order -/
theorem mag_self {p : Int} (h0 : 0 ≤ p) (h1 : p < 9223372036854775808) : mag p = p := by unfold mag; omega
theorem fin_small {p : Int} (h0 : 0 ≤ p) (h1 : p < 9218868437227405312) : ex p ≠ 2047 := by unfold ex; omega
theorem uV_lt {p q : Int} (hp : 0 ≤ p) (hpq : p < q) (hq : q < 9218868437227405312) : uV p < uV q := by
  rcases Nat.lt_or_ge (uV p) (uV q) with h | h
  · exact h
  · exfalso
    obtain ⟨a1, _⟩ := own_uV (m := 0) (n := false) (fin_small (p := p) hp (by omega))
    obtain ⟨b1, _⟩ := own_uV (m := 0) (n := false) (fin_small (p := q) (by omega) hq)
    have := rnP_mono (m := 0) (neg := false) (E := -1074) h
    rw [a1, b1, mag_self hp (by omega), mag_self (by omega) (by omega)] at this
    omega
theorem uV_le {p q : Int} (hq0 : 0 ≤ q) (hp : p < 9218868437227405312) (h : uV p ≤ uV q) : p ≤ q := by
  rcases Int.lt_or_le q p with hc | hc
  · have := uV_lt hq0 hc hp; omega
  · exact hc
theorem mag_lt2 (p : Int) : 0 ≤ mag p ∧ mag p < 9223372036854775808 := by unfold mag; omega
theorem uV_mag (p : Int) : uV (mag p) = uV p := by
  have e : ex (mag p) = ex p ∧ fr (mag p) = fr p := by unfold ex fr mag; omega
  unfold uV xp sg
  rw [e.1, e.2]
/-- twice a pattern's number, where it is a finite one -/
def tw2 (p : Int) : Int := if p / 4503599627370496 % 2048 = 0 then 2 * p else p + 4503599627370496
theorem tw2_num {p : Int} (h0 : 0 ≤ p) (h1 : p < 9214364837600034816) : uV (tw2 p) = 2 * uV p ∧ 0 ≤ tw2 p ∧ tw2 p < 9218868437227405312 := by
  have key : ∀ (q : Int) (S : Nat) (x : Int), (sg q).toNat = S → xp q = x → uV q = S * 2 ^ (x - -1074).toNat := fun q S x e1 e2 => by unfold uV szF; rw [e1, e2]
  by_cases hz : p / 4503599627370496 % 2048 = 0
  · have e : tw2 p = 2 * p := by unfold tw2; rw [if_pos hz]
    have hp : p < 4503599627370496 := by omega
    have ep : ex p = 0 := hz
    have fp : fr p = p := by unfold fr; omega
    have u1 := key p p.toNat (-1074) (by unfold sg; rw [if_pos ep, fp]) (by unfold xp; rw [if_pos ep])
    rw [e]
    refine ⟨?_, by omega, by omega⟩
    by_cases hs : 2 * p < 4503599627370496
    · have e2 : ex (2 * p) = 0 := by unfold ex; omega
      have f2 : fr (2 * p) = 2 * p := by unfold fr; omega
      have u2 := key (2 * p) (2 * p).toNat (-1074) (by unfold sg; rw [if_pos e2, f2]) (by unfold xp; rw [if_pos e2])
      rw [u1, u2]
      simp
      omega
    · have e2 : ex (2 * p) = 1 := by unfold ex; omega
      have f2 : fr (2 * p) = 2 * p - 4503599627370496 := by unfold fr; omega
      have u2 := key (2 * p) (2 * p).toNat (-1074) (by unfold sg; rw [e2, if_neg (by omega), if_neg (by omega), f2]; congr 1; omega) (by unfold xp; rw [e2, if_neg (by omega), if_neg (by omega)]; omega)
      rw [u1, u2]
      simp
      omega
  · have e : tw2 p = p + 4503599627370496 := by unfold tw2; rw [if_neg hz]
    have ep : ex p = p / 4503599627370496 % 2048 := rfl
    have hx : 1 ≤ ex p ∧ ex p ≤ 2045 := by unfold ex; omega
    have e2 : ex (p + 4503599627370496) = ex p + 1 := by unfold ex; omega
    have f2 : fr (p + 4503599627370496) = fr p := by unfold fr; omega
    have u1 := key p (fr p + 4503599627370496).toNat (ex p - 1075) (by unfold sg; rw [if_neg (by omega), if_neg (by omega)]) (by unfold xp; rw [if_neg (by omega), if_neg (by omega)])
    have u2 := key (p + 4503599627370496) (fr p + 4503599627370496).toNat (ex p - 1074) (by unfold sg; rw [e2, if_neg (by omega), if_neg (by omega), f2]) (by unfold xp; rw [e2, if_neg (by omega), if_neg (by omega)]; omega)
    rw [e]
    refine ⟨?_, by omega, by omega⟩
    rw [u1, u2, show (ex p - 1074 - -1074).toNat = (ex p - 1075 - -1074).toNat + 1 by omega, Nat.pow_succ, ← Nat.mul_assoc]
    omega
/-- few bits, at a unit that patterns have: nothing is rounded -/
theorem few_exact {D : Nat} {E : Int} (hE : -1074 ≤ E) (hD : D < 9007199254740992) {b : Int} (hb : ex b ≠ 2047) (hle : D * 2 ^ (E + 1074).toNat ≤ uV b) (m : Int) (n : Bool) :
    rnF m n D E = 0 ∧ rnP m n D E = rnP 0 false (D * 2 ^ (E + 1074).toNat) (-1074) ∧ 0 ≤ rnP m n D E ∧ rnP m n D E ≤ mag b ∧ uV (rnP m n D E) = D * 2 ^ (E + 1074).toNat := by
  have sp := rnP_scale m n D (E + 1074).toNat E
  have sf := rnF_scale m n D (E + 1074).toNat E
  rw [show E - ((E + 1074).toNat : Int) = -1074 by omega] at sp sf
  obtain ⟨N, hN⟩ : ∃ N, N = D * 2 ^ (E + 1074).toNat := ⟨_, rfl⟩
  rw [← hN] at sp sf hle ⊢
  have ob := own_uV (m := 0) (n := false) hb
  have mb := mag_lt2 b
  by_cases hz : D = 0
  · have hN0 : N = 0 := by rw [hN, hz, Nat.zero_mul]
    have p0' : rnP m n D E = 0 := by unfold rnP; rw [if_pos hz]
    have f0' : rnF m n D E = 0 := by unfold rnF; rw [if_pos hz]
    have q0 : rnP 0 false N (-1074) = 0 := by unfold rnP; rw [if_pos hN0]
    rw [p0', f0', q0, hN0]
    exact ⟨rfl, rfl, by omega, by omega, by decide⟩
  · have hU : uV b ≠ 0 := by
      have : 0 < 2 ^ (E + 1074).toNat := Nat.pow_pos (by omega)
      have : 0 < N := by rw [hN]; exact Nat.mul_pos (by omega) this
      omega
    have hpb : p0 0 false (uV b) (-1074) < 9218868437227405312 := (rn_num hU (.inl ob.2)).1
    have hF : ∀ m n, rnF m n D E = 0 := fun m n => by
      have hD2 : D ≤ N := by rw [hN]; exact Nat.le_mul_of_pos_right _ (Nat.pow_pos (by omega))
      have hk : p0 0 false (D) E < 9218868437227405312 := by
        have e := p0_scale (T := D) hz 0 false (E + 1074).toNat E
        rw [show E - ((E + 1074).toNat : Int) = -1074 by omega, ← hN] at e
        rw [← e]
        have := p0_mono (m := 0) (neg := false) (E := -1074) (T := N) (U := uV b) (by rw [hN]; exact Nat.mul_ne_zero hz (Nat.ne_of_gt (Nat.pow_pos (by omega)))) hle
        omega
      exact few_bits (k := 0) (s := false) (A := D) hE hD (Nat.le_refl _) hk
    have f1 := hF m n
    have f2 : rnF m n N (-1074) = 0 := by rw [sf]; exact f1
    have f3 : rnF 0 false N (-1074) = 0 := by
      have := rnF_scale 0 false D (E + 1074).toNat E
      rw [show E - ((E + 1074).toNat : Int) = -1074 by omega, ← hN] at this
      rw [this]
      exact hF 0 false
    obtain ⟨b1, b2⟩ := back_uV f2
    obtain ⟨c1, c2⟩ := back_uV f3
    have n0 := (rnP_bd m n N (-1074)).1
    have n1 := (rnP_bd 0 false N (-1074)).1
    have same : rnP m n N (-1074) = rnP 0 false N (-1074) := by
      have h1 := uV_le n1 b1 (Nat.le_of_eq (b2.trans c2.symm))
      have h2 := uV_le n0 c1 (Nat.le_of_eq (c2.trans b2.symm))
      omega
    have mono := rnP_mono (m := 0) (neg := false) (E := -1074) hle
    rw [ob.1] at mono
    rw [← sp]
    exact ⟨f1, same, n0, by rw [same]; exact mono, b2⟩
/-! ### rests -/
/-- the lesser unit; both sizes in it -/
def wlE (a b : Int) : Int := if xp a ≤ xp b then xp a else xp b
def wlU (a b : Int) : Nat := (sg a).toNat * 2 ^ (xp a - wlE a b).toNat
def wlV (a b : Int) : Nat := (sg b).toNat * 2 ^ (xp b - wlE a b).toNat
/-- the rest of the quotient that is cut; whether the nearest quotient is the next one; its rest -/
def rsM (a b : Int) : Nat := wlU a b % wlV a b
def rsB (a b : Int) : Bool := decide (wlV a b < 2 * rsM a b ∨ (2 * rsM a b = wlV a b ∧ wlU a b / wlV a b % 2 = 1))
def rsR (a b : Int) : Nat := if rsB a b = true then wlV a b - rsM a b else rsM a b
theorem wlE_bd (a b : Int) : -1074 ≤ wlE a b ∧ wlE a b ≤ 972 ∧ wlE a b ≤ xp a ∧ wlE a b ≤ xp b ∧ (wlE a b = xp a ∨ wlE a b = xp b) := by
  have h1 := xp_bd a
  have h2 := xp_bd b
  unfold wlE
  split <;> omega
theorem wl_num (a b : Int) : wlU a b * 2 ^ (wlE a b + 1074).toNat = uV a ∧ wlV a b * 2 ^ (wlE a b + 1074).toNat = uV b := by
  obtain ⟨h0, _, h1, h2, _⟩ := wlE_bd a b
  unfold wlU wlV uV szF
  rw [Nat.mul_assoc, Nat.mul_assoc, ← Nat.pow_add, ← Nat.pow_add]
  exact ⟨by congr 2; omega, by congr 2; omega⟩
theorem wlV_pos {a b : Int} (hb : sg b ≠ 0) : 0 < wlV a b := by
  have := sg_lt b
  unfold wlV
  exact Nat.mul_pos (by omega) (Nat.pow_pos (by omega))
theorem rs_bd {a b : Int} (hb : sg b ≠ 0) : rsM a b < wlV a b ∧ rsM a b < 9007199254740992 ∧ rsR a b < 9007199254740992 ∧ 2 * rsR a b ≤ wlV a b := by
  have sa := sg_lt a
  have sb := sg_lt b
  have pv := wlV_pos (a := a) hb
  have h1 : rsM a b < wlV a b := Nat.mod_lt _ pv
  have hU : rsM a b ≤ wlU a b := Nat.mod_le _ _
  have hR : rsR a b ≤ rsM a b ∧ 2 * rsR a b ≤ wlV a b := by
    unfold rsR
    by_cases hB : rsB a b = true
    · rw [if_pos hB]
      have := of_decide_eq_true hB
      omega
    · rw [if_neg hB]
      have : ¬ (wlV a b < 2 * rsM a b ∨ (2 * rsM a b = wlV a b ∧ wlU a b / wlV a b % 2 = 1)) := fun h => hB (decide_eq_true h)
      omega
  have small : rsM a b < 9007199254740992 := by
    obtain ⟨_, _, _, _, h5⟩ := wlE_bd a b
    rcases h5 with h5 | h5
    · have : wlU a b = (sg a).toNat := by unfold wlU; rw [h5, Int.sub_self]; simp
      omega
    · have : wlV a b = (sg b).toNat := by unfold wlV; rw [h5, Int.sub_self]; simp
      omega
  exact ⟨h1, small, by omega, hR.2⟩
/-- the rests' patterns -/
def mdP (a b : Int) : Int := rnP 0 (sgn a) (rsM a b) (wlE a b)
def rmP (a b : Int) : Int := rnP 0 (sgn a != rsB a b) (rsR a b) (wlE a b)
theorem md_num {a b : Int} (hb : sg b ≠ 0) (hf : ex b ≠ 2047) (m : Int) (n : Bool) : rnF m n (rsM a b) (wlE a b) = 0 ∧ rnP m n (rsM a b) (wlE a b) = mdP a b ∧ 0 ≤ mdP a b ∧ mdP a b < mag b ∧ uV (mdP a b) = rsM a b * 2 ^ (wlE a b + 1074).toNat := by
  obtain ⟨h1, h2, _, _⟩ := rs_bd (a := a) hb
  obtain ⟨w1, w2⟩ := wl_num a b
  have hp : 0 < 2 ^ (wlE a b + 1074).toNat := Nat.pow_pos (by omega)
  have hlt : rsM a b * 2 ^ (wlE a b + 1074).toNat < uV b := by rw [← w2]; exact Nat.mul_lt_mul_of_pos_right h1 hp
  have k := few_exact (wlE_bd a b).1 h2 hf (Nat.le_of_lt hlt)
  obtain ⟨a1, a2, a3, a4, a5⟩ := k m n
  obtain ⟨b1, b2, b3, b4, b5⟩ := k 0 (sgn a)
  refine ⟨a1, a2.trans b2.symm, b3, ?_, b5⟩
  rcases Int.lt_or_le (rnP 0 (sgn a) (rsM a b) (wlE a b)) (mag b) with hc | hc
  · exact hc
  · exfalso
    have e : rnP 0 (sgn a) (rsM a b) (wlE a b) = mag b := by omega
    rw [e, uV_mag] at b5
    omega
theorem rm_num {a b : Int} (hb : sg b ≠ 0) (hf : ex b ≠ 2047) (m : Int) (n : Bool) : rnF m n (rsR a b) (wlE a b) = 0 ∧ rnP m n (rsR a b) (wlE a b) = rmP a b ∧ 0 ≤ rmP a b ∧ rmP a b < mag b ∧ 2 * uV (rmP a b) ≤ uV b := by
  obtain ⟨_, _, h3, h4⟩ := rs_bd (a := a) hb
  obtain ⟨w1, w2⟩ := wl_num a b
  have pv := wlV_pos (a := a) hb
  have hp : 0 < 2 ^ (wlE a b + 1074).toNat := Nat.pow_pos (by omega)
  have h2 : 2 * (rsR a b * 2 ^ (wlE a b + 1074).toNat) ≤ uV b := by rw [← w2, ← Nat.mul_assoc]; exact Nat.mul_le_mul_right _ h4
  have hlt : rsR a b * 2 ^ (wlE a b + 1074).toNat < uV b := by
    have : 0 < uV b := by rw [← w2]; exact Nat.mul_pos pv hp
    omega
  have k := few_exact (wlE_bd a b).1 h3 hf (Nat.le_of_lt hlt)
  obtain ⟨a1, a2, a3, a4, a5⟩ := k m n
  obtain ⟨b1, b2, b3, b4, b5⟩ := k 0 (sgn a != rsB a b)
  refine ⟨a1, a2.trans b2.symm, b3, ?_, by unfold rmP; rw [b5]; exact h2⟩
  rcases Int.lt_or_le (rnP 0 (sgn a != rsB a b) (rsR a b) (wlE a b)) (mag b) with hc | hc
  · exact hc
  · exfalso
    have e : rnP 0 (sgn a != rsB a b) (rsR a b) (wlE a b) = mag b := by omega
    rw [e, uV_mag] at b5
    omega
/-- twice the rest of the nearest quotient is not above what was divided by -/
theorem rm_twice {a b : Int} (hb : sg b ≠ 0) (hf : ex b ≠ 2047) : tw2 (rmP a b) ≤ mag b := by
  obtain ⟨_, _, r0, r1, r2⟩ := rm_num (a := a) hb hf 0 false
  have sb := sg_lt b
  have mb := mag_lt2 b
  have fb : mag b < 9218868437227405312 := by
    have : mag b = 4503599627370496 * ex b + fr b := by unfold mag ex fr; omega
    have h1 : 0 ≤ ex b ∧ ex b < 2048 := by unfold ex; omega
    have h2 : 0 ≤ fr b ∧ fr b < 4503599627370496 := by unfold fr; omega
    omega
  have hc : rmP a b < 9214364837600034816 := by
    rcases Int.lt_or_le (rmP a b) 9214364837600034816 with h | h
    · exact h
    · exfalso
      have hx : xp b ≤ 971 := by
        have hx2 : 0 ≤ ex b ∧ ex b < 2048 := by unfold ex; omega
        unfold xp
        rw [if_neg hf]
        split <;> omega
      obtain ⟨j, hj⟩ : ∃ j : Nat, (j : Int) = 2045 := ⟨2045, rfl⟩
      have uc : uV 9214364837600034816 = 4503599627370496 * 2 ^ j := by
        have e1 : xp 9214364837600034816 = 971 := by decide
        have e2 : (sg 9214364837600034816).toNat = 4503599627370496 := by decide
        unfold uV szF
        rw [e1, e2]
        congr 2
        omega
      have ub : uV b < 9007199254740992 * 2 ^ j := by
        unfold uV szF
        have h1 : 2 ^ (xp b - -1074).toNat ≤ 2 ^ j := Nat.pow_le_pow_right (by omega) (by omega)
        have h2 : (sg b).toNat * 2 ^ (xp b - -1074).toNat ≤ (sg b).toNat * 2 ^ j := Nat.mul_le_mul_left _ h1
        have h3 : (sg b).toNat * 2 ^ j < 9007199254740992 * 2 ^ j := Nat.mul_lt_mul_of_pos_right (by omega) (Nat.pow_pos (by omega))
        omega
      have : uV 9214364837600034816 ≤ uV (rmP a b) := by
        rcases Int.lt_or_eq_of_le h with h' | h'
        · exact Nat.le_of_lt (uV_lt (by omega) h' (by omega))
        · rw [h']; exact Nat.le_refl _
      omega
  obtain ⟨t1, t2, t3⟩ := tw2_num r0 hc
  refine uV_le mb.1 t3 ?_
  rw [t1, uV_mag]
  exact r2
/-! ### rounded to a whole number -/
def whQ (m a : Int) : Nat := toQ m (sgn a) (sg a).toNat (xp a) 0
def whP (m a : Int) : Int := if 0 ≤ xp a then mag a else rnP 0 (sgn a) (whQ m a) 0
def whL (a : Int) : Bool := toL (sg a).toNat (xp a) 0
/-- what is cut towards 0 -/
def whC (a : Int) : Nat := (sg a).toNat / 2 ^ (0 - xp a).toNat
theorem whQ_eq {m a : Int} (h : xp a < 0) : whQ m a = whC a + (if gup m (sgn a) (sg a).toNat (xp a) 0 = true then 1 else 0) := by
  have hx : ¬ (0 ≤ xp a) := by omega
  unfold whQ toQ gup whC rq
  rw [if_neg hx, if_neg hx]
theorem wh_sides {a : Int} (h : xp a < 0) : (whL a = false ∧ (∀ m, whQ m a = whC a) ∧ (sg a).toNat = whC a * 2 ^ (0 - xp a).toNat) ∨
    (whL a = true ∧ (∀ m, whQ m a = whC a ∨ whQ m a = whC a + 1) ∧ whQ 3 a = whC a + (if sgn a = true then 0 else 1) ∧ whQ 4 a = whC a + (if sgn a = true then 1 else 0) ∧ whC a * 2 ^ (0 - xp a).toNat < (sg a).toNat ∧ (sg a).toNat < (whC a + 1) * 2 ^ (0 - xp a).toNat) := by
  have dm := Nat.div_add_mod (sg a).toNat (2 ^ (0 - xp a).toNat)
  have hp : 0 < 2 ^ (0 - xp a).toNat := Nat.pow_pos (by omega)
  have ml := Nat.mod_lt (sg a).toNat hp
  have eL : whL a = decide ((sg a).toNat % 2 ^ (0 - xp a).toNat ≠ 0) := by unfold whL toL; rw [if_neg (by omega)]
  have hc : 2 ^ (0 - xp a).toNat * ((sg a).toNat / 2 ^ (0 - xp a).toNat) = whC a * 2 ^ (0 - xp a).toNat := Nat.mul_comm _ _
  rw [hc] at dm
  cases hl : whL a with
  | false =>
    left
    rw [eL] at hl
    have hz : (sg a).toNat % 2 ^ (0 - xp a).toNat = 0 := by simpa using hl
    refine ⟨rfl, fun m => ?_, by omega⟩
    rw [whQ_eq h, gup_lost (by unfold toL; rw [if_neg (by omega)]; exact hl)]
    simp
  | true =>
    right
    have hl' : toL (sg a).toNat (xp a) 0 = true := hl
    obtain ⟨g3, g4, _⟩ := gup_side (neg := sgn a) hl'
    rw [eL] at hl
    have hz : (sg a).toNat % 2 ^ (0 - xp a).toNat ≠ 0 := of_decide_eq_true hl
    refine ⟨rfl, fun m => ?_, ?_, ?_, by omega, ?_⟩
    · rw [whQ_eq h]
      split
      · exact .inr rfl
      · exact .inl rfl
    · rw [whQ_eq h, g3]; cases sgn a <;> rfl
    · rw [whQ_eq h, g4]
    · rw [Nat.add_mul, Nat.one_mul]; omega
theorem whQ_bd {m a : Int} (h : xp a < 0) : whQ m a ≤ 4503599627370496 := by
  have s := sg_lt a
  have hc : whC a ≤ 4503599627370495 := by
    unfold whC
    have e : 2 ^ (0 - xp a).toNat = 2 * 2 ^ ((0 - xp a).toNat - 1) := by rw [← Nat.pow_succ']; congr 1; omega
    rw [e, ← Nat.div_div_eq_div_mul]
    have := Nat.div_le_self ((sg a).toNat / 2) (2 ^ ((0 - xp a).toNat - 1))
    omega
  rw [whQ_eq h]
  split <;> omega
/-- a whole number as a pattern -/
theorem int_num {D j : Nat} (hj : (j : Int) = 1074) (hD : D ≤ 4503599627370496) (m : Int) (n : Bool) : rnF m n D 0 = 0 ∧ rnP m n D 0 = rnP 0 false D 0 ∧ 0 ≤ rnP m n D 0 ∧ rnP m n D 0 ≤ 4845873199050653696 ∧ uV (rnP m n D 0) = D * 2 ^ j := by
  have e1 : xp 4845873199050653696 = 1 := by decide
  have e2 : (sg 4845873199050653696).toNat = 4503599627370496 := by decide
  have ej : ((0 : Int) + 1074).toNat = j := by omega
  have ub : uV 4845873199050653696 = 4503599627370496 * 2 ^ (j + 1) := by
    unfold uV szF
    rw [e1, e2]
    congr 2
    omega
  have hle : D * 2 ^ ((0 : Int) + 1074).toNat ≤ uV 4845873199050653696 := by
    rw [ej, ub, Nat.pow_succ]
    exact Nat.mul_le_mul hD (Nat.le_mul_of_pos_right _ (by omega))
  have k := few_exact (D := D) (E := 0) (by omega) (by omega) (b := 4845873199050653696) (by decide) hle
  obtain ⟨a1, a2, a3, a4, a5⟩ := k m n
  obtain ⟨_, b2, _, _, _⟩ := k 0 false
  rw [ej] at a5
  exact ⟨a1, a2.trans b2.symm, a3, a4, a5⟩
theorem wh_num {m a : Int} {j : Nat} (hj : (j : Int) = 1074) (h : xp a < 0) : uV (whP m a) = whQ m a * 2 ^ j ∧ 0 ≤ whP m a ∧ whP m a ≤ 4845873199050653696 := by
  obtain ⟨_, _, h3, h4, h5⟩ := int_num hj (whQ_bd (m := m) h) 0 (sgn a)
  unfold whP
  rw [if_neg (by omega)]
  exact ⟨h5, h3, h4⟩
/-- a whole number stays -/
theorem wh_stays {m p : Int} {j W : Nat} (hj : (j : Int) = 1074) (hf : ex p ≠ 2047) (hW : uV p = W * 2 ^ j) : whP m p = mag p ∧ (xp p < 0 → whL p = false) := by
  have xb := xp_bd p
  unfold whP
  by_cases h : 0 ≤ xp p
  · rw [if_pos h]
    exact ⟨rfl, fun h' => by omega⟩
  · rw [if_neg h]
    obtain ⟨k, hk⟩ : ∃ k : Nat, k = (0 - xp p).toNat := ⟨_, rfl⟩
    have hs : (sg p).toNat = W * 2 ^ k := by
      unfold uV szF at hW
      have e : 2 ^ j = 2 ^ k * 2 ^ (xp p - -1074).toNat := by rw [← Nat.pow_add]; congr 1; omega
      rw [e, ← Nat.mul_assoc] at hW
      exact Nat.eq_of_mul_eq_mul_right (Nat.pow_pos (by omega)) hW
    have hz : (sg p).toNat % 2 ^ k = 0 := by rw [hs]; exact Nat.mul_mod_left _ _
    have hL : whL p = false := by
      unfold whL toL
      rw [if_neg (by omega), ← hk, hz]
      rfl
    refine ⟨?_, fun _ => hL⟩
    have hq : whQ m p = W := by
      rcases wh_sides (a := p) (by omega) with ⟨_, h2, h3⟩ | ⟨h1, _⟩
      · rw [h2]
        rw [← hk, hs] at h3
        exact (Nat.eq_of_mul_eq_mul_right (Nat.pow_pos (by omega)) h3).symm
      · rw [hL] at h1; cases h1
    rw [hq]
    obtain ⟨o1, _⟩ := own_pat (m := 0) (neg := sgn p) hf
    rw [hs] at o1
    have sp := rnP_scale 0 (sgn p) W k 0
    rw [show (0 : Int) - (k : Int) = xp p by omega] at sp
    rw [← sp]
    exact o1
end Go.Rn

/-
  whole.Round, as a call in every world.
-/
namespace Go.Proofs.Ytmfgjfnhonohjaa
open Go.KRun Go.Wd Go.Pt Go.Rn
set_option maxRecDepth 100000

/-- what is known of calls, for whole.Round alone -/
def conWO : Con := alt 65 gWh conG0
theorem conWO_ok : ConOk conWO := alt_ok Try.func65 rfl gWh_ok conG0_ok
theorem of_nat (x : W4) (hx : x.ok) {X : Nat} (h : x.val = (X : Int)) : x = ofN X := by
  unfold ofN
  rw [← h, W4.of_val hx]
theorem wo_n1t (a m : Int) : Fits (reckon (tabOf Try.prog extY conWO true) 300 38 [.int .u64 a, .int .i64 m, .bool true] [cmp true, cmp true, cmp true]) (rdT 9221120237041090560 1) [(cl a == 5, true), lU a, (decide ((0 : Int) < ((1 : Nat) : Int)), true), (decide (cl a > 3), true), lU a] := ⟨by kernel_rfl, by kernel_rfl, by kernel_rfl, by kernel_rfl⟩
theorem wo_n0t (a m : Int) : Fits (reckon (tabOf Try.prog extY conWO true) 300 38 [.int .u64 a, .int .i64 m, .bool true] [cmp true, cmp true, cmp false, cmp false]) (rdT 9221120237041090560 0) [(decide (IntKind.i64.wrap (0 + 1) < ((1 : Nat) : Int)), false), (cl a == 5, false), lU a, (decide ((0 : Int) < ((1 : Nat) : Int)), true), (decide (cl a > 3), true), lU a] := ⟨by kernel_rfl, by kernel_rfl, by kernel_rfl, by kernel_rfl⟩
theorem wo_et (a m : Int) : Fits (reckon (tabOf Try.prog extY conWO true) 300 38 [.int .u64 a, .int .i64 m, .bool true] [cmp false, cmp true]) (rdT a 0) [(cl a == 3, true), lU a, (decide (cl a > 3), false), lU a] := ⟨by kernel_rfl, by kernel_rfl, by kernel_rfl, by kernel_rfl⟩
theorem wo_wt (a m : Int) : Fits (reckon (tabOf Try.prog extY conWO true) 300 38 [.int .u64 a, .int .i64 m, .bool true] [cmp false, cmp false, cmp true, cmp true]) (rdV 0 (sgn a) (tw (wSg a) false) (clp (xp a) - 1)) [(decide (wSg a).ok, true), (early (xp a) false, true), lU a, (decide (cl a ≤ 2), true), lU a, (cl a == 3, false), lU a, (decide (cl a > 3), false), lU a] := ⟨by kernel_rfl, by kernel_rfl, by kernel_rfl, by kernel_rfl⟩
theorem wo_ftt (a m : Int) : Fits (reckon (tabOf Try.prog extY conWO true) 300 38 [.int .u64 a, .int .i64 m, .bool true] [cmp false, cmp false, cmp true, cmp false, cmp true, cmp true]) (rdT (sS (sgn a) (rnP 0 (sgn a) (tw (ofN (whQ m (sgn a) (wSg a) false (xp a))) false) (clp 0 - 1))) (IntKind.u8.wrap ((BitVec.ofInt 8 (rnF 0 (sgn a) (tw (ofN (whQ m (sgn a) (wSg a) false (xp a))) false) (clp 0 - 1)) ||| BitVec.ofInt 8 16).toNat : Nat))) [(decide (ofN (whQ m (sgn a) (wSg a) false (xp a))).ok, true), (whL (wSg a) false (xp a), true), (decide (whQ m (sgn a) (wSg a) false (xp a) < 2 ^ 256), true), (early (xp a) false, false), (decide (wSg a).ok, true), lU a, (decide (cl a ≤ 2), true), lU a, (cl a == 3, false), lU a, (decide (cl a > 3), false), lU a] := ⟨by kernel_rfl, by kernel_rfl, by kernel_rfl, by kernel_rfl⟩
theorem wo_ftf (a m : Int) : Fits (reckon (tabOf Try.prog extY conWO true) 300 38 [.int .u64 a, .int .i64 m, .bool true] [cmp false, cmp false, cmp true, cmp false, cmp true, cmp false]) (rdV 0 (sgn a) (tw (ofN (whQ m (sgn a) (wSg a) false (xp a))) false) (clp 0 - 1)) [(decide (ofN (whQ m (sgn a) (wSg a) false (xp a))).ok, true), (whL (wSg a) false (xp a), false), (decide (whQ m (sgn a) (wSg a) false (xp a) < 2 ^ 256), true), (early (xp a) false, false), (decide (wSg a).ok, true), lU a, (decide (cl a ≤ 2), true), lU a, (cl a == 3, false), lU a, (decide (cl a > 3), false), lU a] := ⟨by kernel_rfl, by kernel_rfl, by kernel_rfl, by kernel_rfl⟩
theorem wo_n1f (a m : Int) : Fits (reckon (tabOf Try.prog extY conWO true) 300 38 [.int .u64 a, .int .i64 m, .bool false] [cmp true, cmp true, cmp true]) (rdT 9221120237041090560 1) [(cl a == 5, true), lU a, (decide ((0 : Int) < ((1 : Nat) : Int)), true), (decide (cl a > 3), true), lU a] := ⟨by kernel_rfl, by kernel_rfl, by kernel_rfl, by kernel_rfl⟩
theorem wo_n0f (a m : Int) : Fits (reckon (tabOf Try.prog extY conWO true) 300 38 [.int .u64 a, .int .i64 m, .bool false] [cmp true, cmp true, cmp false, cmp false]) (rdT 9221120237041090560 0) [(decide (IntKind.i64.wrap (0 + 1) < ((1 : Nat) : Int)), false), (cl a == 5, false), lU a, (decide ((0 : Int) < ((1 : Nat) : Int)), true), (decide (cl a > 3), true), lU a] := ⟨by kernel_rfl, by kernel_rfl, by kernel_rfl, by kernel_rfl⟩
theorem wo_ef (a m : Int) : Fits (reckon (tabOf Try.prog extY conWO true) 300 38 [.int .u64 a, .int .i64 m, .bool false] [cmp false, cmp true]) (rdT a 0) [(cl a == 3, true), lU a, (decide (cl a > 3), false), lU a] := ⟨by kernel_rfl, by kernel_rfl, by kernel_rfl, by kernel_rfl⟩
theorem wo_wf (a m : Int) : Fits (reckon (tabOf Try.prog extY conWO true) 300 38 [.int .u64 a, .int .i64 m, .bool false] [cmp false, cmp false, cmp true, cmp true]) (rdV 0 (sgn a) (tw (wSg a) false) (clp (xp a) - 1)) [(decide (wSg a).ok, true), (early (xp a) false, true), lU a, (decide (cl a ≤ 2), true), lU a, (cl a == 3, false), lU a, (decide (cl a > 3), false), lU a] := ⟨by kernel_rfl, by kernel_rfl, by kernel_rfl, by kernel_rfl⟩
theorem wo_fft (a m : Int) : Fits (reckon (tabOf Try.prog extY conWO true) 300 38 [.int .u64 a, .int .i64 m, .bool false] [cmp false, cmp false, cmp true, cmp false, cmp true, cmp true]) (rdV 0 (sgn a) (tw (ofN (whQ m (sgn a) (wSg a) false (xp a))) false) (clp 0 - 1)) [(decide (ofN (whQ m (sgn a) (wSg a) false (xp a))).ok, true), (whL (wSg a) false (xp a), true), (decide (whQ m (sgn a) (wSg a) false (xp a) < 2 ^ 256), true), (early (xp a) false, false), (decide (wSg a).ok, true), lU a, (decide (cl a ≤ 2), true), lU a, (cl a == 3, false), lU a, (decide (cl a > 3), false), lU a] := ⟨by kernel_rfl, by kernel_rfl, by kernel_rfl, by kernel_rfl⟩
theorem wo_fff (a m : Int) : Fits (reckon (tabOf Try.prog extY conWO true) 300 38 [.int .u64 a, .int .i64 m, .bool false] [cmp false, cmp false, cmp true, cmp false, cmp true, cmp false]) (rdV 0 (sgn a) (tw (ofN (whQ m (sgn a) (wSg a) false (xp a))) false) (clp 0 - 1)) [(decide (ofN (whQ m (sgn a) (wSg a) false (xp a))).ok, true), (whL (wSg a) false (xp a), false), (decide (whQ m (sgn a) (wSg a) false (xp a) < 2 ^ 256), true), (early (xp a) false, false), (decide (wSg a).ok, true), lU a, (decide (cl a ≤ 2), true), lU a, (cl a == 3, false), lU a, (decide (cl a > 3), false), lU a] := ⟨by kernel_rfl, by kernel_rfl, by kernel_rfl, by kernel_rfl⟩
theorem rd_even (m : Int) (n : Bool) {X : Nat} (hX : X < 2 ^ 256) (E : Int) : rdV m n (tw (ofN X) false) (clp E - 1) = rdT (sS n (rnP m n X E)) (rnF m n X E) := by
  obtain ⟨c1, c2⟩ := clp_round m n (ofN_ok X) false E
  have e := tw_of hX false
  have e1 : 2 * X + bN false = X * 2 ^ 1 := by simp only [bN]; omega
  unfold rdV
  rw [c1, c2, e, e1]
  have p := rnP_scale m n X 1 E
  have f := rnF_scale m n X 1 E
  rw [show E - ((1 : Nat) : Int) = E - 1 by omega] at p f
  rw [p, f]
theorem ofN_val {X : Nat} (h : X < 2 ^ 256) : (ofN X).val = (X : Int) := by
  have h2 : (2 : Nat) ^ 256 = 115792089237316195423570985008687907853269984665640564039457584007913129639936 := rfl
  unfold ofN
  rw [W4.val_of, Int.emod_eq_of_lt (by omega) (by omega)]
/-- what Round answers -/
def woP (m a : Int) : Int := if 3 < cl a then 9221120237041090560 else if cl a = 3 then a else sS (sgn a) (whP m a)
def woF (a : Int) (t : Bool) : Int := if 3 < cl a then (if cl a = 5 then 1 else 0) else if cl a = 3 then 0 else if t = true ∧ Go.Rn.whL a = true then 16 else 0
theorem whQ_eq8 (m a : Int) : whQ m (sgn a) (wSg a) false (xp a) = Go.Rn.whQ m a ∧ whL (wSg a) false (xp a) = Go.Rn.whL a := by
  have xa := xp_bd a
  have sa := sg_lt a
  have ec : clp (xp a) = xp a := by unfold clp; split <;> split <;> omega
  have et : tw (wSg a) false = (sg a).toNat * 2 ^ 1 := by
    unfold tw
    rw [wSg_nat]
    simp only
    omega
  have q := toQ_scale m (sgn a) (sg a).toNat 1 (xp a) 0
  have l := toL_scale (sg a).toNat 1 (xp a) 0
  rw [show xp a - ((1 : Nat) : Int) = xp a - 1 by omega] at q l
  unfold whQ whL Go.Rn.whQ Go.Rn.whL
  rw [ec, et, q, l]
  exact ⟨rfl, rfl⟩
theorem round_calls8 (a m : Int) (t : Bool) (ha : U a) (w : World) : Calls Try.prog 38 #[.int .u64 a, .int .i64 m, .bool t] w fun r w' => r = .returned (rdT (woP m a) (woF a t)) ∧ Tidy w w' := by
  have T := tabY_ok conWO_ok
  have ka : decide (U a) = true := decide_eq_true ha
  have ba := cl_bd a
  have xa := xp_bd a
  have hv : ([.int .u64 a, .int .i64 m, .bool t].all (lt 0)) = true := rfl
  unfold woP woF
  by_cases ha3 : 3 < cl a
  · rw [if_pos ha3, if_pos ha3]
    by_cases a5 : cl a = 5
    · rw [if_pos a5]
      cases t with
      | true => exact fits_calls T (wo_n1t a m) (okCons (beq_t (by omega)) (okCons ka (okCons (by decide) (okCons (decide_eq_true (by omega)) (okL1 ka))))) hv (by rfl) w
      | false => exact fits_calls T (wo_n1f a m) (okCons (beq_t (by omega)) (okCons ka (okCons (by decide) (okCons (decide_eq_true (by omega)) (okL1 ka))))) hv (by rfl) w
    · rw [if_neg a5]
      cases t with
      | true => exact fits_calls T (wo_n0t a m) (okCons (by decide) (okCons (beq_f (by omega)) (okCons ka (okCons (by decide) (okCons (decide_eq_true (by omega)) (okL1 ka)))))) hv (by rfl) w
      | false => exact fits_calls T (wo_n0f a m) (okCons (by decide) (okCons (beq_f (by omega)) (okCons ka (okCons (by decide) (okCons (decide_eq_true (by omega)) (okL1 ka)))))) hv (by rfl) w
  rw [if_neg ha3, if_neg ha3]
  by_cases a3 : cl a = 3
  · rw [if_pos a3, if_pos a3]
    cases t with
    | true => exact fits_calls T (wo_et a m) (okCons (beq_t (by omega)) (okCons ka (okCons (decide_eq_false (by omega)) (okL1 ka)))) hv (by rfl) w
    | false => exact fits_calls T (wo_ef a m) (okCons (beq_t (by omega)) (okCons ka (okCons (decide_eq_false (by omega)) (okL1 ka)))) hv (by rfl) w
  rw [if_neg a3, if_neg a3]
  have fa := fin_ex (p := a) (by omega)
  by_cases h0 : 0 ≤ xp a
  · have he : early (xp a) false = true := by
      unfold early
      rcases Int.lt_or_eq_of_le h0 with h | h
      · rw [decide_eq_true h]; rfl
      · rw [← h]; rfl
    have eP : whP m a = mag a := by unfold whP; rw [if_pos h0]
    have eL : Go.Rn.whL a = false := by unfold Go.Rn.whL toL; rw [if_pos h0]
    rw [eP, if_neg (by rw [eL]; simp)]
    obtain ⟨o1, o2⟩ := own_pat (m := 0) (neg := sgn a) fa
    have sa := sg_lt a
    have ew : wSg a = ofN (sg a).toNat := of_nat _ (wSg_ok a) (by rw [wSg_val]; omega)
    have hr : rdV 0 (sgn a) (tw (wSg a) false) (clp (xp a) - 1) = rdT (sS (sgn a) (mag a)) 0 := by
      rw [ew, rd_even 0 (sgn a) (Nat.lt_of_lt_of_le (show (sg a).toNat < 9007199254740992 by omega) (by decide)), o1, o2]
    cases t with
    | true =>
      have hf := wo_wt a m
      rw [hr] at hf
      exact fits_calls T hf (okCons (decide_eq_true (wSg_ok a)) (okCons he (okCons ka (okCons (decide_eq_true (by omega)) (okCons ka (okCons (beq_f (by omega)) (okCons ka (okCons (decide_eq_false (by omega)) (okL1 ka))))))))) hv (by rfl) w
    | false =>
      have hf := wo_wf a m
      rw [hr] at hf
      exact fits_calls T hf (okCons (decide_eq_true (wSg_ok a)) (okCons he (okCons ka (okCons (decide_eq_true (by omega)) (okCons ka (okCons (beq_f (by omega)) (okCons ka (okCons (decide_eq_false (by omega)) (okL1 ka))))))))) hv (by rfl) w
  · have he : early (xp a) false = false := by
      unfold early
      rw [decide_eq_false (by omega), decide_eq_false (by omega)]
      rfl
    obtain ⟨eQ, eL⟩ := whQ_eq8 m a
    have qb := whQ_bd (m := m) (a := a) (by omega)
    have q256 : Go.Rn.whQ m a < 2 ^ 256 := Nat.lt_of_le_of_lt qb (by decide)
    have kq : decide (whQ m (sgn a) (wSg a) false (xp a) < 2 ^ 256) = true := decide_eq_true (by rw [eQ]; exact q256)
    obtain ⟨j, hj⟩ : ∃ j : Nat, (j : Int) = 1074 := ⟨1074, rfl⟩
    obtain ⟨f0, _⟩ := int_num hj qb 0 (sgn a)
    have eP : whP m a = rnP 0 (sgn a) (Go.Rn.whQ m a) 0 := by unfold whP; rw [if_neg h0]
    have hr := rd_even 0 (sgn a) q256 0
    rw [f0, ← eP, ← eQ] at hr
    have hr2 := hr
    unfold rdV rdT at hr2
    have hp : sS (sgn a) (rnP 0 (sgn a) (tw (ofN (whQ m (sgn a) (wSg a) false (xp a))) false) (clp 0 - 1)) = sS (sgn a) (whP m a) ∧ rnF 0 (sgn a) (tw (ofN (whQ m (sgn a) (wSg a) false (xp a))) false) (clp 0 - 1) = 0 := by
      simpa using hr2
    cases hL : Go.Rn.whL a with
    | true =>
      cases t with
      | true =>
        rw [if_pos ⟨rfl, rfl⟩]
        have hf := wo_ftt a m
        rw [hp.1, hp.2] at hf
        exact fits_calls T hf (okCons (decide_eq_true (ofN_ok _)) (okCons (eL.trans hL) (okCons kq (okCons he (okCons (decide_eq_true (wSg_ok a)) (okCons ka (okCons (decide_eq_true (by omega)) (okCons ka (okCons (beq_f (by omega)) (okCons ka (okCons (decide_eq_false (by omega)) (okL1 ka)))))))))))) hv (by rfl) w
      | false =>
        rw [if_neg (by simp)]
        have hf := wo_fft a m
        rw [hr] at hf
        exact fits_calls T hf (okCons (decide_eq_true (ofN_ok _)) (okCons (eL.trans hL) (okCons kq (okCons he (okCons (decide_eq_true (wSg_ok a)) (okCons ka (okCons (decide_eq_true (by omega)) (okCons ka (okCons (beq_f (by omega)) (okCons ka (okCons (decide_eq_false (by omega)) (okL1 ka)))))))))))) hv (by rfl) w
    | false =>
      rw [if_neg (by simp)]
      cases t with
      | true =>
        have hf := wo_ftf a m
        rw [hr] at hf
        exact fits_calls T hf (okCons (decide_eq_true (ofN_ok _)) (okCons (eL.trans hL) (okCons kq (okCons he (okCons (decide_eq_true (wSg_ok a)) (okCons ka (okCons (decide_eq_true (by omega)) (okCons ka (okCons (beq_f (by omega)) (okCons ka (okCons (decide_eq_false (by omega)) (okL1 ka)))))))))))) hv (by rfl) w
      | false =>
        have hf := wo_fff a m
        rw [hr] at hf
        exact fits_calls T hf (okCons (decide_eq_true (ofN_ok _)) (okCons (eL.trans hL) (okCons kq (okCons he (okCons (decide_eq_true (wSg_ok a)) (okCons ka (okCons (decide_eq_true (by omega)) (okCons ka (okCons (beq_f (by omega)) (okCons ka (okCons (decide_eq_false (by omega)) (okL1 ka)))))))))))) hv (by rfl) w
def gWO : Ans := fun vals s =>
  match vals with
  | [.int .u64 a, .int .i64 m, .bool t] => some (rdT (woP m a) (woF a t), s, [(decide (U a), true)])
  | _ => none
theorem gWO_ok : AnsOk 38 gWO := by
  intro vals s v s' lg h hl w
  unfold gWO at h
  split at h
  · cases h
    exact round_calls8 _ _ _ (of_decide_eq_true (hl _ (List.mem_singleton.2 rfl))) w
  · cases h
end Go.Proofs.Ytmfgjfnhonohjaa
