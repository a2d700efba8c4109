/-
  PLAIN ARITHMETIC: quotients of patterns' numbers, and their roots, rounded.
-/
import Derived.Test.YtfmfcbnhmkkibaaG20
namespace Go.Rn
open Go.Nt Go.Wd Go.Pt

/-- a number's quotient, with a last bit for what is left -/
def dvK (A B k : Nat) : Nat := 2 * (A * 2 ^ k / B) + (if A * 2 ^ k % B = 0 then 0 else 1)
theorem mod_scale {A B : Nat} (k : Nat) : A * 2 ^ k % (B * 2 ^ k) = A % B * 2 ^ k := Nat.mul_mod_mul_right (2 ^ k) A B
theorem dvK_div (A B k j : Nat) : dvK A B (k + j) / 2 ^ (j + 1) = A * 2 ^ k / B := by
  have hp : 0 < 2 ^ j := Nat.pow_pos (by omega)
  have e1 : A * 2 ^ (k + j) / B / 2 ^ j = A * 2 ^ k / B := by
    rw [Nat.div_div_eq_div_mul, Nat.pow_add, ← Nat.mul_assoc, Nat.mul_div_mul_right _ _ hp]
  have : dvK A B (k + j) / 2 = A * 2 ^ (k + j) / B := by unfold dvK; split <;> omega
  rw [Nat.pow_succ, Nat.mul_comm (2 ^ j) 2, ← Nat.div_div_eq_div_mul, this, e1]
theorem dvK_stk (A B k j : Nat) : stk (dvK A B (k + j)) (j + 1) = dvK A B k := by
  have hp : 0 < 2 ^ j := Nat.pow_pos (by omega)
  have e1 : A * 2 ^ (k + j) / B / 2 ^ j = A * 2 ^ k / B := by
    rw [Nat.div_div_eq_div_mul, Nat.pow_add, ← Nat.mul_assoc, Nat.mul_div_mul_right _ _ hp]
  have e2 := dvK_div A B k j
  have e3 : dvK A B (k + j) % 2 ^ (j + 1) = 0 ↔ A * 2 ^ k % B = 0 := by
    have d2 : dvK A B (k + j) / 2 = A * 2 ^ (k + j) / B := by unfold dvK; split <;> omega
    have m2 : dvK A B (k + j) % 2 = if A * 2 ^ (k + j) % B = 0 then 0 else 1 := by unfold dvK; split <;> omega
    rw [Nat.pow_succ, Nat.mul_comm (2 ^ j) 2, Nat.mod_mul, d2, m2]
    have e : A * 2 ^ (k + j) % B + B * (A * 2 ^ (k + j) / B % 2 ^ j) = A * 2 ^ k % B * 2 ^ j := by
      rw [← Nat.mod_mul, ← mod_scale, Nat.mul_assoc, ← Nat.pow_add]
    constructor
    · intro h
      have h1 : A * 2 ^ (k + j) % B = 0 := by
        by_cases h0 : A * 2 ^ (k + j) % B = 0
        · exact h0
        · rw [if_neg h0] at h; omega
      have h2 : A * 2 ^ (k + j) / B % 2 ^ j = 0 := by omega
      rw [h1, h2, Nat.mul_zero] at e
      rcases Nat.mul_eq_zero.1 e.symm with h3 | h3
      · exact h3
      · omega
    · intro h
      rw [h, Nat.zero_mul] at e
      have h1 : A * 2 ^ (k + j) % B = 0 := by omega
      rw [if_pos h1]
      rcases Nat.mul_eq_zero.1 (show B * (A * 2 ^ (k + j) / B % 2 ^ j) = 0 by omega) with h2 | h2
      · rw [h2, Nat.div_zero, Nat.zero_mod]
      · rw [h2]
  unfold stk
  rw [e2]
  by_cases h : A * 2 ^ k % B = 0
  · rw [if_pos (e3.2 h)]; unfold dvK; rw [if_pos h]
  · rw [if_neg (fun h' => h (e3.1 h'))]; unfold dvK; rw [if_neg h]
theorem dvK_len {A B k : Nat} (hA : A ≠ 0) (hB : B ≠ 0) (h : B < 9007199254740992) (hk : 106 ≤ k) : 54 ≤ bitLen (A * 2 ^ k / B) := by
  refine le_len (k := 53) ?_
  rw [Nat.le_div_iff_mul_le (by omega)]
  have h1 : 2 ^ 106 ≤ 2 ^ k := Nat.pow_le_pow_right (by omega) hk
  have h2 : 2 ^ k ≤ A * 2 ^ k := Nat.le_mul_of_pos_left _ (by omega)
  have h3 : 2 ^ 53 * B ≤ 2 ^ 53 * 2 ^ 53 := Nat.mul_le_mul_left _ (by omega)
  rw [← Nat.pow_add] at h3
  exact Nat.le_trans h3 (Nat.le_trans h1 h2)
/-- a quotient with fewer bits is rounded the same -/
theorem dvK_round {m E : Int} {n : Bool} {A B k j : Nat} (hB : B ≠ 0) (h : B < 9007199254740992) (hk : 106 ≤ k) : rnP m n (dvK A B k) (E + j) = rnP m n (dvK A B (k + j)) E ∧ rnF m n (dvK A B k) (E + j) = rnF m n (dvK A B (k + j)) E := by
  have r := stk_round (m := m) (neg := n) (A := dvK A B (k + j)) (d := j + 1) (F := E) (by
    by_cases hA : A = 0
    · left; subst hA; unfold dvK; simp
    · right
      rw [dvK_div]
      exact dvK_len hA hB h hk)
  rw [dvK_stk, show E + ((j + 1 : Nat) : Int) - 1 = E + (j : Int) by omega] at r
  exact r
/-- a quotient's size, its power; rounded -/
def dvT (a b : Int) : Nat := dvK (sg a).toNat (sg b).toNat 128
def dvE (a b : Int) : Int := xp a - xp b - 129
def dvP (m a b : Int) : Int := rnP m (prN a b) (dvT a b) (dvE a b)
def dvF (m a b : Int) : Int := rnF m (prN a b) (dvT a b) (dvE a b)
theorem dv_bd (m a b : Int) : 0 ≤ dvP m a b ∧ dvP m a b ≤ 9218868437227405312 := rnP_bd _ _ _ _
theorem dvE_bd (a b : Int) : -2175 ≤ dvE a b ∧ dvE a b ≤ 1917 := by
  have h1 := xp_bd a
  have h2 := xp_bd b
  unfold dvE
  omega
/-- the document's quotient -/
theorem dv_doc {m a b : Int} (hb : sg b ≠ 0) : rnP m (prN a b) (dvK (sg a).toNat (sg b).toNat 120) (xp a - xp b - 121) = dvP m a b ∧ rnF m (prN a b) (dvK (sg a).toNat (sg b).toNat 120) (xp a - xp b - 121) = dvF m a b := by
  have h := sg_lt b
  have r := dvK_round (m := m) (E := dvE a b) (n := prN a b) (A := (sg a).toNat) (B := (sg b).toNat) (k := 120) (j := 8) (by omega) (by omega) (by omega)
  rw [show dvE a b + ((8 : Nat) : Int) = xp a - xp b - 121 by unfold dvE; omega] at r
  exact r
/-- a quotient that needs no rest -/
theorem dvK_mul {A B C k : Nat} (hB : B ≠ 0) (h : A * 2 ^ k = C * B) : dvK A B k = C * 2 ^ 1 := by
  unfold dvK
  rw [h, Nat.mul_div_cancel _ (by omega), Nat.mul_mod_left, if_pos rfl]
  omega
theorem dv_one {m a : Int} (hf : ex a ≠ 2047) : prN a 4607182418800017408 = sgn a ∧ dvP m a 4607182418800017408 = mag a ∧ dvF m a 4607182418800017408 = 0 := by
  obtain ⟨o1, o2, o3⟩ := one_num
  have hn : prN a 4607182418800017408 = sgn a := by unfold prN; rw [o1]; cases sgn a <;> rfl
  have hv : dvT a 4607182418800017408 = (sg a).toNat * 2 ^ 77 := by
    unfold dvT
    rw [o3, dvK_mul (C := (sg a).toNat * 2 ^ 76) (by decide) (by rw [Nat.mul_assoc]; rfl), Nat.mul_assoc]
  have he : dvE a 4607182418800017408 = xp a - ((77 : Nat) : Int) := by unfold dvE; rw [o2]; omega
  obtain ⟨q1, q2⟩ := own_pat (m := m) (neg := sgn a) hf
  unfold dvP dvF
  rw [hn, hv, he, rnP_scale, rnF_scale, q1, q2]
  exact ⟨rfl, rfl, rfl⟩
theorem prN_self (a : Int) : prN a a = false := by unfold prN; cases sgn a <;> rfl
theorem dv_self {m a : Int} (h : sg a ≠ 0) : prN a a = false ∧ dvP m a a = 4607182418800017408 ∧ dvF m a a = 0 := by
  have h0 := sg_lt a
  have hv : dvT a a = 4503599627370496 * 2 ^ 77 := by
    unfold dvT
    rw [dvK_mul (C := 2 ^ 128) (by omega) (Nat.mul_comm _ _)]
  have he : dvE a a = -52 - ((77 : Nat) : Int) := by unfold dvE; omega
  obtain ⟨o1, o2, o3⟩ := one_num
  obtain ⟨q1, q2⟩ := own_pat (m := m) (neg := false) (p := 4607182418800017408) (by decide)
  rw [o2, o3] at q1 q2
  unfold dvP dvF
  rw [prN_self, hv, he, rnP_scale, rnF_scale]
  exact ⟨rfl, q1, q2⟩
theorem prN_ng2 {b : Int} (hb : U b) (a : Int) : prN a (ng b) = !prN a b := by rw [prN_comm, prN_ng hb, prN_comm]
theorem dv_ng {m b : Int} (hb : U b) (a : Int) : dvP (swM m) a (ng b) = dvP m a b ∧ dvF (swM m) a (ng b) = dvF m a b := by
  obtain ⟨e1, e2, _⟩ := ng_num hb
  have eT : dvT a (ng b) = dvT a b := by unfold dvT; rw [e2]
  have eE : dvE a (ng b) = dvE a b := by unfold dvE; rw [e1]
  unfold dvP dvF
  rw [prN_ng2 hb, eT, eE, rnP_swM, rnF_swM]
  exact ⟨rfl, rfl⟩

/-! ### roots -/
/-- a number's root, with a last bit for what is left -/
def rtK (X : Nat) : Nat := 2 * isq X + (if isq X * isq X = X then 0 else 1)
def lim : Nat := 115792089237316195423570985008687907853269984665640564039457584007913129639936
theorem isq_uniq {X r : Nat} (hX : X < lim) (h1 : r * r ≤ X) (h2 : X < (r + 1) * (r + 1)) : isq X = r := by
  have h1 : (r : Int) * r ≤ X := by exact_mod_cast h1
  have h2 : (X : Int) < ((r : Int) + 1) * ((r : Int) + 1) := by exact_mod_cast h2
  have := isq_one hX (x := r) (by omega) h1 h2
  omega
theorem sq_four (r j : Nat) : r * 2 ^ j * (r * 2 ^ j) = r * r * 4 ^ j := by
  rw [show (4 : Nat) = 2 * 2 from rfl, Nat.mul_pow, Nat.mul_mul_mul_comm]
theorem isq_cut {X : Nat} (j : Nat) (h : X * 4 ^ j < lim) : isq (X * 4 ^ j) / 2 ^ j = isq X := by
  have hp : 0 < 2 ^ j := Nat.pow_pos (by omega)
  have hq : 0 < 4 ^ j := Nat.pow_pos (by omega)
  have hX : X < lim := Nat.lt_of_le_of_lt (Nat.le_mul_of_pos_right X hq) h
  obtain ⟨s1, s2⟩ := isq_spec h
  generalize isq (X * 4 ^ j) = r at *
  refine (isq_uniq hX ?_ ?_).symm
  · have h1 : r / 2 ^ j * 2 ^ j ≤ r := Nat.div_mul_le_self r _
    have h2 := Nat.mul_le_mul h1 h1
    rw [sq_four] at h2
    exact Nat.le_of_mul_le_mul_right (Nat.le_trans h2 s1) hq
  · have h1 : r + 1 ≤ (r / 2 ^ j + 1) * 2 ^ j := by
      have := Nat.lt_mul_div_succ r hp
      rw [Nat.mul_comm] at this
      exact this
    have h2 := Nat.mul_le_mul h1 h1
    rw [sq_four] at h2
    exact Nat.lt_of_mul_lt_mul_right (Nat.lt_of_lt_of_le s2 h2)
theorem isq_sq {r : Nat} (h : r * r < lim) : isq (r * r) = r := isq_uniq h (Nat.le_refl _) (by rw [Nat.add_mul, Nat.mul_add]; omega)
theorem rtK_stk {X : Nat} (j : Nat) (h : X * 4 ^ j < lim) : stk (rtK (X * 4 ^ j)) (j + 1) = rtK X := by
  have hp : 0 < 2 ^ j := Nat.pow_pos (by omega)
  have hq : 0 < 4 ^ j := Nat.pow_pos (by omega)
  have e1 := isq_cut j h
  have d2 : rtK (X * 4 ^ j) / 2 = isq (X * 4 ^ j) := by unfold rtK; split <;> omega
  have m2 : rtK (X * 4 ^ j) % 2 = if isq (X * 4 ^ j) * isq (X * 4 ^ j) = X * 4 ^ j then 0 else 1 := by unfold rtK; split <;> omega
  have e2 : rtK (X * 4 ^ j) / 2 ^ (j + 1) = isq X := by rw [Nat.pow_succ, Nat.mul_comm (2 ^ j) 2, ← Nat.div_div_eq_div_mul, d2, e1]
  have e3 : rtK (X * 4 ^ j) % 2 ^ (j + 1) = 0 ↔ isq X * isq X = X := by
    rw [Nat.pow_succ, Nat.mul_comm (2 ^ j) 2, Nat.mod_mul, d2, m2]
    constructor
    · intro h0
      have h1 : isq (X * 4 ^ j) * isq (X * 4 ^ j) = X * 4 ^ j := by
        by_cases h1 : isq (X * 4 ^ j) * isq (X * 4 ^ j) = X * 4 ^ j
        · exact h1
        · rw [if_neg h1] at h0; omega
      have h2 : isq (X * 4 ^ j) % 2 ^ j = 0 := by omega
      have h3 : isq X * 2 ^ j = isq (X * 4 ^ j) := by
        have := Nat.div_add_mod (isq (X * 4 ^ j)) (2 ^ j)
        rw [e1, h2, Nat.mul_comm] at this
        omega
      rw [← h3, sq_four] at h1
      exact Nat.eq_of_mul_eq_mul_right hq h1
    · intro h0
      have h3 : isq (X * 4 ^ j) = isq X * 2 ^ j := by
        have : isq X * 2 ^ j * (isq X * 2 ^ j) = X * 4 ^ j := by rw [sq_four, h0]
        rw [← this]
        exact isq_sq (by rw [this]; exact h)
      have h4 : isq (X * 4 ^ j) * isq (X * 4 ^ j) = X * 4 ^ j := by rw [h3, sq_four, h0]
      rw [if_pos h4, h3, Nat.mul_mod_left]
  unfold stk
  rw [e2]
  by_cases h0 : isq X * isq X = X
  · rw [if_pos (e3.2 h0)]; unfold rtK; rw [if_pos h0]
  · rw [if_neg (fun h' => h0 (e3.1 h'))]; unfold rtK; rw [if_neg h0]
theorem rtK_round {m E : Int} {n : Bool} {X j : Nat} (h : X * 4 ^ j < lim) (h0 : 2 ^ 106 ≤ X) : rnP m n (rtK X) (E + j) = rnP m n (rtK (X * 4 ^ j)) E ∧ rnF m n (rtK X) (E + j) = rnF m n (rtK (X * 4 ^ j)) E := by
  have hq : 0 < 4 ^ j := Nat.pow_pos (by omega)
  have hX : X < lim := Nat.lt_of_le_of_lt (Nat.le_mul_of_pos_right X hq) h
  have r := stk_round (m := m) (neg := n) (A := rtK (X * 4 ^ j)) (d := j + 1) (F := E) (.inr (by
    have d2 : rtK (X * 4 ^ j) / 2 = isq (X * 4 ^ j) := by unfold rtK; split <;> omega
    rw [Nat.pow_succ, Nat.mul_comm (2 ^ j) 2, ← Nat.div_div_eq_div_mul, d2, isq_cut j h]
    refine le_len (k := 53) ?_
    obtain ⟨_, s2⟩ := isq_spec hX
    rcases Nat.lt_or_ge (isq X) (2 ^ 53) with hl | hl
    · have := Nat.mul_le_mul hl hl
      rw [← Nat.pow_add] at this
      have h1 := Nat.lt_of_lt_of_le s2 this
      omega
    · exact hl))
  rw [rtK_stk j h, show E + ((j + 1 : Nat) : Int) - 1 = E + (j : Int) by omega] at r
  exact r
/-- what a root is found of; its power; rounded -/
def rtU (a : Int) : Nat := 128 + (xp a % 2).toNat
def rtX (a : Int) : Nat := (sg a).toNat * 2 ^ rtU a
def rtE (a : Int) : Int := (xp a - rtU a) / 2 - 1
def rtP (m a : Int) : Int := rnP m false (rtK (rtX a)) (rtE a)
def rtF (m a : Int) : Int := rnF m false (rtK (rtX a)) (rtE a)
theorem rt_bd (m a : Int) : 0 ≤ rtP m a ∧ rtP m a ≤ 9218868437227405312 := rnP_bd _ _ _ _
theorem rtU_bd (a : Int) : 128 ≤ rtU a ∧ rtU a ≤ 129 := by unfold rtU; omega
theorem rtX_lt (a : Int) (j : Nat) (hj : j ≤ 12) : rtX a * 2 ^ j < 2 ^ 194 := by
  have h := sg_lt a
  have u := rtU_bd a
  unfold rtX
  rw [Nat.mul_assoc, ← Nat.pow_add]
  have h1 : 2 ^ (rtU a + j) ≤ 2 ^ 141 := Nat.pow_le_pow_right (by omega) (by omega)
  have h2 : (sg a).toNat * 2 ^ (rtU a + j) ≤ 9007199254740991 * 2 ^ 141 := Nat.mul_le_mul (by omega) h1
  exact Nat.lt_of_le_of_lt h2 (by decide)
theorem rtX_ge {a : Int} (h : sg a ≠ 0) : 2 ^ 106 ≤ rtX a := by
  have h0 := sg_lt a
  have u := rtU_bd a
  unfold rtX
  exact Nat.le_trans (Nat.pow_le_pow_right (by omega) (show 106 ≤ rtU a by omega)) (Nat.le_mul_of_pos_left _ (by omega))
/-- the document's root -/
theorem rt_doc {m a : Int} (h : sg a ≠ 0) : rnP m false (rtK (rtX a * 2 ^ 12)) (rtE a - 6) = rtP m a ∧ rnF m false (rtK (rtX a * 2 ^ 12)) (rtE a - 6) = rtF m a := by
  have hl : rtX a * 4 ^ 6 < lim := Nat.lt_trans (rtX_lt a 12 (by omega)) (by decide)
  have r := rtK_round (m := m) (E := rtE a - 6) (n := false) (X := rtX a) (j := 6) hl (rtX_ge h)
  rw [show rtE a - 6 + ((6 : Nat) : Int) = rtE a by omega] at r
  exact ⟨r.1.symm, r.2.symm⟩
end Go.Rn

/-
  PLAIN ARITHMETIC: the root of a square that needs no rounding; a root by Down and Up.
-/
namespace Go.Rn
open Go.Nt Go.Wd Go.Pt

/-- a product without flags, as a number: in units of 2^-2148 -/
theorem ml_exact {m : Int} {n : Bool} {T : Nat} {E : Int} {j : Nat} (hj : (j : Int) = 1074) (hT : T ≠ 0) (hE : -2148 ≤ E) (h : rnF m n T E = 0) : uV (rnP m n T E) * 2 ^ j = T * 2 ^ (E + 2148).toNat ∧ rnP m n T E < 9218868437227405312 := by
  obtain ⟨h1, h2, h3, h4⟩ := rn_num hT (.inl h)
  have hl := h4.1 h
  refine ⟨?_, by omega⟩
  rw [h3]
  have hge := lowE_ge T E
  generalize lowE T E = e at *
  unfold toL at hl
  unfold toQ
  by_cases he : e ≤ E
  · rw [if_pos he, Nat.mul_assoc, Nat.mul_assoc, ← Nat.pow_add, ← Nat.pow_add]
    congr 2
    omega
  · rw [if_neg he] at hl ⊢
    have hz : T % 2 ^ (e - E).toNat = 0 := by simpa using hl
    rw [rq_exact hz]
    have hd := Nat.div_add_mod T (2 ^ (e - E).toNat)
    rw [hz, Nat.add_zero] at hd
    have ee : 2 ^ (e + 1074).toNat * 2 ^ j = 2 ^ (e - E).toNat * 2 ^ (E + 2148).toNat := by
      rw [← Nat.pow_add, ← Nat.pow_add]
      congr 1
      omega
    rw [Nat.mul_assoc, ee, ← Nat.mul_assoc, Nat.mul_comm _ (2 ^ (e - E).toNat), hd]
/-- the root of a square -/
theorem rt_square {m a s : Int} {j : Nat} (hj : (j : Int) = 1074) (hf : ex a ≠ 2047) (hs : sg s ≠ 0) (h : uV s * 2 ^ j = prV a a * 2 ^ (prE a a + 2148).toNat) : rtP m s = mag a ∧ rtF m s = 0 := by
  have hA := sg_lt a
  have hS := sg_lt s
  have xa := xp_bd a
  have xs := xp_bd s
  have uU := rtU_bd s
  have ev : (xp s - rtU s) % 2 = 0 := by unfold rtU; omega
  unfold uV szF prV prE at h
  obtain ⟨S, eS⟩ : ∃ S, S = (sg s).toNat := ⟨_, rfl⟩
  obtain ⟨A, eA⟩ : ∃ A, A = (sg a).toNat := ⟨_, rfl⟩
  rw [← eS, ← eA] at h
  obtain ⟨x, ex⟩ : ∃ x : Nat, x = (xp s - -1074).toNat + j := ⟨_, rfl⟩
  obtain ⟨y, ey⟩ : ∃ y : Nat, y = (xp a + xp a + 2148).toNat := ⟨_, rfl⟩
  rw [Nat.mul_assoc, ← Nat.pow_add, ← ex, ← ey] at h
  have hA2 : A * A < 2 ^ 106 := by
    have := Nat.mul_le_mul (show A ≤ 9007199254740991 by omega) (show A ≤ 9007199254740991 by omega)
    exact Nat.lt_of_le_of_lt this (by decide)
  have hxy : x ≤ y + 105 := by
    rcases Nat.lt_or_ge (y + 105) x with hc | hc
    · exfalso
      have e1 : x = (x - y) + y := by omega
      rw [e1, Nat.pow_add, ← Nat.mul_assoc] at h
      have e2 := Nat.eq_of_mul_eq_mul_right (Nat.pow_pos (by omega)) h
      have h1 : 2 ^ 106 ≤ 2 ^ (x - y) := Nat.pow_le_pow_right (by omega) (by omega)
      have h2 : 2 ^ (x - y) ≤ S * 2 ^ (x - y) := Nat.le_mul_of_pos_left _ (by omega)
      omega
    · exact hc
  obtain ⟨k, hk⟩ : ∃ k : Nat, y + rtU s = x + (k + k) := ⟨(y + rtU s - x) / 2, by omega⟩
  have hX : rtX s = A * 2 ^ k * (A * 2 ^ k) := by
    unfold rtX
    rw [← eS]
    refine Nat.eq_of_mul_eq_mul_right (show 0 < 2 ^ x from Nat.pow_pos (by omega)) ?_
    rw [Nat.mul_mul_mul_comm, Nat.mul_right_comm, h, Nat.mul_assoc (A * A), ← Nat.pow_add, ← Nat.pow_add, Nat.mul_assoc (A * A), ← Nat.pow_add]
    congr 2
    omega
  have hlim : A * 2 ^ k * (A * 2 ^ k) < lim := by
    rw [← hX]
    exact Nat.lt_trans (Nat.lt_of_le_of_lt (Nat.le_mul_of_pos_right _ (by decide)) (rtX_lt s 0 (by omega))) (by decide)
  have hK : rtK (rtX s) = A * 2 ^ (k + 1) := by
    unfold rtK
    rw [hX, isq_sq hlim, if_pos rfl, Nat.pow_succ, Nat.add_zero, Nat.mul_comm 2, Nat.mul_assoc]
  have hE : rtE s = xp a - ((k + 1 : Nat) : Int) := by unfold rtE; omega
  obtain ⟨q1, q2⟩ := own_pat (m := m) (neg := false) hf
  unfold rtP rtF
  rw [hK, hE, rnP_scale, rnF_scale, eA, q1, q2]
  exact ⟨rfl, rfl⟩
theorem rtK_bd {a : Int} (h : sg a ≠ 0) : 66 ≤ bitLen (rtK (rtX a)) ∧ bitLen (rtK (rtX a)) ≤ 98 := by
  have h0 := sg_lt a
  have u := rtU_bd a
  have x1 : rtX a < 2 ^ 194 := Nat.lt_of_le_of_lt (Nat.le_mul_of_pos_right _ (by decide)) (rtX_lt a 0 (by omega))
  have x0 : 2 ^ 128 ≤ rtX a := by
    unfold rtX
    exact Nat.le_trans (Nat.pow_le_pow_right (by omega) u.1) (Nat.le_mul_of_pos_left _ (by omega))
  obtain ⟨s1, s2⟩ := isq_spec (n := rtX a) (Nat.lt_trans x1 (by decide))
  have r0 : 2 ^ 64 ≤ isq (rtX a) := by
    rcases Nat.lt_or_ge (isq (rtX a)) (2 ^ 64) with hc | hc
    · have := Nat.mul_le_mul hc hc
      rw [← Nat.pow_add] at this
      have h1 := Nat.lt_of_lt_of_le s2 this
      omega
    · exact hc
  have r1 : isq (rtX a) < 2 ^ 97 := by
    rcases Nat.lt_or_ge (isq (rtX a)) (2 ^ 97) with hc | hc
    · exact hc
    · have := Nat.mul_le_mul hc hc
      rw [← Nat.pow_add] at this
      have h1 := Nat.le_trans this s1
      omega
  refine ⟨le_len (k := 65) ?_, len_le (k := 98) ?_⟩
  · unfold rtK
    split <;> omega
  · unfold rtK
    split <;> omega
/-- a root by Down and Up -/
theorem rt_sides {a : Int} (h : sg a ≠ 0) : (rtP 3 a = rtP 4 a ∧ rtF 3 a = 0 ∧ rtF 4 a = 0) ∨ (rtP 3 a = rtP 4 a + 1 ∧ rtF 3 a = 16 ∧ rtF 4 a = 16) := by
  obtain ⟨b1, b2⟩ := rtK_bd h
  have u := rtU_bd a
  have xa := xp_bd a
  have hE : -605 ≤ rtE a ∧ rtE a ≤ 425 := by unfold rtE; omega
  have hT : rtK (rtX a) ≠ 0 := fun h0 => by rw [h0] at b1; simp [bitLen] at b1
  have hlg : -540 ≤ lgN (rtK (rtX a)) (rtE a) ∧ lgN (rtK (rtX a)) (rtE a) ≤ 522 := by unfold lgN; omega
  have hlo : lowE (rtK (rtX a)) (rtE a) ≤ 470 := by unfold lowE; split <;> omega
  have hF : ∀ m, rnF m false (rtK (rtX a)) (rtE a) = 0 ∨ rnF m false (rtK (rtX a)) (rtE a) = 16 := by
    intro m
    have hq := low_hi m false (rtK (rtX a)) (rtE a)
    have hp : p0 m false (rtK (rtX a)) (rtE a) < 9218868437227405312 := by unfold p0; omega
    have ht : tiny m false (rtK (rtX a)) (rtE a) = false := by
      unfold tiny
      rw [if_neg (by omega)]
      exact decide_eq_false (by omega)
    unfold rnF
    rw [if_neg hT, if_neg (by omega), ht]
    split
    · exact .inr rfl
    · exact .inl rfl
  unfold rtP rtF
  cases hi : inex (rtK (rtX a)) (rtE a) with
  | false =>
    left
    obtain ⟨p3, f3⟩ := exact_of (m := 3) (neg := false) hi
    obtain ⟨p4, f4⟩ := exact_of (m := 4) (neg := false) hi
    exact ⟨by rw [p3, p4], f3, f4⟩
  | true =>
    right
    obtain ⟨p3, p4⟩ := inex_side (neg := false) hi
    have f3 := inex_F (m := 3) (neg := false) hi
    have f4 := inex_F (m := 4) (neg := false) hi
    have g3 := hF 3
    have g4 := hF 4
    refine ⟨?_, by omega, by omega⟩
    rw [p3, p4]
    simp
end Go.Rn

/-
  PLAIN ARITHMETIC: rests of patterns' numbers, and patterns' numbers rounded to whole ones.
-/
namespace Go.Rn
open Go.Nt Go.Wd Go.Pt

/-! ### patterns and their numbers, in one order -/
theorem mag_self {p : Int} (h0 : 0 ≤ p) (h1 : p < 9223372036854775808) : mag p = p := by unfold mag; omega
theorem fin_small {p : Int} (h0 : 0 ≤ p) (h1 : p < 9218868437227405312) : ex p ≠ 2047 := by unfold ex; omega
theorem uV_lt {p q : Int} (hp : 0 ≤ p) (hpq : p < q) (hq : q < 9218868437227405312) : uV p < uV q := by
  rcases Nat.lt_or_ge (uV p) (uV q) with h | h
  · exact h
  · exfalso
    obtain ⟨a1, _⟩ := own_uV (m := 0) (n := false) (fin_small (p := p) hp (by omega))
    obtain ⟨b1, _⟩ := own_uV (m := 0) (n := false) (fin_small (p := q) (by omega) hq)
    have := rnP_mono (m := 0) (neg := false) (E := -1074) h
    rw [a1, b1, mag_self hp (by omega), mag_self (by omega) (by omega)] at this
    omega
theorem uV_le {p q : Int} (hq0 : 0 ≤ q) (hp : p < 9218868437227405312) (h : uV p ≤ uV q) : p ≤ q := by
  rcases Int.lt_or_le q p with hc | hc
  · have := uV_lt hq0 hc hp; omega
  · exact hc
theorem mag_lt2 (p : Int) : 0 ≤ mag p ∧ mag p < 9223372036854775808 := by unfold mag; omega
theorem uV_mag (p : Int) : uV (mag p) = uV p := by
  have e : ex (mag p) = ex p ∧ fr (mag p) = fr p := by unfold ex fr mag; omega
  unfold uV xp sg
  rw [e.1, e.2]
/-- twice a pattern's number, where it is a finite one -/
def tw2 (p : Int) : Int := if p / 4503599627370496 % 2048 = 0 then 2 * p else p + 4503599627370496
theorem tw2_num {p : Int} (h0 : 0 ≤ p) (h1 : p < 9214364837600034816) : uV (tw2 p) = 2 * uV p ∧ 0 ≤ tw2 p ∧ tw2 p < 9218868437227405312 := by
  have key : ∀ (q : Int) (S : Nat) (x : Int), (sg q).toNat = S → xp q = x → uV q = S * 2 ^ (x - -1074).toNat := fun q S x e1 e2 => by unfold uV szF; rw [e1, e2]
  by_cases hz : p / 4503599627370496 % 2048 = 0
  · have e : tw2 p = 2 * p := by unfold tw2; rw [if_pos hz]
    have hp : p < 4503599627370496 := by omega
    have ep : ex p = 0 := hz
    have fp : fr p = p := by unfold fr; omega
    have u1 := key p p.toNat (-1074) (by unfold sg; rw [if_pos ep, fp]) (by unfold xp; rw [if_pos ep])
    rw [e]
    refine ⟨?_, by omega, by omega⟩
    by_cases hs : 2 * p < 4503599627370496
    · have e2 : ex (2 * p) = 0 := by unfold ex; omega
      have f2 : fr (2 * p) = 2 * p := by unfold fr; omega
      have u2 := key (2 * p) (2 * p).toNat (-1074) (by unfold sg; rw [if_pos e2, f2]) (by unfold xp; rw [if_pos e2])
      rw [u1, u2]
      simp
      omega
    · have e2 : ex (2 * p) = 1 := by unfold ex; omega
      have f2 : fr (2 * p) = 2 * p - 4503599627370496 := by unfold fr; omega
      have u2 := key (2 * p) (2 * p).toNat (-1074) (by unfold sg; rw [e2, if_neg (by omega), if_neg (by omega), f2]; congr 1; omega) (by unfold xp; rw [e2, if_neg (by omega), if_neg (by omega)]; omega)
      rw [u1, u2]
      simp
      omega
  · have e : tw2 p = p + 4503599627370496 := by unfold tw2; rw [if_neg hz]
    have ep : ex p = p / 4503599627370496 % 2048 := rfl
    have hx : 1 ≤ ex p ∧ ex p ≤ 2045 := by unfold ex; omega
    have e2 : ex (p + 4503599627370496) = ex p + 1 := by unfold ex; omega
    have f2 : fr (p + 4503599627370496) = fr p := by unfold fr; omega
    have u1 := key p (fr p + 4503599627370496).toNat (ex p - 1075) (by unfold sg; rw [if_neg (by omega), if_neg (by omega)]) (by unfold xp; rw [if_neg (by omega), if_neg (by omega)])
    have u2 := key (p + 4503599627370496) (fr p + 4503599627370496).toNat (ex p - 1074) (by unfold sg; rw [e2, if_neg (by omega), if_neg (by omega), f2]) (by unfold xp; rw [e2, if_neg (by omega), if_neg (by omega)]; omega)
    rw [e]
    refine ⟨?_, by omega, by omega⟩
    rw [u1, u2, show (ex p - 1074 - -1074).toNat = (ex p - 1075 - -1074).toNat + 1 by omega, Nat.pow_succ, ← Nat.mul_assoc]
    omega
/-- few bits, at a unit that patterns have: nothing is rounded -/
theorem few_exact {D : Nat} {E : Int} (hE : -1074 ≤ E) (hD : D < 9007199254740992) {b : Int} (hb : ex b ≠ 2047) (hle : D * 2 ^ (E + 1074).toNat ≤ uV b) (m : Int) (n : Bool) :
    rnF m n D E = 0 ∧ rnP m n D E = rnP 0 false (D * 2 ^ (E + 1074).toNat) (-1074) ∧ 0 ≤ rnP m n D E ∧ rnP m n D E ≤ mag b ∧ uV (rnP m n D E) = D * 2 ^ (E + 1074).toNat := by
  have sp := rnP_scale m n D (E + 1074).toNat E
  have sf := rnF_scale m n D (E + 1074).toNat E
  rw [show E - ((E + 1074).toNat : Int) = -1074 by omega] at sp sf
  obtain ⟨N, hN⟩ : ∃ N, N = D * 2 ^ (E + 1074).toNat := ⟨_, rfl⟩
  rw [← hN] at sp sf hle ⊢
  have ob := own_uV (m := 0) (n := false) hb
  have mb := mag_lt2 b
  by_cases hz : D = 0
  · have hN0 : N = 0 := by rw [hN, hz, Nat.zero_mul]
    have p0' : rnP m n D E = 0 := by unfold rnP; rw [if_pos hz]
    have f0' : rnF m n D E = 0 := by unfold rnF; rw [if_pos hz]
    have q0 : rnP 0 false N (-1074) = 0 := by unfold rnP; rw [if_pos hN0]
    rw [p0', f0', q0, hN0]
    exact ⟨rfl, rfl, by omega, by omega, by decide⟩
  · have hU : uV b ≠ 0 := by
      have : 0 < 2 ^ (E + 1074).toNat := Nat.pow_pos (by omega)
      have : 0 < N := by rw [hN]; exact Nat.mul_pos (by omega) this
      omega
    have hpb : p0 0 false (uV b) (-1074) < 9218868437227405312 := (rn_num hU (.inl ob.2)).1
    have hF : ∀ m n, rnF m n D E = 0 := fun m n => by
      have hD2 : D ≤ N := by rw [hN]; exact Nat.le_mul_of_pos_right _ (Nat.pow_pos (by omega))
      have hk : p0 0 false (D) E < 9218868437227405312 := by
        have e := p0_scale (T := D) hz 0 false (E + 1074).toNat E
        rw [show E - ((E + 1074).toNat : Int) = -1074 by omega, ← hN] at e
        rw [← e]
        have := p0_mono (m := 0) (neg := false) (E := -1074) (T := N) (U := uV b) (by rw [hN]; exact Nat.mul_ne_zero hz (Nat.ne_of_gt (Nat.pow_pos (by omega)))) hle
        omega
      exact few_bits (k := 0) (s := false) (A := D) hE hD (Nat.le_refl _) hk
    have f1 := hF m n
    have f2 : rnF m n N (-1074) = 0 := by rw [sf]; exact f1
    have f3 : rnF 0 false N (-1074) = 0 := by
      have := rnF_scale 0 false D (E + 1074).toNat E
      rw [show E - ((E + 1074).toNat : Int) = -1074 by omega, ← hN] at this
      rw [this]
      exact hF 0 false
    obtain ⟨b1, b2⟩ := back_uV f2
    obtain ⟨c1, c2⟩ := back_uV f3
    have n0 := (rnP_bd m n N (-1074)).1
    have n1 := (rnP_bd 0 false N (-1074)).1
    have same : rnP m n N (-1074) = rnP 0 false N (-1074) := by
      have h1 := uV_le n1 b1 (Nat.le_of_eq (b2.trans c2.symm))
      have h2 := uV_le n0 c1 (Nat.le_of_eq (c2.trans b2.symm))
      omega
    have mono := rnP_mono (m := 0) (neg := false) (E := -1074) hle
    rw [ob.1] at mono
    rw [← sp]
    exact ⟨f1, same, n0, by rw [same]; exact mono, b2⟩
/-! ### rests -/
/-- the lesser unit; both sizes in it -/
def wlE (a b : Int) : Int := if xp a ≤ xp b then xp a else xp b
def wlU (a b : Int) : Nat := (sg a).toNat * 2 ^ (xp a - wlE a b).toNat
def wlV (a b : Int) : Nat := (sg b).toNat * 2 ^ (xp b - wlE a b).toNat
/-- the rest of the quotient that is cut; whether the nearest quotient is the next one; its rest -/
def rsM (a b : Int) : Nat := wlU a b % wlV a b
def rsB (a b : Int) : Bool := decide (wlV a b < 2 * rsM a b ∨ (2 * rsM a b = wlV a b ∧ wlU a b / wlV a b % 2 = 1))
def rsR (a b : Int) : Nat := if rsB a b = true then wlV a b - rsM a b else rsM a b
theorem wlE_bd (a b : Int) : -1074 ≤ wlE a b ∧ wlE a b ≤ 972 ∧ wlE a b ≤ xp a ∧ wlE a b ≤ xp b ∧ (wlE a b = xp a ∨ wlE a b = xp b) := by
  have h1 := xp_bd a
  have h2 := xp_bd b
  unfold wlE
  split <;> omega
theorem wl_num (a b : Int) : wlU a b * 2 ^ (wlE a b + 1074).toNat = uV a ∧ wlV a b * 2 ^ (wlE a b + 1074).toNat = uV b := by
  obtain ⟨h0, _, h1, h2, _⟩ := wlE_bd a b
  unfold wlU wlV uV szF
  rw [Nat.mul_assoc, Nat.mul_assoc, ← Nat.pow_add, ← Nat.pow_add]
  exact ⟨by congr 2; omega, by congr 2; omega⟩
theorem wlV_pos {a b : Int} (hb : sg b ≠ 0) : 0 < wlV a b := by
  have := sg_lt b
  unfold wlV
  exact Nat.mul_pos (by omega) (Nat.pow_pos (by omega))
theorem rs_bd {a b : Int} (hb : sg b ≠ 0) : rsM a b < wlV a b ∧ rsM a b < 9007199254740992 ∧ rsR a b < 9007199254740992 ∧ 2 * rsR a b ≤ wlV a b := by
  have sa := sg_lt a
  have sb := sg_lt b
  have pv := wlV_pos (a := a) hb
  have h1 : rsM a b < wlV a b := Nat.mod_lt _ pv
  have hU : rsM a b ≤ wlU a b := Nat.mod_le _ _
  have hR : rsR a b ≤ rsM a b ∧ 2 * rsR a b ≤ wlV a b := by
    unfold rsR
    by_cases hB : rsB a b = true
    · rw [if_pos hB]
      have := of_decide_eq_true hB
      omega
    · rw [if_neg hB]
      have : ¬ (wlV a b < 2 * rsM a b ∨ (2 * rsM a b = wlV a b ∧ wlU a b / wlV a b % 2 = 1)) := fun h => hB (decide_eq_true h)
      omega
  have small : rsM a b < 9007199254740992 := by
    obtain ⟨_, _, _, _, h5⟩ := wlE_bd a b
    rcases h5 with h5 | h5
    · have : wlU a b = (sg a).toNat := by unfold wlU; rw [h5, Int.sub_self]; simp
      omega
    · have : wlV a b = (sg b).toNat := by unfold wlV; rw [h5, Int.sub_self]; simp
      omega
  exact ⟨h1, small, by omega, hR.2⟩
/-- the rests' patterns -/
def mdP (a b : Int) : Int := rnP 0 (sgn a) (rsM a b) (wlE a b)
def rmP (a b : Int) : Int := rnP 0 (sgn a != rsB a b) (rsR a b) (wlE a b)
theorem md_num {a b : Int} (hb : sg b ≠ 0) (hf : ex b ≠ 2047) (m : Int) (n : Bool) : rnF m n (rsM a b) (wlE a b) = 0 ∧ rnP m n (rsM a b) (wlE a b) = mdP a b ∧ 0 ≤ mdP a b ∧ mdP a b < mag b ∧ uV (mdP a b) = rsM a b * 2 ^ (wlE a b + 1074).toNat := by
  obtain ⟨h1, h2, _, _⟩ := rs_bd (a := a) hb
  obtain ⟨w1, w2⟩ := wl_num a b
  have hp : 0 < 2 ^ (wlE a b + 1074).toNat := Nat.pow_pos (by omega)
  have hlt : rsM a b * 2 ^ (wlE a b + 1074).toNat < uV b := by rw [← w2]; exact Nat.mul_lt_mul_of_pos_right h1 hp
  have k := few_exact (wlE_bd a b).1 h2 hf (Nat.le_of_lt hlt)
  obtain ⟨a1, a2, a3, a4, a5⟩ := k m n
  obtain ⟨b1, b2, b3, b4, b5⟩ := k 0 (sgn a)
  refine ⟨a1, a2.trans b2.symm, b3, ?_, b5⟩
  rcases Int.lt_or_le (rnP 0 (sgn a) (rsM a b) (wlE a b)) (mag b) with hc | hc
  · exact hc
  · exfalso
    have e : rnP 0 (sgn a) (rsM a b) (wlE a b) = mag b := by omega
    rw [e, uV_mag] at b5
    omega
theorem rm_num {a b : Int} (hb : sg b ≠ 0) (hf : ex b ≠ 2047) (m : Int) (n : Bool) : rnF m n (rsR a b) (wlE a b) = 0 ∧ rnP m n (rsR a b) (wlE a b) = rmP a b ∧ 0 ≤ rmP a b ∧ rmP a b < mag b ∧ 2 * uV (rmP a b) ≤ uV b := by
  obtain ⟨_, _, h3, h4⟩ := rs_bd (a := a) hb
  obtain ⟨w1, w2⟩ := wl_num a b
  have pv := wlV_pos (a := a) hb
  have hp : 0 < 2 ^ (wlE a b + 1074).toNat := Nat.pow_pos (by omega)
  have h2 : 2 * (rsR a b * 2 ^ (wlE a b + 1074).toNat) ≤ uV b := by rw [← w2, ← Nat.mul_assoc]; exact Nat.mul_le_mul_right _ h4
  have hlt : rsR a b * 2 ^ (wlE a b + 1074).toNat < uV b := by
    have : 0 < uV b := by rw [← w2]; exact Nat.mul_pos pv hp
    omega
  have k := few_exact (wlE_bd a b).1 h3 hf (Nat.le_of_lt hlt)
  obtain ⟨a1, a2, a3, a4, a5⟩ := k m n
  obtain ⟨b1, b2, b3, b4, b5⟩ := k 0 (sgn a != rsB a b)
  refine ⟨a1, a2.trans b2.symm, b3, ?_, by unfold rmP; rw [b5]; exact h2⟩
  rcases Int.lt_or_le (rnP 0 (sgn a != rsB a b) (rsR a b) (wlE a b)) (mag b) with hc | hc
  · exact hc
  · exfalso
    have e : rnP 0 (sgn a != rsB a b) (rsR a b) (wlE a b) = mag b := by omega
    rw [e, uV_mag] at b5
    omega
/-- twice the rest of the nearest quotient is not above what was divided by -/
theorem rm_twice {a b : Int} (hb : sg b ≠ 0) (hf : ex b ≠ 2047) : tw2 (rmP a b) ≤ mag b := by
  obtain ⟨_, _, r0, r1, r2⟩ := rm_num (a := a) hb hf 0 false
  have sb := sg_lt b
  have mb := mag_lt2 b
  have fb : mag b < 9218868437227405312 := by
    have : mag b = 4503599627370496 * ex b + fr b := by unfold mag ex fr; omega
    have h1 : 0 ≤ ex b ∧ ex b < 2048 := by unfold ex; omega
    have h2 : 0 ≤ fr b ∧ fr b < 4503599627370496 := by unfold fr; omega
    omega
  have hc : rmP a b < 9214364837600034816 := by
    rcases Int.lt_or_le (rmP a b) 9214364837600034816 with h | h
    · exact h
    · exfalso
      have hx : xp b ≤ 971 := by
        have hx2 : 0 ≤ ex b ∧ ex b < 2048 := by unfold ex; omega
        unfold xp
        rw [if_neg hf]
        split <;> omega
      obtain ⟨j, hj⟩ : ∃ j : Nat, (j : Int) = 2045 := ⟨2045, rfl⟩
      have uc : uV 9214364837600034816 = 4503599627370496 * 2 ^ j := by
        have e1 : xp 9214364837600034816 = 971 := by decide
        have e2 : (sg 9214364837600034816).toNat = 4503599627370496 := by decide
        unfold uV szF
        rw [e1, e2]
        congr 2
        omega
      have ub : uV b < 9007199254740992 * 2 ^ j := by
        unfold uV szF
        have h1 : 2 ^ (xp b - -1074).toNat ≤ 2 ^ j := Nat.pow_le_pow_right (by omega) (by omega)
        have h2 : (sg b).toNat * 2 ^ (xp b - -1074).toNat ≤ (sg b).toNat * 2 ^ j := Nat.mul_le_mul_left _ h1
        have h3 : (sg b).toNat * 2 ^ j < 9007199254740992 * 2 ^ j := Nat.mul_lt_mul_of_pos_right (by omega) (Nat.pow_pos (by omega))
        omega
      have : uV 9214364837600034816 ≤ uV (rmP a b) := by
        rcases Int.lt_or_eq_of_le h with h' | h'
        · exact Nat.le_of_lt (uV_lt (by omega) h' (by omega))
        · rw [h']; exact Nat.le_refl _
      omega
  obtain ⟨t1, t2, t3⟩ := tw2_num r0 hc
  refine uV_le mb.1 t3 ?_
  rw [t1, uV_mag]
  exact r2
/-! ### rounded to a whole number -/
def whQ (m a : Int) : Nat := toQ m (sgn a) (sg a).toNat (xp a) 0
def whP (m a : Int) : Int := if 0 ≤ xp a then mag a else rnP 0 (sgn a) (whQ m a) 0
def whL (a : Int) : Bool := toL (sg a).toNat (xp a) 0
/-- what is cut towards 0 -/
def whC (a : Int) : Nat := (sg a).toNat / 2 ^ (0 - xp a).toNat
theorem whQ_eq {m a : Int} (h : xp a < 0) : whQ m a = whC a + (if gup m (sgn a) (sg a).toNat (xp a) 0 = true then 1 else 0) := by
  have hx : ¬ (0 ≤ xp a) := by omega
  unfold whQ toQ gup whC rq
  rw [if_neg hx, if_neg hx]
theorem wh_sides {a : Int} (h : xp a < 0) : (whL a = false ∧ (∀ m, whQ m a = whC a) ∧ (sg a).toNat = whC a * 2 ^ (0 - xp a).toNat) ∨
    (whL a = true ∧ (∀ m, whQ m a = whC a ∨ whQ m a = whC a + 1) ∧ whQ 3 a = whC a + (if sgn a = true then 0 else 1) ∧ whQ 4 a = whC a + (if sgn a = true then 1 else 0) ∧ whC a * 2 ^ (0 - xp a).toNat < (sg a).toNat ∧ (sg a).toNat < (whC a + 1) * 2 ^ (0 - xp a).toNat) := by
  have dm := Nat.div_add_mod (sg a).toNat (2 ^ (0 - xp a).toNat)
  have hp : 0 < 2 ^ (0 - xp a).toNat := Nat.pow_pos (by omega)
  have ml := Nat.mod_lt (sg a).toNat hp
  have eL : whL a = decide ((sg a).toNat % 2 ^ (0 - xp a).toNat ≠ 0) := by unfold whL toL; rw [if_neg (by omega)]
  have hc : 2 ^ (0 - xp a).toNat * ((sg a).toNat / 2 ^ (0 - xp a).toNat) = whC a * 2 ^ (0 - xp a).toNat := Nat.mul_comm _ _
  rw [hc] at dm
  cases hl : whL a with
  | false =>
    left
    rw [eL] at hl
    have hz : (sg a).toNat % 2 ^ (0 - xp a).toNat = 0 := by simpa using hl
    refine ⟨rfl, fun m => ?_, by omega⟩
    rw [whQ_eq h, gup_lost (by unfold toL; rw [if_neg (by omega)]; exact hl)]
    simp
  | true =>
    right
    have hl' : toL (sg a).toNat (xp a) 0 = true := hl
    obtain ⟨g3, g4, _⟩ := gup_side (neg := sgn a) hl'
    rw [eL] at hl
    have hz : (sg a).toNat % 2 ^ (0 - xp a).toNat ≠ 0 := of_decide_eq_true hl
    refine ⟨rfl, fun m => ?_, ?_, ?_, by omega, ?_⟩
    · rw [whQ_eq h]
      split
      · exact .inr rfl
      · exact .inl rfl
    · rw [whQ_eq h, g3]; cases sgn a <;> rfl
    · rw [whQ_eq h, g4]
    · rw [Nat.add_mul, Nat.one_mul]; omega
theorem whQ_bd {m a : Int} (h : xp a < 0) : whQ m a ≤ 4503599627370496 := by
  have s := sg_lt a
  have hc : whC a ≤ 4503599627370495 := by
    unfold whC
    have e : 2 ^ (0 - xp a).toNat = 2 * 2 ^ ((0 - xp a).toNat - 1) := by rw [← Nat.pow_succ']; congr 1; omega
    rw [e, ← Nat.div_div_eq_div_mul]
    have := Nat.div_le_self ((sg a).toNat / 2) (2 ^ ((0 - xp a).toNat - 1))
    omega
  rw [whQ_eq h]
  split <;> omega
/-- a whole number as a pattern -/
theorem int_num {D j : Nat} (hj : (j : Int) = 1074) (hD : D ≤ 4503599627370496) (m : Int) (n : Bool) : rnF m n D 0 = 0 ∧ rnP m n D 0 = rnP 0 false D 0 ∧ 0 ≤ rnP m n D 0 ∧ rnP m n D 0 ≤ 4845873199050653696 ∧ uV (rnP m n D 0) = D * 2 ^ j := by
  have e1 : xp 4845873199050653696 = 1 := by decide
  have e2 : (sg 4845873199050653696).toNat = 4503599627370496 := by decide
  have ej : ((0 : Int) + 1074).toNat = j := by omega
  have ub : uV 4845873199050653696 = 4503599627370496 * 2 ^ (j + 1) := by
    unfold uV szF
    rw [e1, e2]
    congr 2
    omega
  have hle : D * 2 ^ ((0 : Int) + 1074).toNat ≤ uV 4845873199050653696 := by
    rw [ej, ub, Nat.pow_succ]
    exact Nat.mul_le_mul hD (Nat.le_mul_of_pos_right _ (by omega))
  have k := few_exact (D := D) (E := 0) (by omega) (by omega) (b := 4845873199050653696) (by decide) hle
  obtain ⟨a1, a2, a3, a4, a5⟩ := k m n
  obtain ⟨_, b2, _, _, _⟩ := k 0 false
  rw [ej] at a5
  exact ⟨a1, a2.trans b2.symm, a3, a4, a5⟩
theorem wh_num {m a : Int} {j : Nat} (hj : (j : Int) = 1074) (h : xp a < 0) : uV (whP m a) = whQ m a * 2 ^ j ∧ 0 ≤ whP m a ∧ whP m a ≤ 4845873199050653696 := by
  obtain ⟨_, _, h3, h4, h5⟩ := int_num hj (whQ_bd (m := m) h) 0 (sgn a)
  unfold whP
  rw [if_neg (by omega)]
  exact ⟨h5, h3, h4⟩
/-- a whole number stays -/
theorem wh_stays {m p : Int} {j W : Nat} (hj : (j : Int) = 1074) (hf : ex p ≠ 2047) (hW : uV p = W * 2 ^ j) : whP m p = mag p ∧ (xp p < 0 → whL p = false) := by
  have xb := xp_bd p
  unfold whP
  by_cases h : 0 ≤ xp p
  · rw [if_pos h]
    exact ⟨rfl, fun h' => by omega⟩
  · rw [if_neg h]
    obtain ⟨k, hk⟩ : ∃ k : Nat, k = (0 - xp p).toNat := ⟨_, rfl⟩
    have hs : (sg p).toNat = W * 2 ^ k := by
      unfold uV szF at hW
      have e : 2 ^ j = 2 ^ k * 2 ^ (xp p - -1074).toNat := by rw [← Nat.pow_add]; congr 1; omega
      rw [e, ← Nat.mul_assoc] at hW
      exact Nat.eq_of_mul_eq_mul_right (Nat.pow_pos (by omega)) hW
    have hz : (sg p).toNat % 2 ^ k = 0 := by rw [hs]; exact Nat.mul_mod_left _ _
    have hL : whL p = false := by
      unfold whL toL
      rw [if_neg (by omega), ← hk, hz]
      rfl
    refine ⟨?_, fun _ => hL⟩
    have hq : whQ m p = W := by
      rcases wh_sides (a := p) (by omega) with ⟨_, h2, h3⟩ | ⟨h1, _⟩
      · rw [h2]
        rw [← hk, hs] at h3
        exact (Nat.eq_of_mul_eq_mul_right (Nat.pow_pos (by omega)) h3).symm
      · rw [hL] at h1; cases h1
    rw [hq]
    obtain ⟨o1, _⟩ := own_pat (m := 0) (neg := sgn p) hf
    rw [hs] at o1
    have sp := rnP_scale 0 (sgn p) W k 0
    rw [show (0 : Int) - (k : Int) = xp p by omega] at sp
    rw [← sp]
    exact o1
end Go.Rn
