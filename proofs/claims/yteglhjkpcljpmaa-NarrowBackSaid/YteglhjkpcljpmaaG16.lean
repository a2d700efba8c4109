/-
  PLAIN ARITHMETIC: square roots of whole numbers; the steps that go down to one.
-/
import Derived.Test.YteglhjkpcljpmaaG15
namespace Go.Wd

theorem sq_nonneg' (x : Int) : 0 ≤ x * x := by
  rcases Int.le_total 0 x with h | h
  · exact Int.mul_nonneg h h
  · exact Int.mul_nonneg_of_nonpos_of_nonpos h h
theorem four_le (x z : Int) : 4 * (x * z) ≤ (x + z) * (x + z) := by
  have h := sq_nonneg' (x - z)
  rw [Int.sub_mul, Int.mul_sub, Int.mul_sub, Int.mul_comm z x] at h
  rw [Int.add_mul, Int.mul_add, Int.mul_add, Int.mul_comm z x]
  omega
theorem sq_mono {x y : Int} (h0 : 0 ≤ x) (h : x ≤ y) : x * x ≤ y * y := Int.mul_le_mul h h h0 (by omega)
theorem sq_dbl (x : Int) : 2 * x * (2 * x) = 4 * (x * x) := by
  rw [Int.mul_assoc, Int.mul_left_comm x 2 x]
  omega
theorem sq_suc (x : Int) : (x + 1) * (x + 1) = x * x + 2 * x + 1 := by
  rw [Int.add_mul, Int.mul_add]
  omega
/-- a step is never below the root -/
theorem mid_up {x a : Int} (hx : 1 ≤ x) (ha : 0 ≤ a) : a < ((x + a / x) / 2 + 1) * ((x + a / x) / 2 + 1) := by
  have y0 : 0 ≤ a / x := Int.ediv_nonneg ha (by omega)
  have e := Int.mul_ediv_add_emod a x
  have l := Int.emod_lt_of_pos a (show 0 < x by omega)
  have f := four_le x (a / x + 1)
  have s := sq_mono (x := x + (a / x + 1)) (y := 2 * ((x + a / x) / 2 + 1)) (by omega) (by omega)
  rw [sq_dbl] at s
  rw [Int.mul_add, Int.mul_one] at f
  omega
theorem mid_lim {x a : Int} (hx : 1 ≤ x) (h : a < (x + 1) * (x + 1)) : a / x < x + 3 := by
  apply Int.ediv_lt_of_lt_mul (by omega)
  rw [sq_suc] at h
  rw [Int.add_mul]
  omega
theorem mid_one {x a : Int} (hx : 1 ≤ x) (ha : 1 ≤ a) : 1 ≤ (x + a / x) / 2 := by
  have y0 : 0 ≤ a / x := Int.ediv_nonneg (by omega) (by omega)
  by_cases h : x = 1
  · subst h
    rw [Int.ediv_one]
    omega
  · omega
/-- a step that does not go down: the root is reached -/
theorem mid_end {x a : Int} (hx : 1 ≤ x) (h : x ≤ (x + a / x) / 2) : x * x ≤ a := by
  have e := Int.mul_ediv_add_emod a x
  have l := Int.emod_nonneg a (show x ≠ 0 by omega)
  have m : x * x ≤ x * (a / x) := Int.mul_le_mul_of_nonneg_left (by omega) (by omega)
  omega
/-- one more bit of a root -/
def sqB (n : Nat) : Nat → Nat
  | 0 => if 1 ≤ n then 1 else 0
  | r + 1 => if (r + 2) * (r + 2) ≤ n then r + 2 else r + 1
def isqf : Nat → Nat → Nat
  | 0, _ => 0
  | k + 1, n => sqB n (2 * isqf k (n / 4))
theorem sqB_eq (n r : Nat) : sqB n r = if (r + 1) * (r + 1) ≤ n then r + 1 else r := by
  cases r <;> rfl
theorem isqf_spec (k : Nat) : ∀ n, n < 4 ^ k → isqf k n * isqf k n ≤ n ∧ n < (isqf k n + 1) * (isqf k n + 1) := by
  induction k with
  | zero => intro n h; simp at h; subst h; exact ⟨by decide, by decide⟩
  | succ k ih =>
    intro n h
    obtain ⟨h1, h2⟩ := ih (n / 4) (by rw [Nat.pow_succ] at h; omega)
    show sqB n (2 * isqf k (n / 4)) * sqB n (2 * isqf k (n / 4)) ≤ n ∧ n < (sqB n (2 * isqf k (n / 4)) + 1) * (sqB n (2 * isqf k (n / 4)) + 1)
    rw [sqB_eq]
    generalize isqf k (n / 4) = r at *
    have e1 : 2 * r * (2 * r) = 4 * (r * r) := by rw [Nat.mul_assoc, Nat.mul_left_comm r 2 r]; omega
    have e2 : (r + 1) * (r + 1) = r * r + 2 * r + 1 := by rw [Nat.add_mul, Nat.mul_add]; omega
    have e3 : (2 * r + 1) * (2 * r + 1) = 4 * (r * r) + 4 * r + 1 := by rw [Nat.add_mul, Nat.mul_add, e1]; omega
    have e4 : (2 * r + 1 + 1) * (2 * r + 1 + 1) = 4 * (r * r) + 8 * r + 4 := by rw [Nat.add_mul, Nat.mul_add, e3]; omega
    split
    · rename_i h
      exact ⟨h, by omega⟩
    · exact ⟨by omega, by omega⟩
def isq (n : Nat) : Nat := isqf 128 n
theorem isq_spec {n : Nat} (h : n < 115792089237316195423570985008687907853269984665640564039457584007913129639936) : isq n * isq n ≤ n ∧ n < (isq n + 1) * (isq n + 1) := isqf_spec 128 n (by have : (4 : Nat) ^ 128 = 115792089237316195423570985008687907853269984665640564039457584007913129639936 := rfl; omega)
theorem isq_one {n : Nat} {x : Int} (hn : n < 115792089237316195423570985008687907853269984665640564039457584007913129639936) (h0 : 0 ≤ x) (h1 : x * x ≤ n) (h2 : (n : Int) < (x + 1) * (x + 1)) : x = (isq n : Nat) := by
  obtain ⟨s1, s2⟩ := isq_spec hn
  have s1 : ((isq n : Nat) : Int) * (isq n : Nat) ≤ n := by exact_mod_cast s1
  have s2 : (n : Int) < ((isq n : Nat) + 1) * ((isq n : Nat) + 1) := by exact_mod_cast s2
  rcases Int.lt_trichotomy x (isq n : Nat) with h | h | h
  · have := sq_mono (x := x + 1) (y := (isq n : Nat)) (by omega) (by omega)
    omega
  · exact h
  · have := sq_mono (x := ((isq n : Nat) : Int) + 1) (y := x) (by omega) (by omega)
    omega
end Go.Wd

/-
  PLAIN ARITHMETIC: quotients of patterns' numbers, and their roots, rounded.
-/
namespace Go.Rn
open Go.Nt Go.Wd Go.Pt

/-- a number's quotient, with a last bit for what is left -/
def dvK (A B k : Nat) : Nat := 2 * (A * 2 ^ k / B) + (if A * 2 ^ k % B = 0 then 0 else 1)
theorem mod_scale {A B : Nat} (k : Nat) : A * 2 ^ k % (B * 2 ^ k) = A % B * 2 ^ k := Nat.mul_mod_mul_right (2 ^ k) A B
theorem dvK_div (A B k j : Nat) : dvK A B (k + j) / 2 ^ (j + 1) = A * 2 ^ k / B := by
  have hp : 0 < 2 ^ j := Nat.pow_pos (by omega)
  have e1 : A * 2 ^ (k + j) / B / 2 ^ j = A * 2 ^ k / B := by
    rw [Nat.div_div_eq_div_mul, Nat.pow_add, ← Nat.mul_assoc, Nat.mul_div_mul_right _ _ hp]
  have : dvK A B (k + j) / 2 = A * 2 ^ (k + j) / B := by unfold dvK; split <;> omega
  rw [Nat.pow_succ, Nat.mul_comm (2 ^ j) 2, ← Nat.div_div_eq_div_mul, this, e1]
theorem dvK_stk (A B k j : Nat) : stk (dvK A B (k + j)) (j + 1) = dvK A B k := by
  have hp : 0 < 2 ^ j := Nat.pow_pos (by omega)
  have e1 : A * 2 ^ (k + j) / B / 2 ^ j = A * 2 ^ k / B := by
    rw [Nat.div_div_eq_div_mul, Nat.pow_add, ← Nat.mul_assoc, Nat.mul_div_mul_right _ _ hp]
  have e2 := dvK_div A B k j
  have e3 : dvK A B (k + j) % 2 ^ (j + 1) = 0 ↔ A * 2 ^ k % B = 0 := by
    have d2 : dvK A B (k + j) / 2 = A * 2 ^ (k + j) / B := by unfold dvK; split <;> omega
    have m2 : dvK A B (k + j) % 2 = if A * 2 ^ (k + j) % B = 0 then 0 else 1 := by unfold dvK; split <;> omega
    rw [Nat.pow_succ, Nat.mul_comm (2 ^ j) 2, Nat.mod_mul, d2, m2]
    have e : A * 2 ^ (k + j) % B + B * (A * 2 ^ (k + j) / B % 2 ^ j) = A * 2 ^ k % B * 2 ^ j := by
      rw [← Nat.mod_mul, ← mod_scale, Nat.mul_assoc, ← Nat.pow_add]
    constructor
    · intro h
      have h1 : A * 2 ^ (k + j) % B = 0 := by
        by_cases h0 : A * 2 ^ (k + j) % B = 0
        · exact h0
        · rw [if_neg h0] at h; omega
      have h2 : A * 2 ^ (k + j) / B % 2 ^ j = 0 := by omega
      rw [h1, h2, Nat.mul_zero] at e
      rcases Nat.mul_eq_zero.1 e.symm with h3 | h3
      · exact h3
      · omega
    · intro h
      rw [h, Nat.zero_mul] at e
      have h1 : A * 2 ^ (k + j) % B = 0 := by omega
      rw [if_pos h1]
      rcases Nat.mul_eq_zero.1 (show B * (A * 2 ^ (k + j) / B % 2 ^ j) = 0 by omega) with h2 | h2
      · rw [h2, Nat.div_zero, Nat.zero_mod]
      · rw [h2]
  unfold stk
  rw [e2]
  by_cases h : A * 2 ^ k % B = 0
  · rw [if_pos (e3.2 h)]; unfold dvK; rw [if_pos h]
  · rw [if_neg (fun h' => h (e3.1 h'))]; unfold dvK; rw [if_neg h]
theorem dvK_len {A B k : Nat} (hA : A ≠ 0) (hB : B ≠ 0) (h : B < 9007199254740992) (hk : 106 ≤ k) : 54 ≤ bitLen (A * 2 ^ k / B) := by
  refine le_len (k := 53) ?_
  rw [Nat.le_div_iff_mul_le (by omega)]
  have h1 : 2 ^ 106 ≤ 2 ^ k := Nat.pow_le_pow_right (by omega) hk
  have h2 : 2 ^ k ≤ A * 2 ^ k := Nat.le_mul_of_pos_left _ (by omega)
  have h3 : 2 ^ 53 * B ≤ 2 ^ 53 * 2 ^ 53 := Nat.mul_le_mul_left _ (by omega)
  rw [← Nat.pow_add] at h3
  exact Nat.le_trans h3 (Nat.le_trans h1 h2)
/-- a quotient with fewer bits is rounded the same -/
theorem dvK_round {m E : Int} {n : Bool} {A B k j : Nat} (hB : B ≠ 0) (h : B < 9007199254740992) (hk : 106 ≤ k) : rnP m n (dvK A B k) (E + j) = rnP m n (dvK A B (k + j)) E ∧ rnF m n (dvK A B k) (E + j) = rnF m n (dvK A B (k + j)) E := by
  have r := stk_round (m := m) (neg := n) (A := dvK A B (k + j)) (d := j + 1) (F := E) (by
    by_cases hA : A = 0
    · left; subst hA; unfold dvK; simp
    · right
      rw [dvK_div]
      exact dvK_len hA hB h hk)
  rw [dvK_stk, show E + ((j + 1 : Nat) : Int) - 1 = E + (j : Int) by omega] at r
  exact r
/-- a quotient's size, its power; rounded -/
def dvT (a b : Int) : Nat := dvK (sg a).toNat (sg b).toNat 128
def dvE (a b : Int) : Int := xp a - xp b - 129
def dvP (m a b : Int) : Int := rnP m (prN a b) (dvT a b) (dvE a b)
def dvF (m a b : Int) : Int := rnF m (prN a b) (dvT a b) (dvE a b)
theorem dv_bd (m a b : Int) : 0 ≤ dvP m a b ∧ dvP m a b ≤ 9218868437227405312 := rnP_bd _ _ _ _
theorem dvE_bd (a b : Int) : -2175 ≤ dvE a b ∧ dvE a b ≤ 1917 := by
  have h1 := xp_bd a
  have h2 := xp_bd b
  unfold dvE
  omega
/-- the document's quotient -/
theorem dv_doc {m a b : Int} (hb : sg b ≠ 0) : rnP m (prN a b) (dvK (sg a).toNat (sg b).toNat 120) (xp a - xp b - 121) = dvP m a b ∧ rnF m (prN a b) (dvK (sg a).toNat (sg b).toNat 120) (xp a - xp b - 121) = dvF m a b := by
  have h := sg_lt b
  have r := dvK_round (m := m) (E := dvE a b) (n := prN a b) (A := (sg a).toNat) (B := (sg b).toNat) (k := 120) (j := 8) (by omega) (by omega) (by omega)
  rw [show dvE a b + ((8 : Nat) : Int) = xp a - xp b - 121 by unfold dvE; omega] at r
  exact r
/-- a quotient that needs no rest -/
theorem dvK_mul {A B C k : Nat} (hB : B ≠ 0) (h : A * 2 ^ k = C * B) : dvK A B k = C * 2 ^ 1 := by
  unfold dvK
  rw [h, Nat.mul_div_cancel _ (by omega), Nat.mul_mod_left, if_pos rfl]
  omega
theorem dv_one {m a : Int} (hf : ex a ≠ 2047) : prN a 4607182418800017408 = sgn a ∧ dvP m a 4607182418800017408 = mag a ∧ dvF m a 4607182418800017408 = 0 := by
  obtain ⟨o1, o2, o3⟩ := one_num
  have hn : prN a 4607182418800017408 = sgn a := by unfold prN; rw [o1]; cases sgn a <;> rfl
  have hv : dvT a 4607182418800017408 = (sg a).toNat * 2 ^ 77 := by
    unfold dvT
    rw [o3, dvK_mul (C := (sg a).toNat * 2 ^ 76) (by decide) (by rw [Nat.mul_assoc]; rfl), Nat.mul_assoc]
  have he : dvE a 4607182418800017408 = xp a - ((77 : Nat) : Int) := by unfold dvE; rw [o2]; omega
  obtain ⟨q1, q2⟩ := own_pat (m := m) (neg := sgn a) hf
  unfold dvP dvF
  rw [hn, hv, he, rnP_scale, rnF_scale, q1, q2]
  exact ⟨rfl, rfl, rfl⟩
theorem prN_self (a : Int) : prN a a = false := by unfold prN; cases sgn a <;> rfl
theorem dv_self {m a : Int} (h : sg a ≠ 0) : prN a a = false ∧ dvP m a a = 4607182418800017408 ∧ dvF m a a = 0 := by
  have h0 := sg_lt a
  have hv : dvT a a = 4503599627370496 * 2 ^ 77 := by
    unfold dvT
    rw [dvK_mul (C := 2 ^ 128) (by omega) (Nat.mul_comm _ _)]
  have he : dvE a a = -52 - ((77 : Nat) : Int) := by unfold dvE; omega
  obtain ⟨o1, o2, o3⟩ := one_num
  obtain ⟨q1, q2⟩ := own_pat (m := m) (neg := false) (p := 4607182418800017408) (by decide)
  rw [o2, o3] at q1 q2
  unfold dvP dvF
  rw [prN_self, hv, he, rnP_scale, rnF_scale]
  exact ⟨rfl, q1, q2⟩
theorem prN_ng2 {b : Int} (hb : U b) (a : Int) : prN a (ng b) = !prN a b := by rw [prN_comm, prN_ng hb, prN_comm]
theorem dv_ng {m b : Int} (hb : U b) (a : Int) : dvP (swM m) a (ng b) = dvP m a b ∧ dvF (swM m) a (ng b) = dvF m a b := by
  obtain ⟨e1, e2, _⟩ := ng_num hb
  have eT : dvT a (ng b) = dvT a b := by unfold dvT; rw [e2]
  have eE : dvE a (ng b) = dvE a b := by unfold dvE; rw [e1]
  unfold dvP dvF
  rw [prN_ng2 hb, eT, eE, rnP_swM, rnF_swM]
  exact ⟨rfl, rfl⟩

/-! ### roots -/
/-- a number's root, with a last bit for what is left -/
def rtK (X : Nat) : Nat := 2 * isq X + (if isq X * isq X = X then 0 else 1)
def lim : Nat := 115792089237316195423570985008687907853269984665640564039457584007913129639936
theorem isq_uniq {X r : Nat} (hX : X < lim) (h1 : r * r ≤ X) (h2 : X < (r + 1) * (r + 1)) : isq X = r := by
  have h1 : (r : Int) * r ≤ X := by exact_mod_cast h1
  have h2 : (X : Int) < ((r : Int) + 1) * ((r : Int) + 1) := by exact_mod_cast h2
  have := isq_one hX (x := r) (by omega) h1 h2
  omega
theorem sq_four (r j : Nat) : r * 2 ^ j * (r * 2 ^ j) = r * r * 4 ^ j := by
  rw [show (4 : Nat) = 2 * 2 from rfl, Nat.mul_pow, Nat.mul_mul_mul_comm]
theorem isq_cut {X : Nat} (j : Nat) (h : X * 4 ^ j < lim) : isq (X * 4 ^ j) / 2 ^ j = isq X := by
  have hp : 0 < 2 ^ j := Nat.pow_pos (by omega)
  have hq : 0 < 4 ^ j := Nat.pow_pos (by omega)
  have hX : X < lim := Nat.lt_of_le_of_lt (Nat.le_mul_of_pos_right X hq) h
  obtain ⟨s1, s2⟩ := isq_spec h
  generalize isq (X * 4 ^ j) = r at *
  refine (isq_uniq hX ?_ ?_).symm
  · have h1 : r / 2 ^ j * 2 ^ j ≤ r := Nat.div_mul_le_self r _
    have h2 := Nat.mul_le_mul h1 h1
    rw [sq_four] at h2
    exact Nat.le_of_mul_le_mul_right (Nat.le_trans h2 s1) hq
  · have h1 : r + 1 ≤ (r / 2 ^ j + 1) * 2 ^ j := by
      have := Nat.lt_mul_div_succ r hp
      rw [Nat.mul_comm] at this
      exact this
    have h2 := Nat.mul_le_mul h1 h1
    rw [sq_four] at h2
    exact Nat.lt_of_mul_lt_mul_right (Nat.lt_of_lt_of_le s2 h2)
theorem isq_sq {r : Nat} (h : r * r < lim) : isq (r * r) = r := isq_uniq h (Nat.le_refl _) (by rw [Nat.add_mul, Nat.mul_add]; omega)
theorem rtK_stk {X : Nat} (j : Nat) (h : X * 4 ^ j < lim) : stk (rtK (X * 4 ^ j)) (j + 1) = rtK X := by
  have hp : 0 < 2 ^ j := Nat.pow_pos (by omega)
  have hq : 0 < 4 ^ j := Nat.pow_pos (by omega)
  have e1 := isq_cut j h
  have d2 : rtK (X * 4 ^ j) / 2 = isq (X * 4 ^ j) := by unfold rtK; split <;> omega
  have m2 : rtK (X * 4 ^ j) % 2 = if isq (X * 4 ^ j) * isq (X * 4 ^ j) = X * 4 ^ j then 0 else 1 := by unfold rtK; split <;> omega
  have e2 : rtK (X * 4 ^ j) / 2 ^ (j + 1) = isq X := by rw [Nat.pow_succ, Nat.mul_comm (2 ^ j) 2, ← Nat.div_div_eq_div_mul, d2, e1]
  have e3 : rtK (X * 4 ^ j) % 2 ^ (j + 1) = 0 ↔ isq X * isq X = X := by
    rw [Nat.pow_succ, Nat.mul_comm (2 ^ j) 2, Nat.mod_mul, d2, m2]
    constructor
    · intro h0
      have h1 : isq (X * 4 ^ j) * isq (X * 4 ^ j) = X * 4 ^ j := by
        by_cases h1 : isq (X * 4 ^ j) * isq (X * 4 ^ j) = X * 4 ^ j
        · exact h1
        · rw [if_neg h1] at h0; omega
      have h2 : isq (X * 4 ^ j) % 2 ^ j = 0 := by omega
      have h3 : isq X * 2 ^ j = isq (X * 4 ^ j) := by
        have := Nat.div_add_mod (isq (X * 4 ^ j)) (2 ^ j)
        rw [e1, h2, Nat.mul_comm] at this
        omega
      rw [← h3, sq_four] at h1
      exact Nat.eq_of_mul_eq_mul_right hq h1
    · intro h0
      have h3 : isq (X * 4 ^ j) = isq X * 2 ^ j := by
        have : isq X * 2 ^ j * (isq X * 2 ^ j) = X * 4 ^ j := by rw [sq_four, h0]
        rw [← this]
        exact isq_sq (by rw [this]; exact h)
      have h4 : isq (X * 4 ^ j) * isq (X * 4 ^ j) = X * 4 ^ j := by rw [h3, sq_four, h0]
      rw [if_pos h4, h3, Nat.mul_mod_left]
  unfold stk
  rw [e2]
  by_cases h0 : isq X * isq X = X
  · rw [if_pos (e3.2 h0)]; unfold rtK; rw [if_pos h0]
  · rw [if_neg (fun h' => h0 (e3.1 h'))]; unfold rtK; rw [if_neg h0]
theorem rtK_round {m E : Int} {n : Bool} {X j : Nat} (h : X * 4 ^ j < lim) (h0 : 2 ^ 106 ≤ X) : rnP m n (rtK X) (E + j) = rnP m n (rtK (X * 4 ^ j)) E ∧ rnF m n (rtK X) (E + j) = rnF m n (rtK (X * 4 ^ j)) E := by
  have hq : 0 < 4 ^ j := Nat.pow_pos (by omega)
  have hX : X < lim := Nat.lt_of_le_of_lt (Nat.le_mul_of_pos_right X hq) h
  have r := stk_round (m := m) (neg := n) (A := rtK (X * 4 ^ j)) (d := j + 1) (F := E) (.inr (by
    have d2 : rtK (X * 4 ^ j) / 2 = isq (X * 4 ^ j) := by unfold rtK; split <;> omega
    rw [Nat.pow_succ, Nat.mul_comm (2 ^ j) 2, ← Nat.div_div_eq_div_mul, d2, isq_cut j h]
    refine le_len (k := 53) ?_
    obtain ⟨_, s2⟩ := isq_spec hX
    rcases Nat.lt_or_ge (isq X) (2 ^ 53) with hl | hl
    · have := Nat.mul_le_mul hl hl
      rw [← Nat.pow_add] at this
      have h1 := Nat.lt_of_lt_of_le s2 this
      omega
    · exact hl))
  rw [rtK_stk j h, show E + ((j + 1 : Nat) : Int) - 1 = E + (j : Int) by omega] at r
  exact r
/-- what a root is found of; its power; rounded -/
def rtU (a : Int) : Nat := 128 + (xp a % 2).toNat
def rtX (a : Int) : Nat := (sg a).toNat * 2 ^ rtU a
def rtE (a : Int) : Int := (xp a - rtU a) / 2 - 1
def rtP (m a : Int) : Int := rnP m false (rtK (rtX a)) (rtE a)
def rtF (m a : Int) : Int := rnF m false (rtK (rtX a)) (rtE a)
theorem rt_bd (m a : Int) : 0 ≤ rtP m a ∧ rtP m a ≤ 9218868437227405312 := rnP_bd _ _ _ _
theorem rtU_bd (a : Int) : 128 ≤ rtU a ∧ rtU a ≤ 129 := by unfold rtU; omega
theorem rtX_lt (a : Int) (j : Nat) (hj : j ≤ 12) : rtX a * 2 ^ j < 2 ^ 194 := by
  have h := sg_lt a
  have u := rtU_bd a
  unfold rtX
  rw [Nat.mul_assoc, ← Nat.pow_add]
  have h1 : 2 ^ (rtU a + j) ≤ 2 ^ 141 := Nat.pow_le_pow_right (by omega) (by omega)
  have h2 : (sg a).toNat * 2 ^ (rtU a + j) ≤ 9007199254740991 * 2 ^ 141 := Nat.mul_le_mul (by omega) h1
  exact Nat.lt_of_le_of_lt h2 (by decide)
theorem rtX_ge {a : Int} (h : sg a ≠ 0) : 2 ^ 106 ≤ rtX a := by
  have h0 := sg_lt a
  have u := rtU_bd a
  unfold rtX
  exact Nat.le_trans (Nat.pow_le_pow_right (by omega) (show 106 ≤ rtU a by omega)) (Nat.le_mul_of_pos_left _ (by omega))
/-- the document's root -/
theorem rt_doc {m a : Int} (h : sg a ≠ 0) : rnP m false (rtK (rtX a * 2 ^ 12)) (rtE a - 6) = rtP m a ∧ rnF m false (rtK (rtX a * 2 ^ 12)) (rtE a - 6) = rtF m a := by
  have hl : rtX a * 4 ^ 6 < lim := Nat.lt_trans (rtX_lt a 12 (by omega)) (by decide)
  have r := rtK_round (m := m) (E := rtE a - 6) (n := false) (X := rtX a) (j := 6) hl (rtX_ge h)
  rw [show rtE a - 6 + ((6 : Nat) : Int) = rtE a by omega] at r
  exact ⟨r.1.symm, r.2.symm⟩
end Go.Rn

/-
  PLAIN ARITHMETIC: the root of a square that needs no rounding; a root by Down and Up.
-/
namespace Go.Rn
open Go.Nt Go.Wd Go.Pt

/-- a product without flags, as a number: in units of 2^-2148 -/
theorem ml_exact {m : Int} {n : Bool} {T : Nat} {E : Int} {j : Nat} (hj : (j : Int) = 1074) (hT : T ≠ 0) (hE : -2148 ≤ E) (h : rnF m n T E = 0) : uV (rnP m n T E) * 2 ^ j = T * 2 ^ (E + 2148).toNat ∧ rnP m n T E < 9218868437227405312 := by
  obtain ⟨h1, h2, h3, h4⟩ := rn_num hT (.inl h)
  have hl := h4.1 h
  refine ⟨?_, by omega⟩
  rw [h3]
  have hge := lowE_ge T E
  generalize lowE T E = e at *
  unfold toL at hl
  unfold toQ
  by_cases he : e ≤ E
  · rw [if_pos he, Nat.mul_assoc, Nat.mul_assoc, ← Nat.pow_add, ← Nat.pow_add]
    congr 2
    omega
  · rw [if_neg he] at hl ⊢
    have hz : T % 2 ^ (e - E).toNat = 0 := by simpa using hl
    rw [rq_exact hz]
    have hd := Nat.div_add_mod T (2 ^ (e - E).toNat)
    rw [hz, Nat.add_zero] at hd
    have ee : 2 ^ (e + 1074).toNat * 2 ^ j = 2 ^ (e - E).toNat * 2 ^ (E + 2148).toNat := by
      rw [← Nat.pow_add, ← Nat.pow_add]
      congr 1
      omega
    rw [Nat.mul_assoc, ee, ← Nat.mul_assoc, Nat.mul_comm _ (2 ^ (e - E).toNat), hd]
/-- the root of a square -/
theorem rt_square {m a s : Int} {j : Nat} (hj : (j : Int) = 1074) (hf : ex a ≠ 2047) (hs : sg s ≠ 0) (h : uV s * 2 ^ j = prV a a * 2 ^ (prE a a + 2148).toNat) : rtP m s = mag a ∧ rtF m s = 0 := by
  have hA := sg_lt a
  have hS := sg_lt s
  have xa := xp_bd a
  have xs := xp_bd s
  have uU := rtU_bd s
  have ev : (xp s - rtU s) % 2 = 0 := by unfold rtU; omega
  unfold uV szF prV prE at h
  obtain ⟨S, eS⟩ : ∃ S, S = (sg s).toNat := ⟨_, rfl⟩
  obtain ⟨A, eA⟩ : ∃ A, A = (sg a).toNat := ⟨_, rfl⟩
  rw [← eS, ← eA] at h
  obtain ⟨x, ex⟩ : ∃ x : Nat, x = (xp s - -1074).toNat + j := ⟨_, rfl⟩
  obtain ⟨y, ey⟩ : ∃ y : Nat, y = (xp a + xp a + 2148).toNat := ⟨_, rfl⟩
  rw [Nat.mul_assoc, ← Nat.pow_add, ← ex, ← ey] at h
  have hA2 : A * A < 2 ^ 106 := by
    have := Nat.mul_le_mul (show A ≤ 9007199254740991 by omega) (show A ≤ 9007199254740991 by omega)
    exact Nat.lt_of_le_of_lt this (by decide)
  have hxy : x ≤ y + 105 := by
    rcases Nat.lt_or_ge (y + 105) x with hc | hc
    · exfalso
      have e1 : x = (x - y) + y := by omega
      rw [e1, Nat.pow_add, ← Nat.mul_assoc] at h
      have e2 := Nat.eq_of_mul_eq_mul_right (Nat.pow_pos (by omega)) h
      have h1 : 2 ^ 106 ≤ 2 ^ (x - y) := Nat.pow_le_pow_right (by omega) (by omega)
      have h2 : 2 ^ (x - y) ≤ S * 2 ^ (x - y) := Nat.le_mul_of_pos_left _ (by omega)
      omega
    · exact hc
  obtain ⟨k, hk⟩ : ∃ k : Nat, y + rtU s = x + (k + k) := ⟨(y + rtU s - x) / 2, by omega⟩
  have hX : rtX s = A * 2 ^ k * (A * 2 ^ k) := by
    unfold rtX
    rw [← eS]
    refine Nat.eq_of_mul_eq_mul_right (show 0 < 2 ^ x from Nat.pow_pos (by omega)) ?_
    rw [Nat.mul_mul_mul_comm, Nat.mul_right_comm, h, Nat.mul_assoc (A * A), ← Nat.pow_add, ← Nat.pow_add, Nat.mul_assoc (A * A), ← Nat.pow_add]
    congr 2
    omega
  have hlim : A * 2 ^ k * (A * 2 ^ k) < lim := by
    rw [← hX]
    exact Nat.lt_trans (Nat.lt_of_le_of_lt (Nat.le_mul_of_pos_right _ (by decide)) (rtX_lt s 0 (by omega))) (by decide)
  have hK : rtK (rtX s) = A * 2 ^ (k + 1) := by
    unfold rtK
    rw [hX, isq_sq hlim, if_pos rfl, Nat.pow_succ, Nat.add_zero, Nat.mul_comm 2, Nat.mul_assoc]
  have hE : rtE s = xp a - ((k + 1 : Nat) : Int) := by unfold rtE; omega
  obtain ⟨q1, q2⟩ := own_pat (m := m) (neg := false) hf
  unfold rtP rtF
  rw [hK, hE, rnP_scale, rnF_scale, eA, q1, q2]
  exact ⟨rfl, rfl⟩
theorem rtK_bd {a : Int} (h : sg a ≠ 0) : 66 ≤ bitLen (rtK (rtX a)) ∧ bitLen (rtK (rtX a)) ≤ 98 := by
  have h0 := sg_lt a
  have u := rtU_bd a
  have x1 : rtX a < 2 ^ 194 := Nat.lt_of_le_of_lt (Nat.le_mul_of_pos_right _ (by decide)) (rtX_lt a 0 (by omega))
  have x0 : 2 ^ 128 ≤ rtX a := by
    unfold rtX
    exact Nat.le_trans (Nat.pow_le_pow_right (by omega) u.1) (Nat.le_mul_of_pos_left _ (by omega))
  obtain ⟨s1, s2⟩ := isq_spec (n := rtX a) (Nat.lt_trans x1 (by decide))
  have r0 : 2 ^ 64 ≤ isq (rtX a) := by
    rcases Nat.lt_or_ge (isq (rtX a)) (2 ^ 64) with hc | hc
    · have := Nat.mul_le_mul hc hc
      rw [← Nat.pow_add] at this
      have h1 := Nat.lt_of_lt_of_le s2 this
      omega
    · exact hc
  have r1 : isq (rtX a) < 2 ^ 97 := by
    rcases Nat.lt_or_ge (isq (rtX a)) (2 ^ 97) with hc | hc
    · exact hc
    · have := Nat.mul_le_mul hc hc
      rw [← Nat.pow_add] at this
      have h1 := Nat.le_trans this s1
      omega
  refine ⟨le_len (k := 65) ?_, len_le (k := 98) ?_⟩
  · unfold rtK
    split <;> omega
  · unfold rtK
    split <;> omega
/-- a root by Down and Up -/
theorem rt_sides {a : Int} (h : sg a ≠ 0) : (rtP 3 a = rtP 4 a ∧ rtF 3 a = 0 ∧ rtF 4 a = 0) ∨ (rtP 3 a = rtP 4 a + 1 ∧ rtF 3 a = 16 ∧ rtF 4 a = 16) := by
  obtain ⟨b1, b2⟩ := rtK_bd h
  have u := rtU_bd a
  have xa := xp_bd a
  have hE : -605 ≤ rtE a ∧ rtE a ≤ 425 := by unfold rtE; omega
  have hT : rtK (rtX a) ≠ 0 := fun h0 => by rw [h0] at b1; simp [bitLen] at b1
  have hlg : -540 ≤ lgN (rtK (rtX a)) (rtE a) ∧ lgN (rtK (rtX a)) (rtE a) ≤ 522 := by unfold lgN; omega
  have hlo : lowE (rtK (rtX a)) (rtE a) ≤ 470 := by unfold lowE; split <;> omega
  have hF : ∀ m, rnF m false (rtK (rtX a)) (rtE a) = 0 ∨ rnF m false (rtK (rtX a)) (rtE a) = 16 := by
    intro m
    have hq := low_hi m false (rtK (rtX a)) (rtE a)
    have hp : p0 m false (rtK (rtX a)) (rtE a) < 9218868437227405312 := by unfold p0; omega
    have ht : tiny m false (rtK (rtX a)) (rtE a) = false := by
      unfold tiny
      rw [if_neg (by omega)]
      exact decide_eq_false (by omega)
    unfold rnF
    rw [if_neg hT, if_neg (by omega), ht]
    split
    · exact .inr rfl
    · exact .inl rfl
  unfold rtP rtF
  cases hi : inex (rtK (rtX a)) (rtE a) with
  | false =>
    left
    obtain ⟨p3, f3⟩ := exact_of (m := 3) (neg := false) hi
    obtain ⟨p4, f4⟩ := exact_of (m := 4) (neg := false) hi
    exact ⟨by rw [p3, p4], f3, f4⟩
  | true =>
    right
    obtain ⟨p3, p4⟩ := inex_side (neg := false) hi
    have f3 := inex_F (m := 3) (neg := false) hi
    have f4 := inex_F (m := 4) (neg := false) hi
    have g3 := hF 3
    have g4 := hF 4
    refine ⟨?_, by omega, by omega⟩
    rw [p3, p4]
    simp
end Go.Rn
