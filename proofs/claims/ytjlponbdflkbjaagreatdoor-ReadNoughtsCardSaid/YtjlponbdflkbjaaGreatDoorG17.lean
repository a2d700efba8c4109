/-
  NumRe, NumRj, NumRf, NumRg, NumRk
-/
import Derived.Test.YtjlponbdflkbjaaGreatDoorG16
import Derived.Lib.Bytealg
namespace Go.Rd
open Go.Rn
/-- a quotient with more bits is rounded the same -/
theorem dvK_more {m E : Int} {n : Bool} {A B k : Nat} (j : Nat) (h : 54 ≤ bitLen (A * 2 ^ k / B)) : rnP m n (dvK A B k) (E + j) = rnP m n (dvK A B (k + j)) E ∧ rnF m n (dvK A B k) (E + j) = rnF m n (dvK A B (k + j)) E := by
  have r := stk_round (m := m) (neg := n) (A := dvK A B (k + j)) (d := j + 1) (F := E) (.inr (by rw [dvK_div]; exact h))
  rw [dvK_stk, show E + ((j + 1 : Nat) : Int) - 1 = E + (j : Int) by omega] at r
  exact r
/-- any two with bits enough -/
theorem dvK_any {m : Int} {n : Bool} {A B k j : Nat} (h : 54 ≤ bitLen (A * 2 ^ k / B)) (h' : 54 ≤ bitLen (A * 2 ^ j / B)) : rnP m n (dvK A B k) (-(k : Int) - 1) = rnP m n (dvK A B j) (-(j : Int) - 1) ∧ rnF m n (dvK A B k) (-(k : Int) - 1) = rnF m n (dvK A B j) (-(j : Int) - 1) := by
  rcases Nat.le_total k j with hk | hk
  · have r := dvK_more (m := m) (n := n) (E := -(j : Int) - 1) (j - k) h
    rw [show k + (j - k) = j by omega, show -(j : Int) - 1 + ((j - k : Nat) : Int) = -(k : Int) - 1 by omega] at r
    exact r
  · have r := dvK_more (m := m) (n := n) (E := -(k : Int) - 1) (k - j) h'
    rw [show j + (k - j) = k by omega, show -(k : Int) - 1 + ((k - j : Nat) : Int) = -(j : Int) - 1 by omega] at r
    exact ⟨r.1.symm, r.2.symm⟩
theorem upN_bits {A B : Nat} (hA : A ≠ 0) (hB : B ≠ 0) : 80 ≤ bitLen (A * 2 ^ upN A B / B) := by
  refine le_len (k := 79) ?_
  rw [Nat.le_div_iff_mul_le (by omega)]
  exact up_big hA
/-- A / B, rounded: the pattern, the flags -/
def rqP (m : Int) (n : Bool) (A B : Nat) : Int := rnP m n (dvK A B (upN A B)) (-((upN A B : Nat) : Int) - 1)
def rqF (m : Int) (n : Bool) (A B : Nat) : Int := rnF m n (dvK A B (upN A B)) (-((upN A B : Nat) : Int) - 1)
/-- any quotient with bits enough is rounded so -/
theorem rq_any {m : Int} {n : Bool} {A B k : Nat} (hA : A ≠ 0) (hB : B ≠ 0) (h : 54 ≤ bitLen (A * 2 ^ k / B)) : rnP m n (dvK A B k) (-(k : Int) - 1) = rqP m n A B ∧ rnF m n (dvK A B k) (-(k : Int) - 1) = rqF m n A B :=
  dvK_any h (Nat.le_trans (by omega) (upN_bits hA hB))
theorem dvK_scale {A B c : Nat} (hc : 0 < c) (k : Nat) : dvK (A * c) (B * c) k = dvK A B k := by
  unfold dvK
  have e : A * c * 2 ^ k = A * 2 ^ k * c := by rw [Nat.mul_assoc, Nat.mul_comm c, ← Nat.mul_assoc]
  rw [e, Nat.mul_div_mul_right _ _ hc, Nat.mul_mod_mul_right]
  by_cases h : A * 2 ^ k % B = 0
  · rw [if_pos h, if_pos (by rw [h, Nat.zero_mul])]
  · rw [if_neg h, if_neg (fun h' => h ((Nat.mul_eq_zero.1 h').resolve_right (by omega)))]
theorem rqd_scale {m : Int} {n : Bool} {A B c : Nat} (hA : A ≠ 0) (hB : B ≠ 0) (hc : 0 < c) : rqP m n (A * c) (B * c) = rqP m n A B ∧ rqF m n (A * c) (B * c) = rqF m n A B := by
  have hA' : A * c ≠ 0 := fun h => (Nat.mul_eq_zero.1 h).elim hA (by omega)
  have hB' : B * c ≠ 0 := fun h => (Nat.mul_eq_zero.1 h).elim hB (by omega)
  have h := upN_bits hA hB
  have e : A * c * 2 ^ upN A B / (B * c) = A * 2 ^ upN A B / B := by rw [Nat.mul_assoc, Nat.mul_comm c, ← Nat.mul_assoc, Nat.mul_div_mul_right _ _ hc]
  obtain ⟨r1, r2⟩ := rq_any (m := m) (n := n) (k := upN A B) hA' hB' (by rw [e]; omega)
  rw [dvK_scale hc] at r1 r2
  exact ⟨r1.symm, r2.symm⟩
/-- a whole number -/
theorem rq_one (m : Int) (n : Bool) (A : Nat) : rqP m n A 1 = rnP m n A 0 ∧ rqF m n A 1 = rnF m n A 0 := by
  have e : dvK A 1 (upN A 1) = A * 2 ^ (upN A 1 + 1) := by
    unfold dvK
    rw [Nat.div_one, Nat.mod_one, if_pos rfl, Nat.add_zero, Nat.pow_succ, Nat.mul_comm 2, Nat.mul_assoc]
  have p := rnP_scale m n A (upN A 1 + 1) 0
  have f := rnF_scale m n A (upN A 1 + 1) 0
  rw [show (0 : Int) - ((upN A 1 + 1 : Nat) : Int) = -((upN A 1 : Nat) : Int) - 1 by omega] at p f
  unfold rqP rqF
  rw [e]
  exact ⟨p, f⟩
/-- where the highest bit of a quotient is -/
theorem dv_lg {A B k : Nat} (h : A * 2 ^ k / B ≠ 0) : lgN (dvK A B k) (-(k : Int) - 1) = (bitLen (A * 2 ^ k / B) : Int) - 1 - k := by
  have e : bitLen (dvK A B k) = bitLen (A * 2 ^ k / B) + 1 := by
    have h1 := (bitLen_spec (A * 2 ^ k / B)).1
    have h2 := (bitLen_spec (A * 2 ^ k / B)).2 h
    have h3 := len_pos h
    have e1 : 2 ^ bitLen (A * 2 ^ k / B) = 2 ^ (bitLen (A * 2 ^ k / B) - 1) * 2 := by rw [← Nat.pow_succ]; congr 1; omega
    refine len_uniq (k := bitLen (A * 2 ^ k / B)) ?_ ?_
    · unfold dvK; split <;> omega
    · rw [Nat.pow_succ]; unfold dvK; split <;> omega
  unfold lgN
  rw [e]
  omega
/-- too great, whatever its bits are -/
theorem rq_big {m : Int} {n : Bool} {A B J : Nat} (hA : A ≠ 0) (hB : B ≠ 0) (hJ : 1024 ≤ J) (h : B * 2 ^ J ≤ A) : rqP m n A B = bey m n ∧ rqF m n A B = 20 := by
  have hb := upN_bits hA hB
  have hq : A * 2 ^ upN A B / B ≠ 0 := fun h0 => by rw [h0] at hb; exact absurd hb (by decide)
  have hT : dvK A B (upN A B) ≠ 0 := fun h0 => by
    unfold dvK at h0
    omega
  refine big_eq hT ?_
  rw [dv_lg hq]
  have h1 : 2 ^ (J + upN A B) ≤ A * 2 ^ upN A B / B := by
    rw [Nat.le_div_iff_mul_le (by omega), Nat.pow_add, Nat.mul_comm, ← Nat.mul_assoc]
    exact Nat.mul_le_mul_right _ h
  have := le_len h1
  omega
/-- too small, whatever its bits are -/
theorem rq_low {m : Int} {n : Bool} {A B J : Nat} (hA : A ≠ 0) (hB : B ≠ 0) (hJ : 1099 ≤ J) (h : A * 2 ^ J < B) : rqP m n A B = rnP m n 1 (-3000) ∧ rqF m n A B = rnF m n 1 (-3000) := by
  have hb := upN_bits hA hB
  have hq : A * 2 ^ upN A B / B ≠ 0 := fun h0 => by rw [h0] at hb; exact absurd hb (by decide)
  have hT : dvK A B (upN A B) ≠ 0 := fun h0 => by
    unfold dvK at h0
    omega
  have hu : J ≤ upN A B := by
    have h1 : bitLen A + J ≤ bitLen B := by
      have := le_len (T := B) (k := bitLen A - 1 + J) (by
        rw [Nat.pow_add]
        exact Nat.le_of_lt (Nat.lt_of_le_of_lt (Nat.mul_le_mul_right _ ((bitLen_spec A).2 hA)) h))
      have := len_pos hA
      omega
    unfold upN
    omega
  have h1 : A * 2 ^ upN A B / B < 2 ^ (upN A B - J) := by
    rw [Nat.div_lt_iff_lt_mul (by omega)]
    have e : 2 ^ upN A B = 2 ^ J * 2 ^ (upN A B - J) := by rw [← Nat.pow_add]; congr 1; omega
    rw [e, ← Nat.mul_assoc, Nat.mul_comm (2 ^ (upN A B - J))]
    exact Nat.mul_lt_mul_of_pos_right h (Nat.pow_pos (by omega))
  have h2 := len_le h1
  have l1 : bitLen 1 = 1 := len_uniq (k := 0) (by decide) (by decide)
  obtain ⟨a1, a2⟩ := low_eq (m := m) (neg := n) hT (by rw [dv_lg hq]; omega)
  obtain ⟨b1, b2⟩ := low_eq (m := m) (neg := n) (T := 1) (E := -3000) (by decide) (by unfold lgN; rw [l1]; decide)
  exact ⟨a1.trans b1.symm, a2.trans b2.symm⟩
/-! ### decimal -/
theorem ten_two {e J i : Nat} (h1 : 28 * i ≤ e) (h2 : J ≤ 93 * i) : 2 ^ J ≤ 10 ^ e := by
  have h : (2 : Nat) ^ 93 ≤ 10 ^ 28 := by decide
  have h3 : ((2 : Nat) ^ 93) ^ i ≤ (10 ^ 28) ^ i := Nat.pow_le_pow_left h i
  rw [← Nat.pow_mul, ← Nat.pow_mul] at h3
  exact Nat.le_trans (Nat.pow_le_pow_right (by omega) h2) (Nat.le_trans h3 (Nat.pow_le_pow_right (by omega) h1))
/-- A times ten to the power of j, rounded -/
def deP (m : Int) (n : Bool) (A : Nat) (j : Int) : Int := rqP m n (A * 10 ^ j.toNat) (10 ^ (-j).toNat)
def deF (m : Int) (n : Bool) (A : Nat) (j : Int) : Int := rqF m n (A * 10 ^ j.toNat) (10 ^ (-j).toNat)
theorem ten_ne (j : Nat) : 10 ^ j ≠ 0 := fun h => by have := Nat.pow_pos (n := j) (show 0 < 10 by omega); omega
theorem mul_ne {A B : Nat} (hA : A ≠ 0) (hB : B ≠ 0) : A * B ≠ 0 := fun h => (Nat.mul_eq_zero.1 h).elim hA hB
/-- noughts behind, and the point moved -/
theorem de_shift (m : Int) (n : Bool) {A : Nat} (hA : A ≠ 0) (c : Nat) (j : Int) : deP m n (A * 10 ^ c) (j - c) = deP m n A j ∧ deF m n (A * 10 ^ c) (j - c) = deF m n A j := by
  obtain ⟨d, hd⟩ : ∃ d : Nat, (-(j - c)).toNat = (-j).toNat + d ∧ c + (j - c).toNat = j.toNat + d := ⟨(-(j - c)).toNat - (-j).toNat, by omega, by omega⟩
  have e1 : A * 10 ^ c * 10 ^ (j - c).toNat = A * 10 ^ j.toNat * 10 ^ d := by rw [Nat.mul_assoc, ← Nat.pow_add, hd.2, Nat.pow_add, Nat.mul_assoc]
  unfold deP deF
  rw [e1, hd.1, Nat.pow_add]
  exact rqd_scale (mul_ne hA (ten_ne _)) (ten_ne _) (Nat.pow_pos (by omega))
theorem de_big (m : Int) (n : Bool) {A L : Nat} {j : Int} (h : 10 ^ L ≤ A) (hj : 309 ≤ j + (L : Int)) : deP m n A j = bey m n ∧ deF m n A j = 20 := by
  have hA : A ≠ 0 := fun h0 => by rw [h0] at h; exact ten_ne L (Nat.le_zero.1 h)
  obtain ⟨e, he⟩ : ∃ e : Nat, e + (-j).toNat = L + j.toNat ∧ 309 ≤ e := ⟨L + j.toNat - (-j).toNat, by omega, by omega⟩
  obtain ⟨J, hJ⟩ : ∃ J, J = 1023 := ⟨_, rfl⟩
  obtain ⟨E, hE⟩ : ∃ E, E = 308 := ⟨_, rfl⟩
  have h2 : 2 ^ (J + 1) ≤ 10 ^ e := by
    have h3 := ten_two (e := E) (J := J) (i := 11) (by omega) (by omega)
    refine Nat.le_trans ?_ (Nat.pow_le_pow_right (by omega) (show E + 1 ≤ e by omega))
    rw [Nat.pow_succ, Nat.pow_succ]
    omega
  refine rq_big (J := J + 1) (mul_ne hA (ten_ne _)) (ten_ne _) (by omega) ?_
  refine Nat.le_trans (Nat.mul_le_mul_left _ h2) ?_
  rw [← Nat.pow_add, Nat.add_comm, he.1, Nat.pow_add]
  exact Nat.mul_le_mul_right _ h
theorem de_low (m : Int) (n : Bool) {A L : Nat} {j : Int} (hA : A ≠ 0) (h : A < 10 ^ L) (hj : j + (L : Int) ≤ -336) : deP m n A j = rnP m n 1 (-3000) ∧ deF m n A j = rnF m n 1 (-3000) := by
  obtain ⟨e, he⟩ : ∃ e : Nat, L + e = (-j).toNat ∧ 336 ≤ e := ⟨(-j).toNat - L, by omega, by omega⟩
  obtain ⟨J, hJ⟩ : ∃ J, J = 1099 := ⟨_, rfl⟩
  have h2 : 2 ^ J ≤ 10 ^ e := ten_two (i := 12) (by omega) (by omega)
  have hz : j.toNat = 0 := by omega
  unfold deP deF
  rw [hz, Nat.pow_zero, Nat.mul_one]
  refine rq_low (J := J) hA (ten_ne _) (by omega) ?_
  rw [← he.1, Nat.pow_add]
  exact Nat.lt_of_lt_of_le (Nat.mul_lt_mul_of_pos_right h (Nat.pow_pos (by omega))) (Nat.mul_le_mul_left _ h2)
theorem nmB_ge {b : Int} {c : UInt8} {r : List UInt8} (h : 0 < dgvR (lq8 c) b) : b.toNat ^ r.length ≤ nmB b (c :: r) := by
  have key : ∀ (r : List UInt8) (a : Nat), a * b.toNat ^ r.length ≤ r.foldl (fun a c => a * b.toNat + (dgvR (lq8 c) b).toNat) a := by
    intro r
    induction r with
    | nil => intro a; simp
    | cons x r ih =>
      intro a
      rw [List.length_cons, Nat.pow_succ, Nat.mul_comm (b.toNat ^ r.length), ← Nat.mul_assoc, List.foldl_cons]
      exact Nat.le_trans (Nat.mul_le_mul_right _ (Nat.le_add_right _ _)) (ih _)
  unfold nmB
  rw [List.foldl_cons]
  refine Nat.le_trans ?_ (key r _)
  exact Nat.le_mul_of_pos_left _ (by rw [Nat.zero_mul]; omega)
/-- what a decimal text denotes is rounded as A times ten to the power of j -/
theorem dn_de (m : Int) (n : Bool) {c : UInt8} {r : List UInt8} {k P : Int} (h : 0 < dgvR (lq8 c) 10) : rnP m n (dnA 10 (c :: r) k P).1 (dnA 10 (c :: r) k P).2 = deP m n (nmB 10 (c :: r)) (P - k) ∧ rnF m n (dnA 10 (c :: r) k P).1 (dnA 10 (c :: r) k P).2 = deF m n (nmB 10 (c :: r)) (P - k) := by
  have hp := nmB_pos (b := 10) (.inl rfl) (r := r) h
  have hg := nmB_ge (b := 10) (r := r) h
  have hl := nmB_lt (b := 10) (.inl rfl) (c :: r)
  have e10 : (10 : Int).toNat = 10 := rfl
  rw [e10] at hg hl
  have l1 : bitLen 1 = 1 := len_uniq (k := 0) (by decide) (by decide)
  unfold dnA
  rw [if_neg (by decide)]
  split
  · rename_i h1
    rw [List.length_cons] at h1
    obtain ⟨d1, d2⟩ := de_big m n (j := P - k) hg (by omega)
    obtain ⟨b1, b2⟩ := big_eq (m := m) (neg := n) (T := 1) (E := 3000) (by decide) (by unfold lgN; rw [l1]; decide)
    exact ⟨b1.trans d1.symm, b2.trans d2.symm⟩
  split
  · rename_i h1 h2
    obtain ⟨d1, d2⟩ := de_low m n (j := P - k) (by omega) hl (by omega)
    exact ⟨d1.symm, d2.symm⟩
  split
  · rename_i h3
    have hz : (-(P - k)).toNat = 0 := by omega
    obtain ⟨q1, q2⟩ := rq_one m n (nmB 10 (c :: r) * 10 ^ (P - k).toNat)
    unfold deP deF
    rw [hz, Nat.pow_zero]
    exact ⟨q1.symm, q2.symm⟩
  · rename_i h3
    have hz : (P - k).toNat = 0 := by omega
    have e : (-(P - k)).toNat = (k - P).toNat := by omega
    unfold deP deF rqP rqF
    rw [hz, e, Nat.pow_zero, Nat.mul_one]
    exact ⟨rfl, rfl⟩
/-- the low bits cut where the least pattern's half is above them -/
theorem stk_lowR {m : Int} {neg : Bool} {A d : Nat} {F : Int} (hA : A ≠ 0) (h1 : F + d + 1 ≤ -1074) (h2 : lgN A F ≤ -1024) : rnP m neg (stk A d) (F + d - 1) = rnP m neg A F ∧ rnF m neg (stk A d) (F + d - 1) = rnF m neg A F := by
  have hp : 0 < 2 ^ d := Nat.pow_pos (by omega)
  have hdm := Nat.div_add_mod A (2 ^ d)
  have hs : stk A d ≠ 0 := by
    unfold stk
    intro h
    have hq : A / 2 ^ d = 0 := by omega
    rw [hq, Nat.mul_zero, Nat.zero_add] at hdm
    rw [hdm, if_neg hA] at h
    omega
  have hl : lgN (stk A d) (F + d - 1) ≤ -1024 := by
    by_cases hq : A / 2 ^ d = 0
    · have h3 : stk A d < 2 ^ 1 := by unfold stk; rw [hq]; split <;> omega
      have := len_le h3
      unfold lgN
      omega
    · rw [stk_lgN hq]; exact h2
  have l1 : lowE (stk A d) (F + d - 1) = -1074 := by unfold lowE; rw [if_pos (by omega)]
  have l2 : lowE A F = -1074 := by unfold lowE; rw [if_pos (by omega)]
  have e1 : p0 m neg (stk A d) (F + d - 1) = p0 m neg A F := by unfold p0; rw [l1, l2, stk_toQ m neg A d h1]
  have e2 : tiny m neg (stk A d) (F + d - 1) = tiny m neg A F := by
    unfold tiny
    rw [if_neg (by omega), if_neg (by omega), decide_eq_true (show lgN (stk A d) (F + d - 1) < -1022 by omega), decide_eq_true (show lgN A F < -1022 by omega)]
  unfold rnP rnF
  rw [if_neg hs, if_neg hA, if_neg hs, if_neg hA, e1, l1, l2, stk_toL A d h1, e2]
  exact ⟨rfl, rfl⟩
theorem up_low {A B J : Nat} (hA : A ≠ 0) (h : A * 2 ^ J < B) : J + 80 ≤ upN A B := by
  have h1 : bitLen A + J ≤ bitLen B := by
    have := le_len (T := B) (k := bitLen A - 1 + J) (by
      rw [Nat.pow_add]
      exact Nat.le_of_lt (Nat.lt_of_le_of_lt (Nat.mul_le_mul_right _ ((bitLen_spec A).2 hA)) h))
    have := len_pos hA
    omega
  unfold upN
  omega
/-- a small quotient, by as many bits as the least pattern's half asks for -/
theorem rq_lowK {m : Int} {n : Bool} {A B J K : Nat} (hA : A ≠ 0) (hB : B ≠ 0) (hJ : J = 1023) (hK : K = 1075) (h : A * 2 ^ J < B) : rnP m n (dvK A B K) (-(K : Int) - 1) = rqP m n A B ∧ rnF m n (dvK A B K) (-(K : Int) - 1) = rqF m n A B := by
  have hu := up_low hA h
  have hb := upN_bits hA hB
  have hq : A * 2 ^ upN A B / B ≠ 0 := fun h0 => by rw [h0] at hb; exact absurd hb (by decide)
  have hT : dvK A B (upN A B) ≠ 0 := fun h0 => by
    unfold dvK at h0
    omega
  have h1 : A * 2 ^ upN A B / B < 2 ^ (upN A B - J) := by
    rw [Nat.div_lt_iff_lt_mul (by omega)]
    have e : 2 ^ upN A B = 2 ^ J * 2 ^ (upN A B - J) := by rw [← Nat.pow_add]; congr 1; omega
    rw [e, ← Nat.mul_assoc, Nat.mul_comm (2 ^ (upN A B - J))]
    exact Nat.mul_lt_mul_of_pos_right h (Nat.pow_pos (by omega))
  have h2 := len_le h1
  have h3 := dv_lg hq
  obtain ⟨j, hj⟩ : ∃ j, upN A B = K + j := ⟨upN A B - K, by omega⟩
  unfold rqP rqF
  rw [hj] at hT h3 h2 ⊢
  have r := stk_lowR (m := m) (neg := n) (A := dvK A B (K + j)) (d := j + 1) (F := -((K + j : Nat) : Int) - 1) hT (by omega) (by omega)
  rw [dvK_stk, show -((K + j : Nat) : Int) - 1 + ((j + 1 : Nat) : Int) - 1 = -(K : Int) - 1 by omega] at r
  exact r
/-- what lies between two neighbours of so many digits is parted so -/
theorem cut_dv {q C r G k : Nat} (h0 : 0 < r) (h1 : r < C) (hk : k ≤ G) : dvK (q * C + r) (10 ^ G * C) k = 2 * (q * 2 ^ k / 10 ^ G) + 1 := by
  have hC : 0 < C := by omega
  have h2 : 0 < 2 ^ k := Nat.pow_pos (by omega)
  obtain ⟨H, hH⟩ : ∃ H, 10 ^ G = H * 2 ^ k := ⟨2 ^ (G - k) * 5 ^ G, by
    rw [show (10 : Nat) = 2 * 5 from rfl, Nat.mul_pow, Nat.mul_assoc, Nat.mul_comm (5 ^ G), ← Nat.mul_assoc, ← Nat.pow_add, show G - k + k = G by omega]⟩
  have e1 : 10 ^ G * C = C * H * 2 ^ k := by rw [hH, Nat.mul_comm, Nat.mul_assoc]
  have e2 : (q * C + r) / C = q := by rw [Nat.mul_comm, Nat.mul_add_div hC, Nat.div_eq_of_lt h1, Nat.add_zero]
  have e3 : (q * C + r) % C = r := by rw [Nat.mul_comm, Nat.mul_add_mod, Nat.mod_eq_of_lt h1]
  have e4 : (q * C + r) % (C * H) ≠ 0 := fun h => by
    have h3 : C ∣ q * C + r := Nat.dvd_trans ⟨H, rfl⟩ (Nat.dvd_of_mod_eq_zero h)
    have := Nat.mod_eq_zero_of_dvd h3
    omega
  unfold dvK
  rw [e1, Nat.mul_div_mul_right _ _ h2, Nat.mul_mod_mul_right, ← Nat.div_div_eq_div_mul, e2, hH, Nat.mul_div_mul_right _ _ h2, if_neg (fun h => (Nat.mul_eq_zero.1 h).elim e4 (by omega))]
theorem cut_rq {m : Int} {n : Bool} {q C r C' r' G k : Nat} (hr : 0 < r) (hC : r < C) (hr' : 0 < r') (hC' : r' < C') (hk : k ≤ G) (hb : 54 ≤ bitLen (q * 2 ^ k / 10 ^ G)) : rqP m n (q * C + r) (10 ^ G * C) = rqP m n (q * C' + r') (10 ^ G * C') ∧ rqF m n (q * C + r) (10 ^ G * C) = rqF m n (q * C' + r') (10 ^ G * C') := by
  have key : ∀ {C r : Nat}, 0 < r → r < C → rnP m n (2 * (q * 2 ^ k / 10 ^ G) + 1) (-(k : Int) - 1) = rqP m n (q * C + r) (10 ^ G * C) ∧ rnF m n (2 * (q * 2 ^ k / 10 ^ G) + 1) (-(k : Int) - 1) = rqF m n (q * C + r) (10 ^ G * C) := fun {C r} h0 h1 => by
    have e := cut_dv (q := q) (G := G) h0 h1 hk
    have ed : (q * C + r) * 2 ^ k / (10 ^ G * C) = q * 2 ^ k / 10 ^ G := by unfold dvK at e; split at e <;> omega
    have := rq_any (m := m) (n := n) (A := q * C + r) (B := 10 ^ G * C) (k := k) (by omega) (mul_ne (ten_ne _) (by omega)) (by rw [ed]; exact hb)
    rw [e] at this
    exact this
  obtain ⟨a1, a2⟩ := key hr hC
  obtain ⟨b1, b2⟩ := key hr' hC'
  exact ⟨a1.symm.trans b1, a2.symm.trans b2⟩
theorem cut_rqL {m : Int} {n : Bool} {q C r C' r' G J K : Nat} (hr : 0 < r) (hC : r < C) (hr' : 0 < r') (hC' : r' < C') (hJ : J = 1023) (hK : K = 1075) (hk : K ≤ G) (hb : (q + 1) * 2 ^ J ≤ 10 ^ G) : rqP m n (q * C + r) (10 ^ G * C) = rqP m n (q * C' + r') (10 ^ G * C') ∧ rqF m n (q * C + r) (10 ^ G * C) = rqF m n (q * C' + r') (10 ^ G * C') := by
  have key : ∀ {C r : Nat}, 0 < r → r < C → rnP m n (2 * (q * 2 ^ K / 10 ^ G) + 1) (-(K : Int) - 1) = rqP m n (q * C + r) (10 ^ G * C) ∧ rnF m n (2 * (q * 2 ^ K / 10 ^ G) + 1) (-(K : Int) - 1) = rqF m n (q * C + r) (10 ^ G * C) := fun {C r} h0 h1 => by
    have e := cut_dv (q := q) (G := G) h0 h1 hk
    have h3 : (q * C + r) * 2 ^ J < 10 ^ G * C := by
      have h4 : q * C + r < (q + 1) * C := by rw [Nat.add_mul, Nat.one_mul]; omega
      refine Nat.lt_of_lt_of_le (Nat.mul_lt_mul_of_pos_right h4 (Nat.pow_pos (by omega))) ?_
      rw [Nat.mul_right_comm]
      exact Nat.mul_le_mul_right _ hb
    have := rq_lowK (m := m) (n := n) (A := q * C + r) (B := 10 ^ G * C) (by omega) (mul_ne (ten_ne _) (by omega)) hJ hK h3
    rw [e] at this
    exact this
  obtain ⟨a1, a2⟩ := key hr hC
  obtain ⟨b1, b2⟩ := key hr' hC'
  exact ⟨a1.symm.trans b1, a2.symm.trans b2⟩
theorem ten_up {j i : Nat} (h : j ≤ 3 * i) : (10 : Nat) ^ j ≤ 2 ^ (10 * i) := by
  refine Nat.le_trans (Nat.pow_le_pow_right (by omega) h) ?_
  rw [Nat.pow_mul, Nat.pow_mul]
  exact Nat.pow_le_pow_left (by decide) i
/-- eight hundred digits and a bit for the rest are enough -/
theorem cut_text {m : Int} {n : Bool} {q C r C' r' M G : Nat} {a : Int} (hM : M = 799) (hG : (G : Int) = 800 - a) (ha : a ≤ 400) (hq : 10 ^ M ≤ q) (hq' : q < 10 ^ (M + 1)) (hr : 0 < r) (hC : r < C) (hr' : 0 < r') (hC' : r' < C') : rqP m n (q * C + r) (10 ^ G * C) = rqP m n (q * C' + r') (10 ^ G * C') ∧ rqF m n (q * C + r) (10 ^ G * C) = rqF m n (q * C' + r') (10 ^ G * C') := by
  by_cases h1 : 1 ≤ a
  · refine cut_rq (k := 53) hr hC hr' hC' (by omega) (le_len (k := 53) ?_)
    rw [Nat.le_div_iff_mul_le (Nat.pow_pos (by omega)), Nat.mul_comm]
    exact Nat.mul_le_mul_right _ (Nat.le_trans (Nat.pow_le_pow_right (by omega) (by omega)) hq)
  obtain ⟨b, hb⟩ : ∃ b : Nat, a = -(b : Int) := ⟨(-a).toNat, by omega⟩
  have eG : G = M + (b + 1) := by omega
  by_cases h2 : b ≤ 315
  · refine cut_rq (k := 53 + 10 * ((b + 3) / 3)) hr hC hr' hC' (by omega) (le_len (k := 53) ?_)
    rw [Nat.le_div_iff_mul_le (Nat.pow_pos (by omega)), eG, Nat.pow_add, Nat.pow_add 2, Nat.mul_left_comm, Nat.mul_left_comm q]
    rw [Nat.mul_left_comm]
    refine Nat.mul_le_mul_left _ (Nat.mul_le_mul hq ?_)
    exact ten_up (by omega)
  · obtain ⟨J, hJ⟩ : ∃ J, J = 1023 := ⟨_, rfl⟩
    obtain ⟨K, hK⟩ : ∃ K, K = 1075 := ⟨_, rfl⟩
    refine cut_rqL (J := J) (K := K) hr hC hr' hC' hJ hK (by omega) ?_
    rw [show G = (M + 1) + b by omega, Nat.pow_add]
    exact Nat.mul_le_mul hq' (ten_two (i := 11) (by omega) (by omega))
def chD (d : Nat) : UInt8 := UInt8.ofNat (48 + d)
/-- the decimal letters of a number below 10^f -/
def decF : Nat → Nat → List UInt8
  | 0, _ => []
  | f + 1, n => if n < 10 then [chD n] else decF f (n / 10) ++ [chD (n % 10)]
def dcL (n : Nat) : List UInt8 := decF 20 n
theorem chD_num {d : Nat} (h : d < 10) : lq8 (chD d) = ((48 + d : Nat) : Int) := by
  unfold lq8 chD
  rw [UInt8.toNat_ofNat']
  omega
theorem chD_dg {d : Nat} (h : d < 10) (b : Int) : dgvR (lq8 (chD d)) b = (d : Int) := by
  rw [chD_num h]
  unfold dgvR
  rw [if_pos (by omega)]
  omega
theorem dec_part {d : Nat} (h : d < 10) : (([48, 49, 50, 51, 52, 53, 54, 55, 56, 57] : List UInt8).drop d).take 1 = [chD d] := by
  have key : ∀ x : Fin 10, (([48, 49, 50, 51, 52, 53, 54, 55, 56, 57] : List UInt8).drop x.1).take 1 = [chD x.1] := by decide
  exact key ⟨d, h⟩
theorem decF_all (f n : Nat) (b : Int) : allB b (decF f n) = true := by
  induction f generalizing n with
  | zero => rfl
  | succ f ih =>
    unfold decF
    split
    · rename_i h
      unfold allB
      rw [List.all_cons, chD_dg h, decide_eq_true (by omega)]
      rfl
    · unfold allB
      rw [List.all_append]
      have := ih (n / 10)
      unfold allB at this
      rw [this, List.all_cons, chD_dg (show n % 10 < 10 by omega), decide_eq_true (by omega)]
      rfl
theorem decF_num {f n : Nat} (h : n < 10 ^ f) : nmB 10 (decF f n) = n := by
  induction f generalizing n with
  | zero =>
    have : n = 0 := by simpa using h
    rw [this]
    rfl
  | succ f ih =>
    unfold decF
    split
    · rename_i h1
      show (0 * (10 : Int).toNat + (dgvR (lq8 (chD n)) 10).toNat) = n
      rw [chD_dg h1]
      omega
    · rw [nmB_snoc, ih (by rw [Nat.pow_succ] at h; omega), chD_dg (show n % 10 < 10 by omega), show (10 : Int).toNat = 10 from rfl]
      omega
theorem decF_len (f n : Nat) : (decF f n).length ≤ f := by
  induction f generalizing n with
  | zero => exact Nat.le_refl _
  | succ f ih =>
    unfold decF
    split
    · rw [List.length_singleton]; omega
    · rw [List.length_append, List.length_singleton]
      have := ih (n / 10)
      omega
theorem dcL_lt {n : Nat} (h : n < 18446744073709551616) : n < 10 ^ 20 := Nat.lt_trans h (by decide)
theorem dcL_ne (n : Nat) : dcL n ≠ [] := by
  unfold dcL decF
  split
  · simp
  · simp
theorem dg46 (b : Int) : dgvR 46 b = -1 := by
  unfold dgvR
  rw [if_neg (by omega), if_neg (by omega)]
theorem sc1_pt (b : Int) (r : List UInt8) : sc1 b false (46 :: r) = sc1 b true r := by
  rw [sc1, if_pos ⟨by rfl, rfl⟩]
theorem sc1_stop {b : Int} {p : Bool} {c : UInt8} {r : List UInt8} (h : lq8 c ≠ 46) (hd : dgvR (lq8 c) b < 0) : sc1 b p (c :: r) = ([], 0, c :: r) := by
  rw [sc1, if_neg (fun h' => h h'.1), if_neg (by omega)]
theorem sc1_app {b : Int} {A : List UInt8} (h : allB b A = true) (p : Bool) (r : List UInt8) : sc1 b p (A ++ r) = (A ++ (sc1 b p r).1, (if p = true then A.length else 0) + (sc1 b p r).2.1, (sc1 b p r).2.2) := by
  induction A with
  | nil => simp
  | cons c A ih =>
    unfold allB at h ih
    rw [List.all_cons, Bool.and_eq_true] at h
    have h1 := of_decide_eq_true h.1
    have h46 : lq8 c ≠ 46 := fun h' => by rw [h', dg46] at h1; omega
    rw [List.cons_append, sc1, if_neg (fun h' => h46 h'.1), if_pos h1, ih h.2]
    cases p <;> simp <;> omega
theorem pw1_app (a : Nat) (l r : List UInt8) (h : (pw1 a l).2 = true) : pw1 a (l ++ r) = pw1 (pw1 a l).1 r := by
  induction l generalizing a with
  | nil => rfl
  | cons c l ih =>
    rw [List.cons_append, pw1, pw1]
    by_cases hc : 0 ≤ dgvR (lq8 c) 10
    · rw [pw1, if_pos hc] at h
      rw [if_pos hc, if_pos hc]
      exact ih _ h
    · rw [pw1, if_neg hc] at h
      cases h
theorem pw1_ok {l : List UInt8} (h : allB 10 l = true) (hv : nmB 10 l ≤ 2000000) : pw1 0 l = (nmB 10 l, true) := by
  have key : ∀ (k : Nat) (l : List UInt8), l.length = k → allB 10 l = true → nmB 10 l ≤ 2000000 → pw1 0 l = (nmB 10 l, true) := by
    intro k
    induction k with
    | zero =>
      intro l hl _ _
      rw [List.eq_nil_of_length_eq_zero hl]
      rfl
    | succ k ih =>
      intro l hl ha hv
      have hne : l ≠ [] := fun h0 => by rw [h0] at hl; cases hl
      obtain ⟨l', c, rfl⟩ : ∃ l' c, l = l' ++ [c] := ⟨l.dropLast, l.getLast hne, (List.dropLast_concat_getLast hne).symm⟩
      unfold allB at ha ih
      rw [List.all_append, Bool.and_eq_true] at ha
      rw [nmB_snoc] at hv
      have e10 : (10 : Int).toNat = 10 := rfl
      rw [e10] at hv
      have h1 := ih l' (by simpa using hl) ha.1 (by omega)
      have hc : 0 ≤ dgvR (lq8 c) 10 := by
        have := ha.2
        simpa using this
      rw [pw1_app _ _ _ (by rw [h1]), h1, nmB_snoc, e10, pw1, if_pos hc, pw1]
      congr 1
      dsimp only
      omega
  exact key l.length l rfl h hv
theorem nmB_trZ (b : Int) (l : List UInt8) : nmB b (trZ l) = nmB b l := by
  induction l with
  | nil => rfl
  | cons c l ih =>
    rw [trZ_cons]
    by_cases h : lq8 c = 48
    · rw [if_pos h, ih]
      have : dgvR (lq8 c) b = 0 := by
        rw [h]
        unfold dgvR
        rw [if_pos (by omega)]
        rfl
      unfold nmB
      rw [List.foldl_cons, this]
      simp
    · rw [if_neg h]
theorem trZ_nil {b : Int} (hb : b = 10 ∨ b = 16) {l : List UInt8} (h : allB b l = true) : trZ l = [] ↔ nmB b l = 0 := by
  constructor
  · intro h0
    rw [← nmB_trZ, h0]
    rfl
  · intro h0
    cases h1 : trZ l with
    | nil => rfl
    | cons c r =>
      have := nmB_pos hb (r := r) (trZ_head h h1)
      rw [← h1, nmB_trZ] at this
      omega
/-- what is read of a whole number A times ten to the power of j -/
def rdN (m : Int) (n : Bool) (A : Nat) (j : Int) : Int × Int × Int :=
  if A = 0 then (if n = true then 9223372036854775808 else 0, 0, 0) else (if n = true then 9223372036854775808 + deP m n A j else deP m n A j, deF m n A j, 0)
theorem rdQ_dec {m : Int} {n : Bool} {v : List UInt8} (h : (scA 10 v).2 = true) : rdQ m n 10 v = rdN m n (nmB 10 (sc1 10 false v).1) ((scA 10 v).1 - ((sc1 10 false v).2.1 : Nat)) := by
  have ha := (sc1_bd 10 false v).2.2
  unfold rdQ rdN
  rw [if_neg (by rw [h]; decide)]
  by_cases hz : trZ (sc1 10 false v).1 = []
  · rw [if_pos hz, if_pos ((trZ_nil (.inl rfl) ha).1 hz)]
  · rw [if_neg hz, if_neg (fun h0 => hz ((trZ_nil (.inl rfl) ha).2 h0))]
    cases h1 : trZ (sc1 10 false v).1 with
    | nil => exact absurd h1 hz
    | cons c r =>
      obtain ⟨d1, d2⟩ := dn_de m n (r := r) (k := ((sc1 10 false v).2.1 : Nat)) (P := (scA 10 v).1) (trZ_head ha h1)
      rw [d1, d2, ← h1, nmB_trZ]
theorem rdN_shift (m : Int) (n : Bool) (A c : Nat) (j : Int) : rdN m n (A * 10 ^ c) (j - c) = rdN m n A j := by
  unfold rdN
  by_cases h : A = 0
  · rw [h, Nat.zero_mul, if_pos rfl, if_pos rfl]
  · obtain ⟨e1, e2⟩ := de_shift m n h c j
    rw [if_neg h, if_neg (mul_ne h (ten_ne c)), e1, e2]
theorem rdN_err (m : Int) (n : Bool) (A : Nat) (j : Int) : (rdN m n A j).2.2 = 0 := by
  unfold rdN
  split <;> rfl
theorem nmB_zeros (A : List UInt8) (k : Nat) : nmB 10 (A ++ List.replicate k 48) = nmB 10 A * 10 ^ k := by
  induction k with
  | zero => simp
  | succ k ih =>
    rw [List.replicate_succ', ← List.append_assoc, nmB_snoc, ih, Nat.pow_succ, Nat.mul_assoc]
    rfl
theorem nmB_ahead (b : Int) (A : List UInt8) (k : Nat) : nmB b (List.replicate k 48 ++ A) = nmB b A := by
  induction k with
  | zero => rfl
  | succ k ih =>
    rw [List.replicate_succ, List.cons_append]
    unfold nmB at *
    rw [List.foldl_cons]
    have : dgvR (lq8 48) b = 0 := by
      show dgvR 48 b = 0
      unfold dgvR
      rw [if_pos (by omega)]
      rfl
    rw [this]
    simpa using ih
theorem zeros_all (b : Int) (k : Nat) : allB b (List.replicate k 48) = true := by
  unfold allB
  rw [List.all_eq_true]
  intro x hx
  rw [List.eq_of_mem_replicate hx]
  exact decide_eq_true (show 0 ≤ dgvR 48 b by unfold dgvR; rw [if_pos (by omega)]; omega)
theorem allB_app {b : Int} {A B : List UInt8} (hA : allB b A = true) (hB : allB b B = true) : allB b (A ++ B) = true := by
  unfold allB at *
  rw [List.all_append, hA, hB]
  rfl
/-! ### letters that lead -/
theorem digit_letter {c : UInt8} (h : 0 ≤ dgvR (lq8 c) 10) : 48 ≤ lq8 c ∧ lq8 c ≤ 57 := by
  unfold dgvR at h
  split at h
  · assumption
  · rw [if_neg (by omega)] at h
    omega
theorem sgT_digit {c : UInt8} {r : List UInt8} (h : 48 ≤ lq8 c ∧ lq8 c ≤ 57) : sgT (c :: r) = (false, c :: r) := by
  unfold sgT
  dsimp only
  rw [if_neg (by omega), if_neg (by omega)]
theorem sgT_minus (r : List UInt8) : sgT (45 :: r) = (true, r) := by
  unfold sgT
  dsimp only
  rw [if_pos (by rfl)]
/-- decimal letters lead: no word, and base ten -/
theorem rdP_lead {m : Int} {n : Bool} {l : List UInt8} {c : UInt8} {r : List UInt8} (hl : l.length ≤ 65536) (hs : sgT l = (n, c :: r)) (hc : 48 ≤ lq8 c ∧ lq8 c ≤ 57) (hr : ∀ d ∈ r, d ≠ 120) : rdP m l = rdQ m n 10 (c :: r) := by
  unfold rdP
  rw [if_neg (by omega), hs]
  dsimp only
  rw [if_neg (fun h => by cases h; exact absurd hc.2 (by decide)), if_neg (fun h => by cases h; exact absurd hc.2 (by decide))]
  have e : rdB (c :: r) = (10, c :: r) := by
    unfold rdB
    rw [if_neg]
    rintro ⟨h1, h2⟩
    cases r with
    | nil => exact absurd h1 (by simp)
    | cons d t =>
      have : [c, d] = [48, 120] := h2
      cases this
      exact hr 120 List.mem_cons_self rfl
  rw [e]
/-! ### a power behind the digits -/
def expL (x : Int) : List UInt8 := if x < 0 then 45 :: dcL x.natAbs else dcL x.natAbs
theorem dcL_lead (n : Nat) : ∃ c r, dcL n = c :: r ∧ (48 ≤ lq8 c ∧ lq8 c ≤ 57) := by
  cases e : dcL n with
  | nil => exact absurd e (dcL_ne n)
  | cons c r =>
    have ha := decF_all 20 n 10
    unfold dcL at e
    rw [e] at ha
    unfold allB at ha
    rw [List.all_cons, Bool.and_eq_true] at ha
    exact ⟨c, r, rfl, digit_letter (of_decide_eq_true ha.1)⟩
theorem sgT_exp (x : Int) : sgT (expL x) = (decide (x < 0), dcL x.natAbs) := by
  unfold expL
  by_cases hx : x < 0
  · rw [if_pos hx, sgT_minus, decide_eq_true hx]
  · obtain ⟨c, r, e, hc⟩ := dcL_lead x.natAbs
    rw [if_neg hx, e, sgT_digit hc, decide_eq_false hx]
theorem scE_exp {b : Int} (hb : b = 10 ∨ b = 16) {c : UInt8} (hc : (b = 10 → lq8 c = 101) ∧ (b = 16 → lq8 c = 112)) {x : Int} (h : x.natAbs ≤ 2000000) : scE b (c :: expL x) = (x, true) := by
  have hp : pw1 0 (dcL x.natAbs) = (x.natAbs, true) := by
    have hn := decF_num (f := 20) (n := x.natAbs) (dcL_lt (by omega))
    have := pw1_ok (l := dcL x.natAbs) (decF_all 20 x.natAbs 10) (by unfold dcL; rw [hn]; exact h)
    rw [this]
    unfold dcL
    rw [hn]
  unfold scE
  dsimp only
  rw [if_neg (by rcases hb with hb | hb <;> simp [hb, hc.1, hc.2]), sgT_exp x]
  dsimp only
  rw [if_neg (dcL_ne _), hp]
  dsimp only
  rw [if_neg (by decide)]
  by_cases hx : x < 0
  · rw [if_pos (decide_eq_true hx)]
    congr 1
    omega
  · rw [if_neg (by simpa using hx)]
    congr 1
    omega
/-! ### letters -/
/-- a letter as a digit, 16 if it is none -/
def dvB (c : Int) : Int := if 48 ≤ c ∧ c ≤ 57 then c - 48 else if 97 ≤ c ∧ c ≤ 102 then c - 87 else 16
theorem dvB_bd (c : Int) : 0 ≤ dvB c ∧ dvB c ≤ 16 := by
  unfold dvB
  split
  · omega
  · split <;> omega
theorem dvB_lt {c b : Int} (hb : b = 10 ∨ b = 16) : dvB c < b ↔ 0 ≤ dgvR c b := by
  unfold dvB dgvR
  split
  · constructor <;> omega
  · split
    · rcases hb with rfl | rfl
      · rw [if_neg (by omega)]; omega
      · rw [if_pos (by omega)]; omega
    · rw [if_neg (by omega)]; omega
theorem dvB_eq {c b : Int} (h : 0 ≤ dgvR c b) : dgvR c b = dvB c := by
  unfold dvB
  unfold dgvR at *
  split
  · rfl
  · rename_i h1
    rw [if_neg h1] at h
    split
    · rename_i h2
      rw [if_pos ⟨h2.2.1, h2.2.2⟩]
    · rename_i h2
      rw [if_neg h2] at h
      omega
theorem lq8_eq {c d : UInt8} : lq8 c = lq8 d ↔ c = d := by
  unfold lq8
  constructor
  · intro h
    exact UInt8.toNat_inj.1 (by omega)
  · intro h; rw [h]
/-- whether a text begins so -/
def hasP (p l : List UInt8) : Bool := decide (p.length ≤ l.length ∧ l.take p.length = p)
theorem hasP_one (d : UInt8) (l : List UInt8) : hasP [d] l = true ↔ ∃ r, l = d :: r := by
  unfold hasP
  rw [decide_eq_true_eq]
  constructor
  · rintro ⟨h1, h2⟩
    cases l with
    | nil => simp at h1
    | cons c r =>
      simp at h2
      exact ⟨r, by rw [h2]⟩
  · rintro ⟨r, rfl⟩
    simp
theorem hasP_one_not (d : UInt8) {c : UInt8} {r : List UInt8} (h : c ≠ d) : hasP [d] (c :: r) = false := by
  rw [Bool.eq_false_iff]
  intro h'
  obtain ⟨r', e⟩ := (hasP_one d (c :: r)).1 h'
  injection e with e1 e2
  exact h e1
theorem sgT_has (l : List UInt8) : sgT l = if hasP [45] l = true then (true, l.drop 1) else if hasP [43] l = true then (false, l.drop 1) else (false, l) := by
  cases l with
  | nil => rfl
  | cons c r =>
    have e45 : lq8 c = 45 ↔ c = 45 := lq8_eq (d := 45)
    have e43 : lq8 c = 43 ↔ c = 43 := lq8_eq (d := 43)
    rw [sgT]
    by_cases h1 : c = 45
    · rw [if_pos (e45.2 h1), if_pos ((hasP_one 45 _).2 ⟨r, by rw [h1]⟩)]; rfl
    · rw [if_neg (fun h => h1 (e45.1 h)), hasP_one_not 45 h1, if_neg (show ¬ (false = true) by decide)]
      by_cases h2 : c = 43
      · rw [if_pos (e43.2 h2), if_pos ((hasP_one 43 _).2 ⟨r, by rw [h2]⟩)]; rfl
      · rw [if_neg (fun h => h2 (e43.1 h)), hasP_one_not 43 h2, if_neg (show ¬ (false = true) by decide)]
theorem rdB_has (u : List UInt8) : rdB u = if hasP [48, 120] u = true then (16, u.drop 2) else (10, u) := by
  unfold rdB hasP
  by_cases h : 1 < u.length ∧ u.take 2 = [48, 120]
  · rw [if_pos h, if_pos (decide_eq_true ⟨by simp; omega, h.2⟩)]
  · rw [if_neg h, if_neg (fun h' => h (by
      have := of_decide_eq_true h'
      exact ⟨by have := this.1; simp at this; omega, this.2⟩))]
theorem sgT_len (l : List UInt8) : (sgT l).2.length ≤ l.length := by
  rw [sgT_has]
  split
  · rw [List.length_drop]; omega
  · split
    · rw [List.length_drop]; omega
    · exact Nat.le_refl _
/-! ### digits with a point -/
/-- how many letters are digits, or the first point -/
def en1 (b : Int) : Bool → List UInt8 → Nat
  | _, [] => 0
  | p, c :: l => if dvB (lq8 c) < b then en1 b p l + 1 else if lq8 c = 46 ∧ p = false then en1 b true l + 1 else 0
theorem en1_le (b : Int) (p : Bool) (l : List UInt8) : en1 b p l ≤ l.length := by
  induction l generalizing p with
  | nil => exact Nat.le_refl _
  | cons c l ih =>
    rw [List.length_cons]
    unfold en1
    have h1 := ih p
    have h2 := ih true
    split
    · omega
    · split <;> omega
/-- a text at its first point -/
def ctA (l : List UInt8) : List UInt8 := if 0 ≤ Lib.indexByte l 46 then l.take (Lib.indexByte l 46).toNat else l
def ctB (l : List UInt8) : List UInt8 := if 0 ≤ Lib.indexByte l 46 then l.drop ((Lib.indexByte l 46).toNat + 1) else []
theorem ct_pt (l : List UInt8) : ctA (46 :: l) = [] ∧ ctB (46 :: l) = l := by
  have e : Lib.indexByte (46 :: l) 46 = 0 := by unfold Lib.indexByte; rfl
  unfold ctA ctB
  rw [e]
  exact ⟨rfl, rfl⟩
theorem ct_cons {c : UInt8} (h : c ≠ 46) (l : List UInt8) : ctA (c :: l) = c :: ctA l ∧ ctB (c :: l) = ctB l := by
  have e : Lib.indexByte (c :: l) 46 = if Lib.indexByte l 46 == -1 then -1 else Lib.indexByte l 46 + 1 := by
    rw [Lib.indexByte, if_neg (by simpa using h)]
  have hg := Lib.indexByte_ge l 46
  unfold ctA ctB
  by_cases hm : Lib.indexByte l 46 = -1
  · have e' : Lib.indexByte (c :: l) 46 = -1 := by rw [e, hm]; rfl
    rw [e', hm, if_neg (by decide), if_neg (by decide), if_neg (by decide), if_neg (by decide)]
    exact ⟨rfl, rfl⟩
  · have e' : Lib.indexByte (c :: l) 46 = Lib.indexByte l 46 + 1 := by rw [e, if_neg (by simpa using hm)]
    have e2 : (Lib.indexByte l 46 + 1).toNat = (Lib.indexByte l 46).toNat + 1 := by omega
    rw [e', if_pos (show 0 ≤ Lib.indexByte l 46 + 1 by omega), if_pos (show 0 ≤ Lib.indexByte l 46 + 1 by omega), if_pos (show 0 ≤ Lib.indexByte l 46 by omega), if_pos (show 0 ≤ Lib.indexByte l 46 by omega), e2]
    exact ⟨rfl, rfl⟩
theorem sc1_true {b : Int} (hb : b = 10 ∨ b = 16) (l : List UInt8) : sc1 b true l = (l.take (en1 b true l), en1 b true l, l.drop (en1 b true l)) ∧ ctA (l.take (en1 b true l)) = l.take (en1 b true l) ∧ ctB (l.take (en1 b true l)) = [] := by
  induction l with
  | nil => exact ⟨rfl, rfl, rfl⟩
  | cons c l ih =>
    obtain ⟨i1, i2, i3⟩ := ih
    unfold sc1 en1
    rw [if_neg (by intro h; exact absurd h.2 (by decide))]
    by_cases hd : dvB (lq8 c) < b
    · have hd' := (dvB_lt hb).1 hd
      have hc : c ≠ 46 := fun h => by
        rw [h] at hd'
        exact absurd hd' (by rw [show lq8 46 = 46 from rfl, dg46]; decide)
      rw [if_pos hd', if_pos hd, i1]
      obtain ⟨c1, c2⟩ := ct_cons hc (l.take (en1 b true l))
      refine ⟨?_, ?_, ?_⟩
      · rw [if_pos rfl, List.take_succ_cons, List.drop_succ_cons, Nat.add_comm]
      · rw [List.take_succ_cons, c1, i2]
      · rw [List.take_succ_cons, c2, i3]
    · rw [if_neg (fun h => hd ((dvB_lt hb).2 h)), if_neg hd, if_neg (by intro h; exact absurd h.2 (by decide))]
      exact ⟨rfl, rfl, rfl⟩
theorem sc1_false {b : Int} (hb : b = 10 ∨ b = 16) (l : List UInt8) : sc1 b false l = (ctA (l.take (en1 b false l)) ++ ctB (l.take (en1 b false l)), (ctB (l.take (en1 b false l))).length, l.drop (en1 b false l)) := by
  induction l with
  | nil => rfl
  | cons c l ih =>
    unfold sc1 en1
    by_cases h46 : lq8 c = 46
    · have hc : c = 46 := (lq8_eq (d := 46)).1 h46
      have hd : ¬ dvB (lq8 c) < b := fun h => by
        have := (dvB_lt hb).1 h
        rw [h46, dg46] at this
        exact absurd this (by decide)
      obtain ⟨t1, t2, t3⟩ := sc1_true hb l
      rw [if_pos ⟨h46, rfl⟩, if_neg hd, if_pos ⟨h46, rfl⟩, t1, List.take_succ_cons, List.drop_succ_cons, hc, (ct_pt _).1, (ct_pt _).2, List.nil_append, List.length_take, Nat.min_eq_left (en1_le b true l)]
    · have hc : c ≠ 46 := fun h => h46 (by rw [h]; rfl)
      rw [if_neg (fun h => h46 h.1)]
      by_cases hd : dvB (lq8 c) < b
      · rw [if_pos ((dvB_lt hb).1 hd), if_pos hd, ih, List.take_succ_cons, List.drop_succ_cons, (ct_cons hc _).1, (ct_cons hc _).2, if_neg (by decide), Nat.zero_add, List.cons_append]
      · rw [if_neg (fun h => hd ((dvB_lt hb).2 h)), if_neg hd, if_neg (fun h => h46 h.1)]
        rfl
/-! ### powers, cut -/
theorem foldl_cap (M : Nat) (f : UInt8 → Nat) (l : List UInt8) (a : Nat) : l.foldl (fun a c => min (a * 10 + f c) M) (min a M) = min (l.foldl (fun a c => a * 10 + f c) a) M := by
  induction l generalizing a with
  | nil => rfl
  | cons c l ih =>
    rw [List.foldl_cons, List.foldl_cons, ← ih (a * 10 + f c)]
    congr 1
    omega
/-- the digits of a power, cut at M, and whether all are digits -/
def pwM (M : Nat) : Nat → List UInt8 → Nat × Bool
  | a, [] => (a, true)
  | a, c :: l => if dvB (lq8 c) < 10 then pwM M (min (a * 10 + (dvB (lq8 c)).toNat) M) l else (0, false)
theorem allB_cons (b : Int) (c : UInt8) (l : List UInt8) : allB b (c :: l) = (decide (0 ≤ dgvR (lq8 c) b) && allB b l) := rfl
theorem pwM_all (M a : Nat) (l : List UInt8) : (pwM M a l).2 = allB 10 l := by
  induction l generalizing a with
  | nil => rfl
  | cons c l ih =>
    unfold pwM
    rw [allB_cons]
    by_cases h : dvB (lq8 c) < 10
    · rw [if_pos h, ih, decide_eq_true ((dvB_lt (.inl rfl)).1 h), Bool.true_and]
    · rw [if_neg h, decide_eq_false (fun h' => h ((dvB_lt (.inl rfl)).2 h')), Bool.false_and]
theorem pw1_all (a : Nat) (l : List UInt8) : (pw1 a l).2 = allB 10 l := by
  induction l generalizing a with
  | nil => rfl
  | cons c l ih =>
    unfold pw1
    rw [allB_cons]
    by_cases h : 0 ≤ dgvR (lq8 c) 10
    · rw [if_pos h, ih, decide_eq_true h, Bool.true_and]
    · rw [if_neg h, decide_eq_false h, Bool.false_and]
theorem pwM_fold {M a : Nat} {l : List UInt8} (h : allB 10 l = true) : (pwM M a l).1 = l.foldl (fun a c => min (a * 10 + (dgvR (lq8 c) 10).toNat) M) a := by
  induction l generalizing a with
  | nil => rfl
  | cons c l ih =>
    rw [allB_cons, Bool.and_eq_true, decide_eq_true_eq] at h
    unfold pwM
    rw [if_pos ((dvB_lt (.inl rfl)).2 h.1), ih h.2, List.foldl_cons, dvB_eq h.1]
theorem pw1_fold {a : Nat} {l : List UInt8} (h : allB 10 l = true) : (pw1 a l).1 = l.foldl (fun a c => min (a * 10 + (dgvR (lq8 c) 10).toNat) 2000000) a := by
  induction l generalizing a with
  | nil => rfl
  | cons c l ih =>
    rw [allB_cons, Bool.and_eq_true, decide_eq_true_eq] at h
    unfold pw1
    rw [if_pos h.1, ih h.2, List.foldl_cons, Nat.mul_comm 10 a]
theorem pwM_min {M : Nat} {l : List UInt8} (h : allB 10 l = true) : (pwM M 0 l).1 = min (nmB 10 l) M := by
  have := foldl_cap M (fun c => (dgvR (lq8 c) 10).toNat) l 0
  rw [Nat.zero_min] at this
  rw [pwM_fold h, this]
  rfl
theorem pw1_min {l : List UInt8} (h : allB 10 l = true) : (pw1 0 l).1 = min (nmB 10 l) 2000000 := by
  have := foldl_cap 2000000 (fun c => (dgvR (lq8 c) 10).toNat) l 0
  rw [Nat.zero_min] at this
  rw [pw1_fold h, this]
  rfl
theorem pwM_bd {M a : Nat} (h : a ≤ M) (l : List UInt8) : (pwM M a l).1 ≤ M := by
  induction l generalizing a with
  | nil => exact h
  | cons c l ih =>
    unfold pwM
    split
    · exact ih (Nat.min_le_right _ _)
    · exact Nat.zero_le _
/-- a whole number as the program reads it -/
def wnP (l : List UInt8) : Int := if (sgT l).1 = true then -((pwM 10000000 0 (sgT l).2).1 : Nat) else ((pwM 10000000 0 (sgT l).2).1 : Nat)
def wnK (l : List UInt8) : Bool := allB 10 (sgT l).2 && decide ((sgT l).2 ≠ [])
theorem wnP_bd (l : List UInt8) : -10000000 ≤ wnP l ∧ wnP l ≤ 10000000 := by
  have := pwM_bd (M := 10000000) (a := 0) (Nat.zero_le _) (sgT l).2
  unfold wnP
  split <;> omega
/-- two powers that are alike: the same, or both far -/
def alike (x y : Int) : Prop := x = y ∨ (2000000 ≤ x ∧ 2000000 ≤ y) ∨ (x ≤ -2000000 ∧ y ≤ -2000000)
/-- a numeral's power behind its digits, and whether it is one -/
def pwK (b : Int) (r : List UInt8) : Bool := if r = [] then decide (b = 10) else hasP [if b = 16 then 112 else 101] r && wnK (r.drop 1)
def pwP (r : List UInt8) : Int := if r = [] then 0 else wnP (r.drop 1)
theorem pw_alike {b : Int} (hb : b = 10 ∨ b = 16) (r : List UInt8) : pwK b r = (scE b r).2 ∧ (pwK b r = true → alike (pwP r) (scE b r).1) := by
  cases r with
  | nil =>
    unfold pwK pwP scE
    rw [if_pos rfl, if_pos rfl]
    exact ⟨rfl, fun _ => .inl rfl⟩
  | cons c r =>
    have hne : ¬ (c :: r = []) := by simp
    unfold pwK pwP
    rw [scE, if_neg hne, if_neg hne, List.drop_succ_cons, List.drop_zero]
    by_cases hc : (b = 10 ∧ lq8 c ≠ 101) ∨ (b = 16 ∧ lq8 c ≠ 112)
    · have : hasP [if b = 16 then 112 else 101] (c :: r) = false := by
        refine hasP_one_not _ fun h => ?_
        rcases hc with ⟨h1, h2⟩ | ⟨h1, h2⟩
        · rw [if_neg (by omega)] at h
          exact h2 (by rw [h]; rfl)
        · rw [if_pos h1] at h
          exact h2 (by rw [h]; rfl)
      rw [if_pos hc, this]
      exact ⟨rfl, fun h => by cases h⟩
    · have hP : hasP [if b = 16 then 112 else 101] (c :: r) = true := by
        refine (hasP_one _ _).2 ⟨r, ?_⟩
        rcases hb with rfl | rfl
        · rw [if_neg (by decide)]
          have : lq8 c = lq8 101 := by
            rcases Classical.em (lq8 c = 101) with h | h
            · exact h
            · exact absurd (.inl ⟨rfl, h⟩) hc
          rw [lq8_eq.1 this]
        · rw [if_pos rfl]
          have : lq8 c = lq8 112 := by
            rcases Classical.em (lq8 c = 112) with h | h
            · exact h
            · exact absurd (.inr ⟨rfl, h⟩) hc
          rw [lq8_eq.1 this]
      rw [if_neg hc, hP, Bool.true_and]
      unfold wnK wnP
      by_cases he : (sgT r).2 = []
      · rw [if_pos he, he]
        exact ⟨rfl, fun h => by cases h⟩
      · rw [if_neg he, decide_eq_true he, Bool.and_true]
        cases ha : allB 10 (sgT r).2 with
        | false =>
          rw [if_pos (by rw [pw1_all, ha])]
          exact ⟨rfl, fun h => by cases h⟩
        | true =>
          rw [if_neg (by rw [pw1_all, ha]; decide)]
          refine ⟨rfl, fun _ => ?_⟩
          rw [pwM_min ha, pw1_min ha]
          unfold alike
          dsimp only
          split <;> omega
/-! ### noughts behind -/
def trR (l : List UInt8) : List UInt8 := (l.reverse.dropWhile fun c => lq8 c == 48).reverse
theorem trR_nil : trR [] = [] := rfl
theorem trR_snoc (l : List UInt8) (c : UInt8) : trR (l ++ [c]) = if lq8 c = 48 then trR l else l ++ [c] := by
  unfold trR
  rw [List.reverse_append, List.reverse_singleton, List.singleton_append, List.dropWhile_cons]
  by_cases h : lq8 c = 48
  · rw [if_pos (by simpa using h), if_pos h]
  · rw [if_neg (by simpa using h), if_neg h, List.reverse_cons, List.reverse_reverse]
theorem snoc_ind {P : List UInt8 → Prop} (h0 : P []) (h1 : ∀ l c, P l → P (l ++ [c])) (l : List UInt8) : P l := by
  have key : ∀ k (l : List UInt8), l.length = k → P l := by
    intro k
    induction k with
    | zero => intro l hl; rw [List.eq_nil_of_length_eq_zero hl]; exact h0
    | succ k ih =>
      intro l hl
      have hne : l ≠ [] := fun h => by rw [h] at hl; cases hl
      rw [← List.dropLast_concat_getLast hne]
      exact h1 _ _ (ih _ (by rw [List.length_dropLast]; omega))
  exact key _ l rfl
theorem trR_len (l : List UInt8) : (trR l).length ≤ l.length := by
  unfold trR
  rw [List.length_reverse]
  have := (List.dropWhile_sublist (l := l.reverse) fun c => lq8 c == 48).length_le
  rw [List.length_reverse] at this
  exact this
theorem nmB_trR {b : Int} (l : List UInt8) : nmB b l = nmB b (trR l) * b.toNat ^ (l.length - (trR l).length) := by
  refine snoc_ind (P := fun l => nmB b l = nmB b (trR l) * b.toNat ^ (l.length - (trR l).length)) ?_ ?_ l
  · rfl
  · intro l c ih
    rw [trR_snoc]
    by_cases h : lq8 c = 48
    · have hd : (dgvR 48 b).toNat = 0 := by unfold dgvR; rw [if_pos (by omega)]; rfl
      have := trR_len l
      rw [if_pos h, nmB_snoc, h, hd, Nat.add_zero, ih, Nat.mul_assoc, ← Nat.pow_succ, List.length_append, List.length_singleton]
      congr 2
      omega
    · rw [if_neg h, Nat.sub_self, Nat.pow_zero, Nat.mul_one]
theorem trR_all {b : Int} {l : List UInt8} (h : allB b l = true) : allB b (trR l) = true := by
  unfold allB at *
  rw [List.all_eq_true] at *
  intro x hx
  unfold trR at hx
  have := (List.dropWhile_sublist _).subset (List.mem_reverse.1 hx)
  exact h x (List.mem_reverse.1 this)
/-- the last digit is not 0 -/
theorem trR_last {l r : List UInt8} {c : UInt8} (h : trR l = r ++ [c]) : lq8 c ≠ 48 := by
  have key : ∀ l : List UInt8, ∀ r c, trR l = r ++ [c] → lq8 c ≠ 48 := by
    intro l
    refine snoc_ind (P := fun l => ∀ r c, trR l = r ++ [c] → lq8 c ≠ 48) ?_ ?_ l
    · intro r c h
      rw [trR_nil] at h
      exact absurd h (by simp)
    · intro l d ih r c h
      rw [trR_snoc] at h
      by_cases h1 : lq8 d = 48
      · rw [if_pos h1] at h
        exact ih r c h
      · rw [if_neg h1] at h
        have := (List.append_inj' h rfl).2
        injection this with e
        rw [← e]
        exact h1
  exact key l r c h
theorem trR_head {b : Int} {c : UInt8} {r : List UInt8} (h : 0 < dgvR (lq8 c) b) : ∃ r', trR (c :: r) = c :: r' := by
  have key : ∀ r : List UInt8, ∃ r', trR (c :: r) = c :: r' := by
    intro r
    refine snoc_ind (P := fun r => ∃ r', trR (c :: r) = c :: r') ?_ ?_ r
    · have h48 : lq8 c ≠ 48 := fun h0 => by
        rw [h0] at h
        unfold dgvR at h
        rw [if_pos (by omega)] at h
        omega
      refine ⟨[], ?_⟩
      have := trR_snoc [] c
      rw [if_neg h48] at this
      exact this
    · intro l d ih
      have := trR_snoc (c :: l) d
      rw [List.cons_append] at this
      rw [this]
      split
      · exact ih
      · exact ⟨_, rfl⟩
  exact key r
/-! ### digits cut -/
/-- so many digits, and a 1 for all behind them -/
def shR (k : Nat) (l : List UInt8) : List UInt8 := if l.length ≤ k then l else l.take k ++ [49]
theorem nmB_app (b : Int) (x y : List UInt8) : nmB b (x ++ y) = nmB b x * b.toNat ^ y.length + nmB b y := by
  refine snoc_ind (P := fun y => nmB b (x ++ y) = nmB b x * b.toNat ^ y.length + nmB b y) ?_ ?_ y
  · rw [List.append_nil]
    show nmB b x = nmB b x * 1 + 0
    omega
  · intro l c ih
    rw [← List.append_assoc, nmB_snoc, nmB_snoc, ih, List.length_append, List.length_singleton, Nat.pow_succ, Nat.add_mul, Nat.mul_assoc, Nat.add_assoc]
theorem nmB_last {b : Int} {l : List UInt8} {c : UInt8} (h : allB b (l ++ [c]) = true) (h48 : lq8 c ≠ 48) : 0 < nmB b (l ++ [c]) := by
  have h1 : 0 ≤ dgvR (lq8 c) b := by
    unfold allB at h
    exact of_decide_eq_true (List.all_eq_true.1 h c (List.mem_append.2 (.inr (List.mem_singleton.2 rfl))))
  have h2 : 0 < dgvR (lq8 c) b := by
    have := dvB_eq h1
    unfold dgvR at *
    split
    · omega
    · rename_i h3
      rw [if_neg h3] at h1
      split
      · omega
      · rename_i h4
        rw [if_neg h4] at h1
        omega
  rw [nmB_snoc]
  omega
/-- what is cut off a row of digits whose last one is not 0 -/
theorem cut_parts {b : Int} (hb : b = 10 ∨ b = 16) {l : List UInt8} {k : Nat} (hk : k < l.length) (ha : allB b l = true) (hl : ∀ r c, l = r ++ [c] → lq8 c ≠ 48) : nmB b l = nmB b (l.take k) * b.toNat ^ (l.length - k) + nmB b (l.drop k) ∧ 0 < nmB b (l.drop k) ∧ nmB b (l.drop k) < b.toNat ^ (l.length - k) := by
  have e := nmB_app b (l.take k) (l.drop k)
  rw [List.take_append_drop, List.length_drop] at e
  refine ⟨e, ?_, ?_⟩
  · have hne : l.drop k ≠ [] := fun h => by
      have := congrArg List.length h
      rw [List.length_drop] at this
      simp at this
      omega
    have e2 := (List.dropLast_concat_getLast hne).symm
    rw [e2]
    refine nmB_last ?_ ?_
    · rw [← e2]
      unfold allB at *
      rw [List.all_eq_true] at *
      exact fun x hx => ha x (List.mem_of_mem_drop hx)
    · exact hl (l.take k ++ (l.drop k).dropLast) _ (by rw [List.append_assoc, ← e2, List.take_append_drop])
  · have := nmB_lt hb (l.drop k)
    rw [List.length_drop] at this
    exact this
theorem one_dg (b : Int) : (dgvR (lq8 49) b).toNat = 1 := by unfold dgvR; rw [if_pos (by decide)]; rfl
end Go.Rd
