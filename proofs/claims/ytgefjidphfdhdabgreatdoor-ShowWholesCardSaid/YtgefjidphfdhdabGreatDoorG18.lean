/-
  NumSp, NumSr, NumSs
-/
import Derived.Test.YtgefjidphfdhdabGreatDoorG17
namespace Go.Rd
open Go.Rn Go.Pt
/-- a number between a pattern and the next: S is the pattern's number in steps of 2^x, d is how far T is, in steps of 2^-k -/
theorem cell_rn (n : Bool) {S k T : Nat} {x E : Int} (hx : -1074 ≤ x) (hS : S < 9007199254740992) (h : x = -1074 ∨ 4503599627370496 ≤ S) (hb : (x + 1074) * 4503599627370496 + (S : Int) < 9218868437227405312) (hE : E = x - (k : Nat)) (hk : 1 ≤ k) (h1 : S * 2 ^ k ≤ T) (h2 : T < (S + 1) * 2 ^ k) (hT : T ≠ 0) :
    rnP 0 n T E = (x + 1074) * 4503599627370496 + (S : Int) + (if S * 2 ^ k + 2 ^ (k - 1) < T ∨ (T = S * 2 ^ k + 2 ^ (k - 1) ∧ S % 2 = 1) then 1 else 0) := by
  have hp : 0 < 2 ^ k := Nat.pow_pos (by omega)
  have hpe : 2 ^ k = 2 * 2 ^ (k - 1) := by rw [Nat.mul_comm, ← Nat.pow_succ]; congr 1; omega
  have e53 : (2 : Nat) ^ 53 = 9007199254740992 := rfl
  have e52 : (2 : Nat) ^ 52 = 4503599627370496 := rfl
  have lb : bitLen T ≤ 53 + k := by
    refine len_le ?_
    refine Nat.lt_of_lt_of_le h2 ?_
    rw [Nat.pow_add]
    exact Nat.mul_le_mul_right _ (by omega)
  have he : lowE T E = x := by
    unfold lowE lgN
    rcases h with h | h
    · rw [if_pos (by omega)]; omega
    · have : 52 + k + 1 ≤ bitLen T := by
        refine le_len ?_
        rw [Nat.pow_add]
        exact Nat.le_trans (Nat.mul_le_mul_right _ (by omega)) h1
      split <;> omega
  have hdiv : T / 2 ^ k = S := Nat.div_eq_of_lt_le h1 h2
  have hmod : T % 2 ^ k = T - S * 2 ^ k := by
    have := Nat.div_add_mod T (2 ^ k)
    rw [hdiv, Nat.mul_comm] at this
    omega
  obtain ⟨P, hP⟩ : ∃ P, P = 2 ^ (k - 1) := ⟨_, rfl⟩
  obtain ⟨Q, hQ⟩ : ∃ Q, Q = S * 2 ^ k := ⟨_, rfl⟩
  have hs : (S + 1) * 2 ^ k = Q + 2 * P := by rw [Nat.add_mul, Nat.one_mul, hpe, ← hP, hQ, hpe, hP]
  rw [← hQ, ← hP]
  rw [hs] at h2
  rw [← hQ] at h1 hmod
  have hq : toQ 0 n T E x = S + (if Q + P < T ∨ (T = Q + P ∧ S % 2 = 1) then 1 else 0) := by
    unfold toQ
    rw [if_neg (by omega), show (x - E).toNat = k by omega]
    unfold rq
    rw [hdiv, hmod, hpe, ← hP]
    congr 1
    have hu : upR 0 n (odd S) (restC (T - Q) (2 * P)) = decide (Q + P < T ∨ (T = Q + P ∧ S % 2 = 1)) := by
      unfold restC odd upR
      by_cases a0 : T - Q = 0
      · rw [if_pos a0, if_pos rfl]
        exact (decide_eq_false (by omega)).symm
      · rw [if_neg a0]
        by_cases a1 : 2 * (T - Q) < 2 * P
        · rw [if_pos a1]
          have : ¬ (Q + P < T ∨ (T = Q + P ∧ S % 2 = 1)) := by omega
          rw [decide_eq_false this]
          simp
        · rw [if_neg a1]
          by_cases a2 : 2 * (T - Q) = 2 * P
          · rw [if_pos a2]
            have e : (Q + P < T ∨ (T = Q + P ∧ S % 2 = 1)) = (S % 2 = 1) := by
              apply propext
              omega
            simp only [e]
            simp
          · rw [if_neg a2]
            have : Q + P < T ∨ (T = Q + P ∧ S % 2 = 1) := by omega
            rw [decide_eq_true this]
            simp
    rw [hu]
    by_cases c : Q + P < T ∨ (T = Q + P ∧ S % 2 = 1)
    · rw [decide_eq_true c, if_pos rfl, if_pos c]
    · rw [decide_eq_false c, if_neg (by decide), if_neg c]
  have hbey : bey 0 n = 9218868437227405312 := by unfold bey upR; simp
  unfold rnP p0
  rw [if_neg hT, he, hq]
  split
  · rw [hbey]; omega
  · omega
/-- a number's place among the quotients with a last bit for the rest -/
theorem dv_le_iff {A B u c : Nat} (hB : 0 < B) : dvK A B u ≤ 2 * c ↔ A * 2 ^ u ≤ c * B := by
  constructor
  · intro h
    have h3 := Nat.div_add_mod (A * 2 ^ u) B
    unfold dvK at h
    by_cases hr : A * 2 ^ u % B = 0
    · rw [if_pos hr] at h
      have : B * (A * 2 ^ u / B) ≤ B * c := Nat.mul_le_mul_left _ (by omega)
      rw [Nat.mul_comm c]
      omega
    · rw [if_neg hr] at h
      have h1 : A * 2 ^ u / B + 1 ≤ c := by omega
      have : B * (A * 2 ^ u / B + 1) ≤ B * c := Nat.mul_le_mul_left _ h1
      have hm := Nat.mod_lt (A * 2 ^ u) hB
      rw [Nat.mul_add, Nat.mul_one] at this
      rw [Nat.mul_comm c]
      omega
  · exact dv_le
theorem dv_ge_iff {A B u c : Nat} (hB : 0 < B) : 2 * c ≤ dvK A B u ↔ c * B ≤ A * 2 ^ u := by
  constructor
  · intro h
    have h1 : c ≤ A * 2 ^ u / B := by
      unfold dvK at h
      split at h <;> omega
    exact (Nat.le_div_iff_mul_le hB).1 h1
  · exact dv_ge hB
/-- what a finite pattern is -/
theorem fin_mag {p : Int} (hf : ex p ≠ 2047) : mag p = (xp p + 1074) * 4503599627370496 + (sg p).toNat ∧ (xp p = -1074 ∨ 4503599627370496 ≤ (sg p).toNat) ∧ mag p < 9218868437227405312 := by
  have h1 := ex_lt p
  have h2 := fr_lt p
  have h4 : mag p = 4503599627370496 * ex p + fr p := by unfold mag ex fr; omega
  by_cases he : ex p = 0
  · have e1 : sg p = fr p := by unfold sg; rw [if_pos he]
    have e2 : xp p = -1074 := by unfold xp; rw [if_pos he]
    rw [e1, e2]
    exact ⟨by omega, .inl rfl, by omega⟩
  · have e1 : sg p = fr p + 4503599627370496 := by unfold sg; rw [if_neg he, if_neg hf]
    have e2 : xp p = ex p - 1075 := by unfold xp; rw [if_neg he, if_neg hf]
    rw [e1, e2]
    exact ⟨by omega, .inr (by omega), by omega⟩
/-- the middles to the neighbours, in fourths of a step -/
def mdL (S : Nat) (x : Int) : Nat := if S = 4503599627370496 ∧ -1074 < x then 4 * S - 1 else 4 * S - 2
def mdH (S : Nat) : Nat := 4 * S + 2
/-- which numbers T, in steps of 2^-k, are rounded to the pattern -/
theorem rn_span (n : Bool) {p : Int} (h : Fin14 p) {T k : Nat} (hk : 3 ≤ k) : rnP 0 n T (xp p - (k : Nat)) = mag p ↔ (if (sg p).toNat % 2 = 0 then mdL (sg p).toNat (xp p) * 2 ^ (k - 2) ≤ T ∧ T ≤ mdH (sg p).toNat * 2 ^ (k - 2) else mdL (sg p).toNat (xp p) * 2 ^ (k - 2) < T ∧ T < mdH (sg p).toNat * 2 ^ (k - 2)) := by
  obtain ⟨m1, m2, m3⟩ := fin_mag h.fin
  obtain ⟨S, hS⟩ : ∃ S, S = (sg p).toNat := ⟨_, rfl⟩
  obtain ⟨x, hx⟩ : ∃ x, x = xp p := ⟨_, rfl⟩
  have f1 := h.ne
  have f2 := h.e0
  have f3 := h.s1
  rw [← hS, ← hx] at m1
  rw [← hS] at f1 f3 m2
  rw [← hx] at f2 m2
  rw [← hS, ← hx]
  obtain ⟨Q, hQ⟩ : ∃ Q, Q = 2 ^ (k - 2) := ⟨_, rfl⟩
  obtain ⟨R, hR⟩ : ∃ R, R = 2 ^ (k - 3) := ⟨_, rfl⟩
  have hQR : Q = 2 * R := by rw [hQ, hR, Nat.mul_comm, ← Nat.pow_succ]; congr 1; omega
  have hR0 : 0 < R := by rw [hR]; exact Nat.pow_pos (by omega)
  have hk0 : 2 ^ k = 4 * Q := by rw [hQ, show (4 : Nat) = 2 ^ 2 from rfl, ← Nat.pow_add]; congr 1; omega
  have hk1 : 2 ^ (k - 1) = 2 * Q := by rw [hQ, Nat.mul_comm, ← Nat.pow_succ]; congr 1; omega
  rw [← hQ]
  -- above
  have up : ∀ T : Nat, S * (4 * Q) ≤ T → T < (S + 1) * (4 * Q) → T ≠ 0 → rnP 0 n T (x - (k : Nat)) = mag p + (if S * (4 * Q) + 2 * Q < T ∨ (T = S * (4 * Q) + 2 * Q ∧ S % 2 = 1) then 1 else 0) := fun T t1 t2 t3 => by
    have := cell_rn n (S := S) (k := k) (T := T) (x := x) (E := x - (k : Nat)) f2 f3 m2 (by omega) rfl (by omega) (by rw [hk0]; exact t1) (by rw [hk0]; exact t2) t3
    rw [hk0, hk1, ← m1] at this
    exact this
  have eSQ : S * (4 * Q) = 4 * (S * Q) := by rw [← Nat.mul_assoc, Nat.mul_comm S 4, Nat.mul_assoc]
  have eS1 : (S + 1) * (4 * Q) = 4 * (S * Q) + 4 * Q := by rw [Nat.add_mul, eSQ, Nat.one_mul]
  have eH : mdH S * Q = 4 * (S * Q) + 2 * Q := by unfold mdH; rw [Nat.add_mul, Nat.mul_assoc]
  have hSQ : Q ≤ S * Q := Nat.le_mul_of_pos_left _ (by omega)
  obtain ⟨W, hW⟩ : ∃ W, W = S * Q := ⟨_, rfl⟩
  rw [eSQ, eS1] at up
  rw [eH]
  rw [← hW] at up hSQ ⊢
  have upA : ∀ T, 4 * W + 2 * Q < T → mag p + 1 ≤ rnP 0 n T (x - (k : Nat)) := fun T ht => by
    have a := up (4 * W + 2 * Q + 1) (by omega) (by omega) (by omega)
    rw [if_pos (.inl (by omega))] at a
    rw [← a]
    exact rnP_mono (by omega)
  have upM := up (4 * W + 2 * Q) (by omega) (by omega) (by omega)
  have upB : ∀ T, T < 4 * W + 2 * Q → rnP 0 n T (x - (k : Nat)) ≤ mag p := fun T ht => by
    have a := up (4 * W + 2 * Q - 1) (by omega) (by omega) (by omega)
    rw [if_neg (by omega), Int.add_zero] at a
    rw [← a]
    exact rnP_mono (by omega)
  -- below
  have dn : ∃ D, D = mdL S x * Q ∧ D < 4 * W ∧ (∀ T, D < T → mag p ≤ rnP 0 n T (x - (k : Nat))) ∧ rnP 0 n D (x - (k : Nat)) = mag p - (if S % 2 = 1 then 1 else 0) ∧ (∀ T, T < D → rnP 0 n T (x - (k : Nat)) ≤ mag p - 1) := by
    by_cases ht : S = 4503599627370496 ∧ -1074 < x
    · have eL : mdL S x * Q = 4 * W - Q := by
        unfold mdL
        rw [if_pos ht, Nat.sub_mul, Nat.one_mul, Nat.mul_assoc, ← hW]
      have cell : ∀ T : Nat, 4 * W - 2 * Q ≤ T → T < 4 * W → T ≠ 0 → rnP 0 n T (x - (k : Nat)) = mag p - 1 + (if 4 * W - Q < T ∨ (T = 4 * W - Q ∧ 9007199254740991 % 2 = 1) then 1 else 0) := fun T t1 t2 t3 => by
        have hk2 : 2 ^ (k - 1 - 1) = Q := by rw [hQ]; congr 1
        have e1 : 9007199254740991 * (2 * Q) = 4 * W - 2 * Q := by rw [hW, ht.1]; omega
        have e2 : (9007199254740991 + 1) * (2 * Q) = 4 * W := by rw [hW, ht.1]; omega
        have := cell_rn n (S := 9007199254740991) (k := k - 1) (T := T) (x := x - 1) (E := x - (k : Nat)) (by omega) (by omega) (.inr (by omega)) (by omega) (by omega) (by omega) (by rw [hk1, e1]; exact t1) (by rw [hk1, e2]; exact t2) t3
        rw [hk1, hk2, e1] at this
        rw [this, m1, ht.1]
        have e3 : 4 * W - 2 * Q + Q = 4 * W - Q := by omega
        rw [e3]
        omega
      refine ⟨4 * W - Q, eL.symm, by omega, fun T t => ?_, ?_, fun T t => ?_⟩
      · have a := cell (4 * W - Q + 1) (by omega) (by omega) (by omega)
        rw [if_pos (.inl (by omega))] at a
        have b := rnP_mono (m := 0) (neg := n) (E := x - (k : Nat)) (show 4 * W - Q + 1 ≤ T by omega)
        omega
      · have a := cell (4 * W - Q) (by omega) (by omega) (by omega)
        rw [if_pos (.inr ⟨rfl, rfl⟩)] at a
        rw [a, if_neg (by omega)]
        omega
      · have a := cell (4 * W - Q - 1) (by omega) (by omega) (by omega)
        rw [if_neg (by omega)] at a
        have b := rnP_mono (m := 0) (neg := n) (E := x - (k : Nat)) (show T ≤ 4 * W - Q - 1 by omega)
        omega
    · have eL : mdL S x * Q = 4 * W - 2 * Q := by
        unfold mdL
        rw [if_neg ht, Nat.sub_mul, Nat.mul_assoc, ← hW]
      have cell : ∀ T : Nat, 4 * W - 4 * Q ≤ T → T < 4 * W → T ≠ 0 → rnP 0 n T (x - (k : Nat)) = mag p - 1 + (if 4 * W - 2 * Q < T ∨ (T = 4 * W - 2 * Q ∧ (S - 1) % 2 = 1) then 1 else 0) := fun T t1 t2 t3 => by
        have e1 : (S - 1) * (4 * Q) = 4 * W - 4 * Q := by rw [Nat.sub_mul, eSQ, Nat.one_mul, ← hW]
        have e2 : (S - 1 + 1) * (4 * Q) = 4 * W := by rw [show S - 1 + 1 = S by omega, eSQ, ← hW]
        have := cell_rn n (S := S - 1) (k := k) (T := T) (x := x) (E := x - (k : Nat)) f2 (by omega) (by omega) (by omega) rfl (by omega) (by rw [hk0, e1]; exact t1) (by rw [hk0, e2]; exact t2) t3
        rw [hk0, hk1, e1, show 4 * W - 4 * Q + 2 * Q = 4 * W - 2 * Q by omega] at this
        rw [this, m1]
        omega
      refine ⟨4 * W - 2 * Q, eL.symm, by omega, fun T t => ?_, ?_, fun T t => ?_⟩
      · have a := cell (4 * W - 2 * Q + 1) (by omega) (by omega) (by omega)
        rw [if_pos (.inl (by omega))] at a
        have b := rnP_mono (m := 0) (neg := n) (E := x - (k : Nat)) (show 4 * W - 2 * Q + 1 ≤ T by omega)
        omega
      · have a := cell (4 * W - 2 * Q) (by omega) (by omega) (by omega)
        rw [a]
        split <;> split <;> omega
      · have a := cell (4 * W - 2 * Q - 1) (by omega) (by omega) (by omega)
        rw [if_neg (by omega)] at a
        have b := rnP_mono (m := 0) (neg := n) (E := x - (k : Nat)) (show T ≤ 4 * W - 2 * Q - 1 by omega)
        omega
  obtain ⟨D, hD, hDW, dnA, dnM, dnB⟩ := dn
  rw [← hD]
  by_cases hpar : S % 2 = 0
  · rw [if_pos hpar]
    rw [if_neg (by omega)] at upM dnM
    constructor
    · intro e
      constructor
      · rcases Nat.lt_or_ge T D with t | t
        · have := dnB T t; omega
        · exact t
      · rcases Nat.lt_or_ge (4 * W + 2 * Q) T with t | t
        · have := upA T t; omega
        · exact t
    · rintro ⟨t1, t2⟩
      have a : mag p ≤ rnP 0 n T (x - (k : Nat)) := by
        rcases Nat.lt_or_ge D T with t | t
        · exact dnA T t
        · rw [show T = D by omega, dnM]; omega
      have b : rnP 0 n T (x - (k : Nat)) ≤ mag p := by
        rcases Nat.lt_or_ge T (4 * W + 2 * Q) with t | t
        · exact upB T t
        · rw [show T = 4 * W + 2 * Q by omega, upM]; omega
      omega
  · rw [if_neg hpar]
    rw [if_pos (.inr ⟨rfl, by omega⟩)] at upM
    rw [if_pos (by omega)] at dnM
    constructor
    · intro e
      constructor
      · rcases Nat.lt_or_ge D T with t | t
        · exact t
        · have := rnP_mono (m := 0) (neg := n) (E := x - (k : Nat)) t; omega
      · rcases Nat.lt_or_ge T (4 * W + 2 * Q) with t | t
        · exact t
        · have := rnP_mono (m := 0) (neg := n) (E := x - (k : Nat)) t; omega
    · rintro ⟨t1, t2⟩
      have a := dnA T t1
      have b := upB T t2
      omega
/-- a quotient: which are rounded to the pattern -/
theorem rq_span (n : Bool) {p : Int} (h : Fin14 p) {A B : Nat} (hA : A ≠ 0) (hB : B ≠ 0) : rqP 0 n A B = mag p ↔ (if (sg p).toNat % 2 = 0 then mdL (sg p).toNat (xp p) * (2 ^ (xp p - 2).toNat * B) ≤ A * 2 ^ (2 - xp p).toNat ∧ A * 2 ^ (2 - xp p).toNat ≤ mdH (sg p).toNat * (2 ^ (xp p - 2).toNat * B) else mdL (sg p).toNat (xp p) * (2 ^ (xp p - 2).toNat * B) < A * 2 ^ (2 - xp p).toNat ∧ A * 2 ^ (2 - xp p).toNat < mdH (sg p).toNat * (2 ^ (xp p - 2).toNat * B)) := by
  have f2 := h.e0
  have f3 := h.e1
  obtain ⟨u, hu⟩ : ∃ u, u = 1200 + upN A B := ⟨_, rfl⟩
  have hbits : 54 ≤ bitLen (A * 2 ^ u / B) := by
    have h3 := upN_bits hA hB
    have h4 : A * 2 ^ upN A B / B ≤ A * 2 ^ u / B := Nat.div_le_div_right (Nat.mul_le_mul_left _ (Nat.pow_le_pow_right (by omega) (by omega)))
    have h5 : 2 ^ 79 ≤ A * 2 ^ upN A B / B := by
      rw [Nat.le_div_iff_mul_le (by omega)]
      exact up_big hA
    have := le_len (Nat.le_trans h5 h4)
    omega
  rw [← (rq_any (m := 0) (n := n) hA hB hbits).1]
  obtain ⟨k, hk⟩ : ∃ k : Nat, (k : Int) = xp p + u + 1 := ⟨(xp p + u + 1).toNat, by omega⟩
  have hs := rn_span n h (T := dvK A B u) (k := k) (by omega)
  rw [show xp p - (k : Nat) = -(u : Int) - 1 by omega] at hs
  rw [hs]
  obtain ⟨x, hx⟩ : ∃ x, x = xp p := ⟨_, rfl⟩
  rw [← hx] at hk f2 f3 ⊢
  have hB0 : 0 < B := by omega
  have e2 : 2 ^ (k - 2) = 2 * 2 ^ (k - 3) := by rw [Nat.mul_comm, ← Nat.pow_succ]; congr 1; omega
  have e3 : ∀ m, m * 2 ^ (k - 2) = 2 * (m * 2 ^ (k - 3)) := fun m => by rw [e2, ← Nat.mul_assoc, Nat.mul_comm m 2, Nat.mul_assoc]
  have ex : 2 ^ (k - 3) * 2 ^ (2 - x).toNat = 2 ^ (x - 2).toNat * 2 ^ u := by rw [← Nat.pow_add, ← Nat.pow_add]; congr 1; omega
  have hu0 : 0 < 2 ^ u := Nat.pow_pos (by omega)
  have hx0 : 0 < 2 ^ (2 - x).toNat := Nat.pow_pos (by omega)
  have key : ∀ m, (m * 2 ^ (k - 3) * B ≤ A * 2 ^ u ↔ m * (2 ^ (x - 2).toNat * B) ≤ A * 2 ^ (2 - x).toNat) ∧ (A * 2 ^ u ≤ m * 2 ^ (k - 3) * B ↔ A * 2 ^ (2 - x).toNat ≤ m * (2 ^ (x - 2).toNat * B)) := fun m => by
    have l : m * 2 ^ (k - 3) * B * 2 ^ (2 - x).toNat = m * (2 ^ (x - 2).toNat * B) * 2 ^ u := by
      have : m * 2 ^ (k - 3) * B * 2 ^ (2 - x).toNat = m * (2 ^ (k - 3) * 2 ^ (2 - x).toNat) * B := by ac_rfl
      rw [this, ex]
      ac_rfl
    have r : A * 2 ^ u * 2 ^ (2 - x).toNat = A * 2 ^ (2 - x).toNat * 2 ^ u := by ac_rfl
    constructor
    · rw [← Nat.mul_le_mul_right_iff hx0, l, r, Nat.mul_le_mul_right_iff hu0]
    · rw [← Nat.mul_le_mul_right_iff hx0, l, r, Nat.mul_le_mul_right_iff hu0]
  rw [e3, e3]
  obtain ⟨a1, a2⟩ := key (mdL (sg p).toNat x)
  obtain ⟨b1, b2⟩ := key (mdH (sg p).toNat)
  have c1 := dv_ge_iff (A := A) (u := u) (c := mdL (sg p).toNat x * 2 ^ (k - 3)) hB0
  have c2 := dv_le_iff (A := A) (u := u) (c := mdL (sg p).toNat x * 2 ^ (k - 3)) hB0
  have d1 := dv_ge_iff (A := A) (u := u) (c := mdH (sg p).toNat * 2 ^ (k - 3)) hB0
  have d2 := dv_le_iff (A := A) (u := u) (c := mdH (sg p).toNat * 2 ^ (k - 3)) hB0
  split
  · rw [c1, a1, d2, b2]
  · rw [← Nat.not_le, ← Nat.not_le, ← Nat.not_le, ← Nat.not_le, c2, a2, d1, b1]
/-- the scale: a fourth of a step, in units of 10^j, as two numbers -/
def ovN (E j : Int) : Nat := 2 ^ (E - 2).toNat * 10 ^ (-j).toNat
def unN14 (E j : Int) : Nat := 2 ^ (2 - E).toNat * 10 ^ j.toNat
/-- which numbers, in units of 10^j, are read as the pattern -/
def inSp (p j : Int) (N : Nat) : Bool := if (sg p).toNat % 2 = 0 then decide (mdL (sg p).toNat (xp p) * ovN (xp p) j ≤ N * unN14 (xp p) j) && decide (N * unN14 (xp p) j ≤ mdH (sg p).toNat * ovN (xp p) j) else decide (mdL (sg p).toNat (xp p) * ovN (xp p) j < N * unN14 (xp p) j) && decide (N * unN14 (xp p) j < mdH (sg p).toNat * ovN (xp p) j)
theorem de_span (n : Bool) {p : Int} (h : Fin14 p) {N : Nat} (hN : N ≠ 0) (j : Int) : decide (deP 0 n N j = mag p) = inSp p j N := by
  have q := rq_span n h (A := N * 10 ^ j.toNat) (B := 10 ^ (-j).toNat) (mul_ne hN (ten_ne _)) (ten_ne _)
  have e : N * 10 ^ j.toNat * 2 ^ (2 - xp p).toNat = N * unN14 (xp p) j := by unfold unN14; ac_rfl
  rw [e] at q
  unfold deP inSp ovN
  split at q
  · rename_i hp
    rw [if_pos hp, ← Bool.decide_and]
    exact decide_eq_decide.2 q
  · rename_i hp
    rw [if_neg hp, ← Bool.decide_and]
    exact decide_eq_decide.2 q
/-! ### as the program tells them -/
def sp14F (E j : Int) (m : Nat) : Nat := m * ovN E j / unN14 E j
def sp14R (E j : Int) (m : Nat) : Bool := decide (m * ovN E j % unN14 E j ≠ 0)
def sp14A (p j : Int) : Nat := sp14F (xp p) j (4 * (sg p).toNat)
def sp14M (p j : Int) : Bool := sp14R (xp p) j (4 * (sg p).toNat)
def sp14L (p j : Int) : Nat := sp14F (xp p) j (mdL (sg p).toNat (xp p)) + (if sp14R (xp p) j (mdL (sg p).toNat (xp p)) = true ∨ (sg p).toNat % 2 = 1 then 1 else 0)
def sp14H (p j : Int) : Nat := sp14F (xp p) j (mdH (sg p).toNat) - (if sp14R (xp p) j (mdH (sg p).toNat) = false ∧ (sg p).toNat % 2 = 1 then 1 else 0)
theorem unN_pos (E j : Int) : 0 < unN14 E j := Nat.mul_pos (Nat.pow_pos (by omega)) (Nat.pow_pos (by omega))
theorem ovN_pos (E j : Int) : 0 < ovN E j := Nat.mul_pos (Nat.pow_pos (by omega)) (Nat.pow_pos (by omega))
theorem fl_ge {N M U : Nat} (hU : 0 < U) : M ≤ N * U ↔ M / U + (if M % U ≠ 0 then 1 else 0) ≤ N := by
  have h := Nat.div_add_mod M U
  have hm := Nat.mod_lt M hU
  rw [Nat.mul_comm] at h
  constructor
  · intro hn
    rcases Nat.lt_or_ge N (M / U + (if M % U ≠ 0 then 1 else 0)) with c | c
    · split at c
      · have := Nat.mul_le_mul_right U (show N ≤ M / U by omega)
        omega
      · have := Nat.mul_le_mul_right U (show N + 1 ≤ M / U by omega)
        rw [Nat.add_mul] at this
        omega
    · exact c
  · intro hn
    split at hn
    · have := Nat.mul_le_mul_right U hn
      rw [Nat.add_mul] at this
      omega
    · have := Nat.mul_le_mul_right U (show M / U ≤ N by omega)
      omega
theorem fl_le {N M U : Nat} (hU : 0 < U) : N * U ≤ M ↔ N ≤ M / U := (Nat.le_div_iff_mul_le hU).symm
theorem fl_gt {N M U : Nat} (hU : 0 < U) : M < N * U ↔ M / U + 1 ≤ N := by rw [← Nat.not_le, fl_le hU]; omega
theorem fl_lt {N M U : Nat} (hU : 0 < U) (hM : 0 < M) : N * U < M ↔ N ≤ M / U - (if M % U = 0 then 1 else 0) := by
  have h := fl_ge (N := N) (M := M) hU
  rw [← Nat.not_le, h]
  have h2 : M % U = 0 → 1 ≤ M / U := fun h0 => by
    have := Nat.div_add_mod M U
    rcases Nat.eq_zero_or_pos (M / U) with c | c
    · rw [c, h0] at this; omega
    · exact c
  by_cases c : M % U = 0
  · have := h2 c
    rw [if_neg (by omega), if_pos c]
    omega
  · rw [if_pos c, if_neg c, Nat.sub_zero, Nat.not_le, Nat.lt_add_one_iff]
/-- between the two numbers that the program tells -/
theorem sp_has {p : Int} (h : Fin14 p) (j : Int) (N : Nat) : inSp p j N = (decide (sp14L p j ≤ N) && decide (N ≤ sp14H p j)) := by
  have hU := unN_pos (xp p) j
  have hO := ovN_pos (xp p) j
  have f1 := h.ne
  have hM : 0 < mdH (sg p).toNat * ovN (xp p) j := Nat.mul_pos (by unfold mdH; omega) hO
  obtain ⟨a, ha⟩ : ∃ a, a = mdL (sg p).toNat (xp p) * ovN (xp p) j := ⟨_, rfl⟩
  obtain ⟨b, hb⟩ : ∃ b, b = mdH (sg p).toNat * ovN (xp p) j := ⟨_, rfl⟩
  obtain ⟨u, hu⟩ : ∃ u, u = unN14 (xp p) j := ⟨_, rfl⟩
  unfold inSp sp14L sp14H sp14F sp14R
  rw [← ha, ← hb, ← hu]
  rw [← hb] at hM
  rw [← hu] at hU
  have g1 := fl_ge (N := N) (M := a) hU
  have g2 := fl_le (N := N) (M := b) hU
  have g3 := fl_gt (N := N) (M := a) hU
  have g4 := fl_lt (N := N) (M := b) hU hM
  have bo : ∀ P Q R S : Prop, [Decidable P] → [Decidable Q] → [Decidable R] → [Decidable S] → (P ↔ R) → (Q ↔ S) → (decide P && decide Q) = (decide R && decide S) := by
    intro P Q R S _ _ _ _ h1 h2
    rw [decide_eq_decide.2 h1, decide_eq_decide.2 h2]
  split
  · rename_i hp
    refine bo _ _ _ _ ?_ ?_
    · rw [g1]
      by_cases c : a % u ≠ 0
      · rw [if_pos c, if_pos (.inl (decide_eq_true c))]
      · rw [if_neg c, if_neg]
        rintro (d | d)
        · exact c (of_decide_eq_true d)
        · omega
    · rw [g2, if_neg (fun c => by omega), Nat.sub_zero]
  · rename_i hp
    refine bo _ _ _ _ ?_ ?_
    · rw [g3, if_pos (.inr (by omega))]
    · rw [g4]
      by_cases c : b % u = 0
      · rw [if_pos c, if_pos ⟨decide_eq_false (fun d => d c), by omega⟩]
      · rw [if_neg c, if_neg (fun d => of_decide_eq_false d.1 c)]
/-- k digits, noughts ahead -/
def fx : Nat → Nat → List UInt8
  | 0, _ => []
  | k + 1, n => fx k (n / 10) ++ [chD (n % 10)]
theorem fx_len (k n : Nat) : (fx k n).length = k := by
  induction k generalizing n with
  | zero => rfl
  | succ k ih => unfold fx; rw [List.length_append, ih, List.length_singleton]
theorem fx_dec {k n : Nat} (h0 : 1 ≤ k) (h1 : 10 ^ (k - 1) ≤ n) (h2 : n < 10 ^ k) : fx k n = decF k n := by
  induction k generalizing n with
  | zero => omega
  | succ k ih =>
    unfold fx decF
    by_cases hk : k = 0
    · subst hk
      rw [if_pos (by simpa using h2), Nat.mod_eq_of_lt (by simpa using h2)]
      rfl
    · have e : 10 ^ (k + 1 - 1) = 10 * 10 ^ (k - 1) := by rw [Nat.mul_comm, ← Nat.pow_succ]; congr 1; omega
      have hp : 0 < 10 ^ (k - 1) := Nat.pow_pos (by omega)
      rw [e] at h1
      rw [Nat.pow_succ] at h2
      rw [if_neg (by omega), ih (by omega) (by omega) (by omega)]
theorem fx_app (a b n : Nat) : fx (a + b) n = fx a (n / 10 ^ b) ++ fx b n := by
  induction b generalizing n with
  | zero => rw [Nat.pow_zero, Nat.div_one, Nat.add_zero]; exact (List.append_nil _).symm
  | succ b ih =>
    rw [← Nat.add_assoc]
    show fx (a + b) (n / 10) ++ [chD (n % 10)] = fx a (n / 10 ^ (b + 1)) ++ (fx b (n / 10) ++ [chD (n % 10)])
    rw [ih, Nat.div_div_eq_div_mul, Nat.pow_succ, Nat.mul_comm 10, List.append_assoc]
theorem fx_mod (k n : Nat) : fx k (n % 10 ^ k) = fx k n := by
  induction k generalizing n with
  | zero => rfl
  | succ k ih =>
    unfold fx
    have e1 : n % 10 ^ (k + 1) / 10 = n / 10 % 10 ^ k := by rw [Nat.pow_succ, Nat.mul_comm, Nat.mod_mul_right_div_self]
    have e2 : n % 10 ^ (k + 1) % 10 = n % 10 := by rw [Nat.pow_succ]; exact Nat.mod_mul_left_mod _ _ _
    rw [e1, e2, ih]
theorem fx_take (a b n : Nat) : (fx (a + b) n).take a = fx a (n / 10 ^ b) := by
  rw [fx_app]
  have := List.take_left (l₁ := fx a (n / 10 ^ b)) (l₂ := fx b n)
  rw [fx_len] at this
  exact this
theorem fx_drop (a b n : Nat) : (fx (a + b) n).drop a = fx b n := by
  rw [fx_app]
  have := List.drop_left (l₁ := fx a (n / 10 ^ b)) (l₂ := fx b n)
  rw [fx_len] at this
  exact this
theorem fx_zero (k : Nat) : fx k 0 = List.replicate k 48 := by
  induction k with
  | zero => rfl
  | succ k ih =>
    unfold fx
    rw [Nat.zero_div, ih, List.replicate_succ']
    rfl
theorem fx_pad (a b n : Nat) : fx (a + b) (n * 10 ^ b) = fx a n ++ List.replicate b 48 := by
  rw [fx_app, Nat.mul_div_cancel _ (Nat.pow_pos (by omega)), ← fx_mod b, Nat.mul_mod_left, fx_zero]
theorem chD_48 {d : Nat} (h : d < 10) : (lq8 (chD d) = 48) = (d = 0) := by
  rw [chD_num h]
  apply propext
  omega
/-- noughts taken off at the end -/
theorem trR_fx_nil {k n : Nat} : trR (fx k n) = [] ↔ n % 10 ^ k = 0 := by
  induction k generalizing n with
  | zero => simp [fx, trR_nil, Nat.mod_one]
  | succ k ih =>
    unfold fx
    rw [trR_snoc]
    have e : n % 10 ^ (k + 1) = n % 10 + 10 * (n / 10 % 10 ^ k) := by rw [Nat.pow_succ, Nat.mul_comm, Nat.mod_mul]
    by_cases h : n % 10 = 0
    · rw [if_pos (by rw [chD_48 (by omega)]; exact h), ih, e, h]
      omega
    · rw [if_neg (by rw [chD_48 (by omega)]; exact h), e]
      constructor
      · intro c
        simp at c
      · intro c
        omega
/-- as texts are compared: by the first letter that is not the same -/
def cmS : List UInt8 → List UInt8 → Int
  | [], [] => 0
  | [], _ :: _ => -1
  | _ :: _, [] => 1
  | a :: l, b :: r => if lq8 a < lq8 b then -1 else if lq8 b < lq8 a then 1 else cmS l r
/-- a rest of digits, without the noughts at its end, against a 5: the half -/
theorem half_fx {k r : Nat} (hr : r < 10 ^ k) (h0 : r ≠ 0) : cmS (trR (fx k r)) [53] = (if 2 * r < 10 ^ k then -1 else if 2 * r = 10 ^ k then 0 else 1) := by
  cases k with
  | zero => rw [Nat.pow_zero] at hr; omega
  | succ k =>
    have e1 : fx (1 + k) r = fx 1 (r / 10 ^ k) ++ fx k r := fx_app 1 k r
    rw [Nat.add_comm 1 k] at e1
    have hp : 0 < 10 ^ k := Nat.pow_pos (by omega)
    have hd : r / 10 ^ k < 10 := by rw [Nat.div_lt_iff_lt_mul hp, Nat.mul_comm, ← Nat.pow_succ]; exact hr
    obtain ⟨d, hd0⟩ : ∃ d, d = r / 10 ^ k := ⟨_, rfl⟩
    obtain ⟨s, hs⟩ : ∃ s, s = r % 10 ^ k := ⟨_, rfl⟩
    have hrs : r = d * 10 ^ k + s := by rw [hd0, hs, Nat.mul_comm]; exact (Nat.div_add_mod r (10 ^ k)).symm
    have hs1 : s < 10 ^ k := by rw [hs]; exact Nat.mod_lt _ hp
    rw [← hd0] at hd e1
    have e2 : fx 1 d = [chD d] := by show [] ++ [chD (d % 10)] = [chD d]; rw [Nat.mod_eq_of_lt hd]; rfl
    rw [e1, e2]
    have nl : trR (fx k r) = [] ↔ s = 0 := by rw [trR_fx_nil, hs]
    have tr : ∀ l : List UInt8, trR ([chD d] ++ l) = if trR l = [] then (if d = 0 then [] else [chD d]) else chD d :: trR l := by
      intro l
      refine snoc_ind (P := fun l => trR ([chD d] ++ l) = if trR l = [] then (if d = 0 then [] else [chD d]) else chD d :: trR l) ?_ ?_ l
      · rw [trR_nil, if_pos rfl, List.append_nil]
        have := trR_snoc [] (chD d)
        rw [List.nil_append] at this
        rw [this, trR_nil]
        have e := chD_48 hd
        by_cases h : d = 0
        · rw [if_pos h, if_pos (e.mpr h)]
        · rw [if_neg h, if_neg (fun c => h (e.mp c))]
      · intro l c ih
        rw [← List.append_assoc, trR_snoc, trR_snoc]
        by_cases hc : lq8 c = 48
        · rw [if_pos hc, if_pos hc, ih]
        · rw [if_neg hc, if_neg hc, if_neg (by simp)]
          rfl
    rw [tr]
    have n53 : lq8 53 = 53 := by decide
    have nd := chD_num hd
    rw [Nat.pow_succ]
    obtain ⟨P, hP⟩ : ∃ P, P = 10 ^ k := ⟨_, rfl⟩
    rw [← hP] at hrs hs1 hp ⊢
    have md : ∀ c, d ≤ c → d * P ≤ c * P := fun c h => Nat.mul_le_mul_right _ h
    have mu : ∀ c, c ≤ d → c * P ≤ d * P := fun c h => Nat.mul_le_mul_right _ h
    by_cases hz : trR (fx k r) = []
    · have hs0 := nl.1 hz
      rw [if_pos hz, if_neg (fun c => h0 (by rw [hrs, c, hs0]; omega))]
      unfold cmS
      rw [n53, nd]
      by_cases h1 : d < 5
      · rw [if_pos (by omega), if_pos (by have := md 4 (by omega); omega)]
      · rw [if_neg (by omega)]
        by_cases h2 : d = 5
        · rw [if_neg (by omega), if_neg (by rw [hrs, h2]; omega), if_pos (by rw [hrs, h2]; omega)]
          rfl
        · have := mu 6 (by omega)
          rw [if_pos (by omega), if_neg (by omega), if_neg (by omega)]
    · have hs0 : s ≠ 0 := fun c => hz (nl.2 c)
      rw [if_neg hz]
      unfold cmS
      rw [n53, nd]
      by_cases h1 : d < 5
      · rw [if_pos (by omega), if_pos (by have := md 4 (by omega); omega)]
      · rw [if_neg (by omega)]
        have := mu 5 (by omega)
        rw [if_neg (show ¬ 2 * r < P * 10 by omega), if_neg (show ¬ 2 * r = P * 10 by omega)]
        by_cases h2 : d = 5
        · rw [if_neg (by omega)]
          cases hl : trR (fx k r) with
          | nil => exact absurd hl hz
          | cons a l => rfl
        · rw [if_pos (by omega)]
/-- what is left of a text ahead of the letters c at its end -/
def trC (c : Int) (l : List UInt8) : List UInt8 := (l.reverse.dropWhile fun x => lq8 x == c).reverse
theorem trC_48 (l : List UInt8) : trC 48 l = trR l := rfl
theorem trC_snoc (c : Int) (l : List UInt8) (x : UInt8) : trC c (l ++ [x]) = if lq8 x = c then trC c l else l ++ [x] := by
  unfold trC
  rw [List.reverse_append, List.reverse_singleton, List.singleton_append, List.dropWhile_cons]
  by_cases h : lq8 x = c
  · rw [if_pos h, if_pos (by simpa using h)]
  · rw [if_neg h, if_neg (by simpa using h)]
    simp
theorem trC_len (c : Int) (l : List UInt8) : (trC c l).length ≤ l.length := by
  unfold trC
  rw [List.length_reverse]
  have := (List.dropWhile_sublist (l := l.reverse) fun x => lq8 x == c).length_le
  rw [List.length_reverse] at this
  exact this
/-- the next digits: nines at the end become noughts -/
def nxt14 (l : List UInt8) : List UInt8 := if trC 57 l = [] then 49 :: List.replicate (l.length - (trC 57 l).length) 48 else ((trC 57 l).take ((trC 57 l).length - 1) ++ [UInt8.ofNat ((trC 57 l).getD ((trC 57 l).length - 1) 0 + 1).toNat]) ++ List.replicate (l.length - (trC 57 l).length) 48
theorem nxt_snoc (l : List UInt8) (x : UInt8) : nxt14 (l ++ [x]) = if lq8 x = 57 then nxt14 l ++ [48] else l ++ [UInt8.ofNat (x + 1).toNat] := by
  unfold nxt14
  rw [trC_snoc]
  by_cases h : lq8 x = 57
  · have := trC_len 57 l
    rw [if_pos h, if_pos h, List.length_append, List.length_singleton, show l.length + 1 - (trC 57 l).length = l.length - (trC 57 l).length + 1 by omega, List.replicate_succ']
    split
    · rfl
    · simp only [List.append_assoc]
  · rw [if_neg h, if_neg h, if_neg (by simp)]
    simp
theorem chD_57 {d : Nat} (h : d < 10) : (lq8 (chD d) = 57) = (d = 9) := by
  rw [chD_num h]
  apply propext
  omega
theorem chD_succ {d : Nat} (h : d < 9) : UInt8.ofNat (chD d + 1).toNat = chD (d + 1) := by
  have key : ∀ x : Fin 9, UInt8.ofNat (chD x.1 + 1).toNat = chD (x.1 + 1) := by decide
  exact key ⟨d, h⟩
theorem nxt_fx (k n : Nat) (h : n < 10 ^ k) : nxt14 (fx k n) = if n + 1 = 10 ^ k then fx (k + 1) (n + 1) else fx k (n + 1) := by
  induction k generalizing n with
  | zero =>
    have : n = 0 := by simpa using h
    subst this
    rfl
  | succ k ih =>
    have hp : 0 < 10 ^ k := Nat.pow_pos (by omega)
    have e10 : 10 ^ (k + 1) = 10 * 10 ^ k := by rw [Nat.pow_succ, Nat.mul_comm]
    have e1 : fx (k + 1) n = fx k (n / 10) ++ [chD (n % 10)] := rfl
    have e2 : fx (k + 1) (n + 1) = fx k ((n + 1) / 10) ++ [chD ((n + 1) % 10)] := rfl
    have e3 : fx (k + 1 + 1) (n + 1) = fx (k + 1) ((n + 1) / 10) ++ [chD ((n + 1) % 10)] := rfl
    rw [e1, nxt_snoc, e2, e3]
    by_cases h9 : n % 10 = 9
    · rw [if_pos ((chD_57 (by omega)).mpr h9), ih (n / 10) (by omega), show (n + 1) / 10 = n / 10 + 1 by omega, show (n + 1) % 10 = 0 by omega]
      by_cases hc : n + 1 = 10 ^ (k + 1)
      · rw [if_pos hc, if_pos (by omega)]
        rfl
      · rw [if_neg hc, if_neg (by omega)]
        rfl
    · rw [if_neg (fun c => h9 ((chD_57 (by omega)).mp c)), show (n + 1) / 10 = n / 10 by omega, show (n + 1) % 10 = n % 10 + 1 by omega, chD_succ (by omega), if_neg (by omega)]
/-- whether digits are rounded up, by the rest behind them -/
def gUpD (m : Int) (mn : Bool) (kept rest : List UInt8) : Bool := if trR rest = [] then false else if m = 2 then false else if m = 3 then !mn else if m = 4 then mn else if m = 1 then decide (0 ≤ cmS (trR rest) [53]) else decide (0 < cmS (trR rest) [53]) || (decide (cmS (trR rest) [53] = 0) && decide ((lq8 (kept.getD (kept.length - 1) 0) - 48) % 2 = 1))
theorem gUp_is (m : Int) (mn : Bool) {n b W : Nat} (hn : 1 ≤ n) : gUpD m mn (fx n (W / 10 ^ b)) (fx b W) = upD14 m mn (W / 10 ^ b) (W % 10 ^ b) (10 ^ b) := by
  have hp : 0 < 10 ^ b := Nat.pow_pos (by omega)
  have hr := Nat.mod_lt W hp
  obtain ⟨r, hr0⟩ : ∃ r, r = W % 10 ^ b := ⟨_, rfl⟩
  obtain ⟨q, hq⟩ : ∃ q, q = W / 10 ^ b := ⟨_, rfl⟩
  have ef : fx b W = fx b r := by rw [hr0, fx_mod]
  have hz : trR (fx b r) = [] ↔ r = 0 := by rw [trR_fx_nil, Nat.mod_eq_of_lt (by omega)]
  have el : (lq8 ((fx n q).getD ((fx n q).length - 1) 0) - 48) % 2 = ((q % 2 : Nat) : Int) := by
    obtain ⟨k, hk⟩ : ∃ k, n = k + 1 := ⟨n - 1, by omega⟩
    subst hk
    have e : fx (k + 1) q = fx k (q / 10) ++ [chD (q % 10)] := rfl
    rw [fx_len, e, show k + 1 - 1 = (fx k (q / 10)).length by rw [fx_len]; omega]
    have eg : (fx k (q / 10) ++ [chD (q % 10)]).getD (fx k (q / 10)).length 0 = chD (q % 10) := by simp
    rw [eg, chD_num (by omega)]
    omega
  rw [← hr0, ← hq, ef]
  rw [← hr0] at hr
  unfold gUpD upD14
  rw [el]
  by_cases h0 : r = 0
  · rw [if_pos (hz.2 h0), h0]
    rw [decide_eq_false (show ¬ 10 ^ b ≤ 2 * 0 by omega), decide_eq_false (show ¬ 0 < 0 by omega), decide_eq_false (show ¬ 10 ^ b < 2 * 0 by omega), decide_eq_false (show ¬ 2 * 0 = 10 ^ b by omega)]
    split
    · rfl
    · split
      · rfl
      · split
        · rfl
        · split <;> rfl
  · rw [if_neg (fun c => h0 (hz.1 c)), half_fx hr h0, decide_eq_true (show 0 < r by omega)]
    by_cases m1 : m = 1
    · subst m1
      rw [if_neg (by decide), if_neg (by decide), if_neg (by decide), if_pos rfl, if_pos rfl]
      refine decide_eq_decide.2 ?_
      split
      · omega
      · split <;> omega
    · rw [if_neg m1, if_neg m1]
      by_cases m2 : m = 2
      · rw [if_pos m2, if_pos m2]
      · rw [if_neg m2, if_neg m2]
        by_cases m3 : m = 3
        · rw [if_pos m3, if_pos m3]; rfl
        · rw [if_neg m3, if_neg m3]
          by_cases m4 : m = 4
          · rw [if_pos m4, if_pos m4]; rfl
          · rw [if_neg m4, if_neg m4]
            have e3 : decide (((q % 2 : Nat) : Int) = 1) = decide (q % 2 = 1) := decide_eq_decide.2 (by omega)
            rw [e3]
            congr 1
            · refine decide_eq_decide.2 ?_
              split
              · omega
              · split <;> omega
            · congr 1
              refine decide_eq_decide.2 ?_
              split
              · omega
              · split <;> omega
/-! ### all digits of a pattern -/
def wzN (E : Int) : Nat := (-E).toNat
def wAll (S : Nat) (E : Int) : Nat := S * (5 ^ wzN E * 2 ^ E.toNat)
theorem pa_all (S : Nat) (E j : Int) : paN S E j * 5 ^ wzN E = wAll S E * 10 ^ j.toNat := by unfold paN wAll; ac_rfl
theorem pb_all (E j : Int) : pbN E j * 5 ^ wzN E = 10 ^ (wzN E + (-j).toNat) := by
  unfold pbN wzN
  rw [Nat.pow_add, show (10 : Nat) ^ (-E).toNat = 2 ^ (-E).toNat * 5 ^ (-E).toNat by rw [← Nat.mul_pow]]
  ac_rfl
theorem five_pos (k : Nat) : 0 < 5 ^ k := Nat.pow_pos (by omega)
theorem all_ne {S : Nat} (E : Int) (h : S ≠ 0) : wAll S E ≠ 0 := mul_ne h (mul_ne (fun c => by have := five_pos (wzN E); omega) (fun c => by have := Nat.pow_pos (n := E.toNat) (show 0 < 2 by omega); omega))
/-- the first digit's power -/
theorem all_first {S L : Nat} {E : Int} (hL : 1 ≤ L) (h1 : 10 ^ (L - 1) ≤ wAll S E) (h2 : wAll S E < 10 ^ L) : isFirst S E ((L : Int) - 1 - (wzN E : Nat)) := by
  obtain ⟨f, hf⟩ : ∃ f : Int, f = (L : Int) - 1 - (wzN E : Nat) := ⟨_, rfl⟩
  rw [← hf]
  have h5 := five_pos (wzN E)
  have key : ∀ (g : Int) (k : Nat), (k : Int) = wzN E + g → (pbN E (-g) ≤ paN S E (-g) ↔ 10 ^ k ≤ wAll S E) := fun g k hk => by
    rw [← Nat.mul_le_mul_right_iff h5, pa_all, pb_all]
    have e : 10 ^ (wzN E + (- -g).toNat) = 10 ^ k * 10 ^ (-g).toNat := by rw [← Nat.pow_add]; congr 1; omega
    rw [e, Nat.mul_le_mul_right_iff (Nat.pow_pos (by omega))]
  constructor
  · exact (key f (L - 1) (by omega)).2 h1
  · rw [← Nat.not_le, key (f + 1) L (by omega)]
    omega
/-- quotients that are the same -/
theorem quo_same {a b c d : Nat} (hb : 0 < b) (hd : 0 < d) (h : a * d = c * b) : a / b = c / d ∧ a % b * d = c % d * b := by
  have e1 : a / b = a * d / (b * d) := (Nat.mul_div_mul_right _ _ hd).symm
  have e2 : c / d = c * b / (d * b) := (Nat.mul_div_mul_right _ _ hb).symm
  have e3 : a % b * d = a * d % (b * d) := (Nat.mul_mod_mul_right _ _ _).symm
  have e4 : c % d * b = c * b % (d * b) := (Nat.mul_mod_mul_right _ _ _).symm
  rw [e1, e2, e3, e4, h, Nat.mul_comm d b]
  exact ⟨rfl, rfl⟩
theorem up_same {m : Int} {mn : Bool} {q r b s d : Nat} (hb : 0 < b) (hd : 0 < d) (h : r * d = s * b) : upD14 m mn q r b = upD14 m mn q s d := by
  have k1 : b ≤ 2 * r ↔ d ≤ 2 * s := by
    rw [← Nat.mul_le_mul_right_iff hd, Nat.mul_assoc, h, ← Nat.mul_assoc, Nat.mul_comm b d, Nat.mul_le_mul_right_iff hb]
  have k2 : 2 * r ≤ b ↔ 2 * s ≤ d := by
    rw [← Nat.mul_le_mul_right_iff hd, Nat.mul_assoc, h, ← Nat.mul_assoc, Nat.mul_comm b d, Nat.mul_le_mul_right_iff hb]
  have k3 : 0 < r ↔ 0 < s := by
    constructor
    · intro c
      have := Nat.mul_pos c hd
      rw [h] at this
      exact Nat.pos_of_mul_pos_right this
    · intro c
      have := Nat.mul_pos c hb
      rw [← h] at this
      exact Nat.pos_of_mul_pos_right this
  unfold upD14
  rw [decide_eq_decide.2 k1, decide_eq_decide.2 k3, decide_eq_decide.2 (show b < 2 * r ↔ d < 2 * s by omega), decide_eq_decide.2 (show 2 * r = b ↔ 2 * s = d by omega)]
theorem up_none (m : Int) (mn : Bool) (q : Nat) {b : Nat} (hb : 0 < b) : upD14 m mn q 0 b = false := by
  unfold upD14
  rw [decide_eq_false (show ¬ b ≤ 2 * 0 by omega), decide_eq_false (show ¬ 0 < 0 by omega), decide_eq_false (show ¬ b < 2 * 0 by omega), decide_eq_false (show ¬ 2 * 0 = b by omega)]
  split
  · rfl
  · split
    · rfl
    · split
      · rfl
      · split <;> rfl
/-- digits, rounded to n of them: as the program does it -/
def rnD (D : List UInt8) (e : Int) (n : Nat) (mn : Bool) (m : Int) : List UInt8 × Int :=
  if D.length ≤ n then (D ++ List.replicate (n - D.length) 48, e)
  else if gUpD m mn (D.take n) (D.drop n) = true then ((nxt14 (D.take n)).take n, e + ((nxt14 (D.take n)).length : Nat) - n)
  else ((D.take n).take n, e + ((D.take n).length : Nat) - n)
theorem rnD_is {p : Int} (h : Fin14 p) {L n : Nat} (hn : 1 ≤ n) (m : Int) (hL : 1 ≤ L) (h1 : 10 ^ (L - 1) ≤ wAll (sg p).toNat (xp p)) (h2 : wAll (sg p).toNat (xp p) < 10 ^ L) :
    txL (decide (9223372036854775808 ≤ p)) (rnD (decF L (wAll (sg p).toNat (xp p))) ((L : Int) - 1 - (wzN (xp p) : Nat)) n (decide (9223372036854775808 ≤ p)) m).1 (rnD (decF L (wAll (sg p).toNat (xp p))) ((L : Int) - 1 - (wzN (xp p) : Nat)) n (decide (9223372036854775808 ≤ p)) m).2 = dgS14 p n m := by
  have ef := first_one (frP_is h).1 (all_first hL h1 h2)
  have q0 := qD_bd (frP_is h).1 hn
  obtain ⟨mn, hmn⟩ : ∃ mn, mn = decide (9223372036854775808 ≤ p) := ⟨_, rfl⟩
  unfold dgS14
  rw [← hmn, ← ef]
  obtain ⟨f, hf⟩ : ∃ f, f = frP p := ⟨_, rfl⟩
  rw [← hf] at ef q0 ⊢
  obtain ⟨S, hS⟩ : ∃ S, S = (sg p).toNat := ⟨_, rfl⟩
  obtain ⟨E, hE⟩ : ∃ E, E = xp p := ⟨_, rfl⟩
  rw [← hS, ← hE] at h1 h2 q0 ⊢
  rw [← hE] at ef
  obtain ⟨W, hW⟩ : ∃ W, W = wAll S E := ⟨_, rfl⟩
  have h5 := five_pos (wzN E)
  have hb := pbN_pos E ((n : Int) - 1 - f)
  have pa := pa_all S E ((n : Int) - 1 - f)
  have pb := pb_all E ((n : Int) - 1 - f)
  rw [← hW] at h1 h2 pa ⊢
  rw [← fx_dec hL h1 h2]
  unfold rnD
  rw [fx_len]
  by_cases hc : L ≤ n
  · rw [if_pos hc]
    have eq : qD S E f n = W * 10 ^ (n - L) ∧ rD14 S E f n = 0 := by
      have := quo_same (a := paN S E ((n : Int) - 1 - f)) (b := pbN E ((n : Int) - 1 - f)) (c := W * 10 ^ (n - L)) (d := 1) hb (by omega) (by
        refine Nat.eq_of_mul_eq_mul_right h5 ?_
        rw [Nat.mul_one, pa, Nat.mul_assoc, pb, Nat.mul_assoc, ← Nat.pow_add]
        congr 2
        omega)
      unfold qD rD14
      rw [Nat.div_one, Nat.mod_one, Nat.mul_one, Nat.zero_mul] at this
      exact this
    rw [eq.1, eq.2, up_none _ _ _ hb, if_neg (by decide)]
    dsimp only
    congr 1
    have ep := fx_pad L (n - L) W
    rw [show L + (n - L) = n by omega] at ep
    rw [← ep]
    rw [eq.1] at q0
    exact fx_dec hn q0.1 q0.2
  · rw [if_neg hc]
    obtain ⟨b, hb0⟩ : ∃ b, L = n + b := ⟨L - n, by omega⟩
    have hp : 0 < 10 ^ b := Nat.pow_pos (by omega)
    have eq : qD S E f n = W / 10 ^ b ∧ rD14 S E f n * 10 ^ b = W % 10 ^ b * pbN E ((n : Int) - 1 - f) := quo_same hb hp (by
      refine Nat.eq_of_mul_eq_mul_right h5 ?_
      have e1 : paN S E ((n : Int) - 1 - f) * 10 ^ b * 5 ^ wzN E = W * 10 ^ ((n : Int) - 1 - f).toNat * 10 ^ b := by rw [← pa]; ac_rfl
      rw [e1, Nat.mul_assoc W (pbN _ _), pb, Nat.mul_assoc, ← Nat.pow_add]
      congr 2
      omega)
    have eu := up_same (m := m) (mn := mn) (q := qD S E f n) hb hp eq.2
    rw [eu, eq.1]
    rw [eq.1] at q0
    subst hb0
    rw [fx_take, fx_drop, gUp_is m mn hn]
    obtain ⟨q, hq⟩ : ∃ q, q = W / 10 ^ b := ⟨_, rfl⟩
    rw [← hq] at q0 ⊢
    split
    · dsimp only
      rw [nxt_fx n q q0.2]
      unfold hiX
      by_cases hq1 : q + 1 = 10 ^ n
      · rw [if_pos hq1, if_pos hq1, fx_len]
        have ht := fx_take n 1 (q + 1)
        rw [ht, show f + ((n + 1 : Nat) : Int) - (n : Nat) = f + 1 by omega]
        have e : (q + 1) / 10 ^ 1 = 10 ^ (n - 1) := by
          rw [hq1, Nat.pow_one]
          have : 10 ^ n = 10 ^ (n - 1) * 10 := by rw [← Nat.pow_succ]; congr 1; omega
          omega
        rw [e, fx_dec hn (Nat.le_refl _) (Nat.pow_lt_pow_right (by omega) (by omega))]
      · rw [if_neg hq1, if_neg hq1, fx_len, show f + (n : Int) - (n : Nat) = f by omega, fx_dec hn (by omega) (by omega)]
        have e := decF_full (f := n) (n := q + 1) (by omega) hn
        rw [List.take_of_length_le (by omega)]
    · dsimp only
      rw [fx_len, show f + (n : Int) - (n : Nat) = f by omega, List.take_of_length_le (by rw [fx_len]; omega), fx_dec hn q0.1 q0.2]
end Go.Rd
