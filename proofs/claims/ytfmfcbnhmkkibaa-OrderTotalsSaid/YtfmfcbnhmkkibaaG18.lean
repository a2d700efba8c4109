/-
  PLAIN ARITHMETIC: the document's way to a number's pattern is the one told here.
-/
import Derived.Test.YtfmfcbnhmkkibaaG17
namespace Go.Rn
open Go.Nt Go.Wd

theorem rnP_mN (m : Int) (neg : Bool) (T : Nat) (E : Int) : rnP (mN m) neg T E = rnP m neg T E := by
  unfold rnP p0 bey
  simp only [toQ_mN, upR_mN]
theorem rnF_mN (m : Int) (neg : Bool) (T : Nat) (E : Int) : rnF (mN m) neg T E = rnF m neg T E := by
  unfold rnF p0 tiny
  simp only [toQ_mN]
/-- beyond all patterns -/
theorem p0_big {m : Int} {neg : Bool} {T : Nat} {E : Int} (hT : T ≠ 0) (h : 1024 ≤ lgN T E) : 9218868437227405312 ≤ p0 m neg T E := by
  have hq := low_lo (m := m) (neg := neg) (T := T) (E := E) hT (by omega)
  have hl : lowE T E = lgN T E - 52 := by unfold lowE; rw [if_neg (by omega)]
  unfold p0
  rw [hl] at hq ⊢
  omega
theorem big_eq {m : Int} {neg : Bool} {T : Nat} {E : Int} (hT : T ≠ 0) (h : 1024 ≤ lgN T E) : rnP m neg T E = bey m neg ∧ rnF m neg T E = 20 := by
  have := p0_big (m := m) (neg := neg) hT h
  unfold rnP rnF
  rw [if_neg hT, if_neg hT, if_pos this, if_pos this]
  exact ⟨rfl, rfl⟩
/-- far below all patterns -/
theorem low_eq {m : Int} {neg : Bool} {T : Nat} {E : Int} (hT : T ≠ 0) (h : lgN T E ≤ -1100) : rnP m neg T E = (if upR m neg false 1 = true then 1 else 0) ∧ rnF m neg T E = 24 := by
  have hb := (bitLen_spec T).1
  have hl : lowE T E = -1074 := by unfold lowE; rw [if_pos (by omega)]
  have hE : ¬ (-1074 : Int) ≤ E := by unfold lgN at h; have := len_pos hT; omega
  have hk : bitLen T + 2 ≤ (-1074 - E).toNat := by unfold lgN at h; omega
  have hp := Nat.pow_le_pow_right (show 0 < 2 by omega) hk
  have e4 : 2 ^ (bitLen T + 2) = 4 * 2 ^ bitLen T := by rw [Nat.pow_add, Nat.mul_comm]
  have hlt : 2 * T < 2 ^ (-1074 - E).toNat := by omega
  have hd : T / 2 ^ (-1074 - E).toNat = 0 := Nat.div_eq_of_lt (by omega)
  have hm : T % 2 ^ (-1074 - E).toNat = T := Nat.mod_eq_of_lt (by omega)
  have hr : restC T (2 ^ (-1074 - E).toNat) = 1 := by unfold restC; rw [if_neg hT, if_pos hlt]
  have hq : toQ m neg T E (-1074) = if upR m neg false 1 = true then 1 else 0 := by
    unfold toQ rq
    rw [if_neg hE, hd, hm, hr]
    have ho : odd 0 = false := rfl
    rw [ho]
    simp
  have hL : toL T E (-1074) = true := by unfold toL; rw [if_neg hE, hm]; exact decide_eq_true hT
  have hti : tiny m neg T E = true := by unfold tiny; rw [if_neg (by omega)]; exact decide_eq_true (by omega)
  have hp0 : p0 m neg T E = if upR m neg false 1 = true then 1 else 0 := by
    unfold p0
    rw [hl, hq]
    split <;> rfl
  unfold rnP rnF
  rw [if_neg hT, if_neg hT, hp0, hl, hL, hti]
  split <;> simp
/-- the program's way and the document's, from any exponent -/
theorem same_round {m : Int} {neg : Bool} {x : W4} (hx : x.ok) (b : Bool) {C D : Int} (h : (C = D) ∨ (1700 ≤ C ∧ 1700 ≤ D) ∨ (C ≤ -1700 ∧ D ≤ -1700)) : rnP m neg (tw x b) (C - 1) = rnP m neg (rT x b) (D - jB b) ∧ rnF m neg (tw x b) (C - 1) = rnF m neg (rT x b) (D - jB b) := by
  have hj : 0 ≤ jB b ∧ jB b ≤ 1 := by cases b <;> simp [jB]
  have e : rnP m neg (tw x b) (C - 1) = rnP m neg (rT x b) (C - jB b) ∧ rnF m neg (tw x b) (C - 1) = rnF m neg (rT x b) (C - jB b) := by
    cases b with
    | true => exact ⟨rfl, rfl⟩
    | false =>
      have e1 : tw x false = x.nat * 2 ^ 1 := by unfold tw; simp [Nat.mul_comm]
      rw [e1]
      simp only [rT, jB, Int.sub_zero]
      exact ⟨rnP_scale m neg x.nat 1 C, rnF_scale m neg x.nat 1 C⟩
  rw [e.1, e.2]
  rcases h with h | h | h
  · rw [h]; exact ⟨rfl, rfl⟩
  · by_cases hT : rT x b = 0
    · rw [hT]; unfold rnP rnF; simp
    · have hl := len_pos hT
      obtain ⟨a1, a2⟩ := big_eq (m := m) (neg := neg) (E := C - jB b) hT (by unfold lgN; omega)
      obtain ⟨b1, b2⟩ := big_eq (m := m) (neg := neg) (E := D - jB b) hT (by unfold lgN; omega)
      rw [a1, a2, b1, b2]; exact ⟨rfl, rfl⟩
  · by_cases hT : rT x b = 0
    · rw [hT]; unfold rnP rnF; simp
    · have hlt := rT_lt hx b
      obtain ⟨k, hk⟩ : ∃ k : Nat, k = 300 := ⟨300, rfl⟩
      have hfp := far_pow (show 300 ≤ k by omega)
      have hl : bitLen (rT x b) ≤ k := len_le (by omega)
      obtain ⟨a1, a2⟩ := low_eq (m := m) (neg := neg) (E := C - jB b) hT (by unfold lgN; omega)
      obtain ⟨b1, b2⟩ := low_eq (m := m) (neg := neg) (E := D - jB b) hT (by unfold lgN; omega)
      rw [a1, a2, b1, b2]; exact ⟨rfl, rfl⟩

/-! ### the document's flags and pattern -/
theorem len53 {q : Nat} (h0 : 4503599627370496 ≤ q) (h1 : q ≤ 9007199254740992) : bitLen q = if q = 9007199254740992 then 54 else 53 := by
  split
  · rename_i h; rw [h]; exact len_uniq (k := 53) (by decide) (by decide)
  · exact len_uniq (k := 52) h0 (show q < 2 ^ 53 by have : (2 : Nat) ^ 53 = 9007199254740992 := rfl; omega)
/-- Underflow -/
theorem tiny_doc {m : Int} {neg : Bool} {T : Nat} {E : Int} (hT : T ≠ 0) : decide ((bitLen (toQ m neg T E (lgN T E - 52)) : Int) + (lgN T E + 1) - 53 ≤ -1022) = tiny m neg T E := by
  have h0 : 4503599627370496 ≤ toQ m neg T E (lgN T E - 52) := toQ_ge (n := 52) hT (by unfold lgN; omega)
  have h1 : toQ m neg T E (lgN T E - 52) ≤ 9007199254740992 := toQ_le (n := 53) (by unfold lgN; omega)
  have hl := len53 h0 h1
  unfold tiny
  by_cases he : lgN T E = -1023
  · have e : lgN T E - 52 = -1075 := by omega
    rw [e] at h0 h1 hl ⊢
    rw [if_pos he, hl]
    congr 1
    simp only [eq_iff_iff]
    split <;> omega
  · rw [if_neg he, hl]
    congr 1
    simp only [eq_iff_iff]
    split <;> omega
/-- Overflow -/
theorem over_doc {m : Int} {neg : Bool} {T : Nat} {E : Int} (hT : T ≠ 0) : decide ((bitLen (toQ m neg T E (lowE T E)) : Int) + lowE T E > 1024) = decide (9218868437227405312 ≤ p0 m neg T E) := by
  have h1 := low_hi m neg T E
  have hle := lowE_ge T E
  congr 1
  simp only [eq_iff_iff]
  unfold p0
  by_cases hn : lowE T E = -1074
  · have hl : bitLen (toQ m neg T E (lowE T E)) ≤ 54 := by
      have : toQ m neg T E (lowE T E) < 2 ^ 54 := by have e : (2 : Nat) ^ 54 = 18014398509481984 := rfl; omega
      exact len_le this
    omega
  · have h0 := low_lo (m := m) (neg := neg) (E := E) hT (by unfold lowE at hn; split at hn <;> omega)
    have hl := len53 h0 h1
    rw [hl]
    split <;> omega
end Go.Rn

/-
  PLAIN ARITHMETIC: a size of which the low bits are told by one bit alone is rounded as the size itself, where enough bits are left.
-/
namespace Go.Rn
open Go.Nt Go.Wd

/-- all but the low d bits, and behind them one bit for these -/
def stk (A d : Nat) : Nat := 2 * (A / 2 ^ d) + (if A % 2 ^ d = 0 then 0 else 1)
theorem stk_bit (A d : Nat) : (if A % 2 ^ d = 0 then 0 else 1) ≤ 1 := by split <;> omega
theorem stk_div (A d j : Nat) : stk A d / 2 ^ (j + 1) = A / 2 ^ (d + j) := by
  have e : stk A d / 2 = A / 2 ^ d := by unfold stk; split <;> omega
  rw [Nat.pow_succ, Nat.mul_comm, ← Nat.div_div_eq_div_mul, e, Nat.div_div_eq_div_mul, Nat.pow_add]
theorem stk_mod (A d j : Nat) : stk A d % 2 ^ (j + 1) = 2 * (A / 2 ^ d % 2 ^ j) + (if A % 2 ^ d = 0 then 0 else 1) := by
  rw [Nat.pow_succ, Nat.mul_comm, Nat.mod_mul]
  have e : stk A d / 2 = A / 2 ^ d := by unfold stk; split <;> omega
  rw [e]
  unfold stk
  split <;> omega
theorem all_mod (A d j : Nat) : A % 2 ^ (d + j) = A % 2 ^ d + 2 ^ d * (A / 2 ^ d % 2 ^ j) := by rw [Nat.pow_add, Nat.mod_mul]
theorem stk_zero (A d j : Nat) : stk A d % 2 ^ (j + 1) = 0 ↔ A % 2 ^ (d + j) = 0 := by
  have hD : 0 < 2 ^ d := Nat.pow_pos (by omega)
  rw [stk_mod, all_mod]
  generalize A / 2 ^ d % 2 ^ j = r
  constructor
  · intro h
    have h1 : A % 2 ^ d = 0 := by
      by_cases h0 : A % 2 ^ d = 0
      · exact h0
      · rw [if_neg h0] at h; omega
    rw [if_pos h1] at h
    have : r = 0 := by omega
    rw [h1, this]; simp
  · intro h
    have h1 : A % 2 ^ d = 0 := by omega
    rw [if_pos h1]
    have h2 : 2 ^ d * r = 0 := by omega
    rcases Nat.mul_eq_zero.1 h2 with h3 | h3
    · omega
    · rw [h3]
theorem rest_core {r r' D Q s : Nat} (hD : r' < D) (hQ : 0 < Q) (hb : s ≤ 1) (hs : s = 0 ↔ r' = 0) : restC (2 * r + s) (4 * Q) = restC (r' + D * r) (2 * (D * Q)) := by
  have hDr : r ≤ D * r := Nat.le_mul_of_pos_left r (by omega)
  unfold restC
  by_cases h0 : r' + D * r = 0
  · have : r' = 0 := by omega
    have := hs.2 this
    rw [if_pos h0, if_pos (by omega)]
  · have hz : ¬ 2 * r + s = 0 := by
      intro h
      apply h0
      have h1 : r = 0 := by omega
      have h2 := hs.1 (by omega)
      rw [h1, h2]; rfl
    rw [if_neg h0, if_neg hz]
    rcases Nat.lt_trichotomy r Q with h | h | h
    · have h1 : D * r + D ≤ D * Q := by rw [← Nat.mul_succ]; exact Nat.mul_le_mul_left D h
      rw [if_pos (by omega), if_pos (by omega)]
    · subst h
      by_cases hs0 : s = 0
      · have := hs.1 hs0
        rw [if_neg (by omega), if_pos (by omega), if_neg (by omega), if_pos (by omega)]
      · have : r' ≠ 0 := fun h => hs0 (hs.2 h)
        rw [if_neg (by omega), if_neg (by omega), if_neg (by omega), if_neg (by omega)]
    · have h1 : D * Q + D ≤ D * r := by rw [← Nat.mul_succ]; exact Nat.mul_le_mul_left D h
      rw [if_neg (by omega), if_neg (by omega), if_neg (by omega), if_neg (by omega)]
theorem stk_rest (A d j : Nat) : restC (stk A d % 2 ^ (j + 2)) (2 ^ (j + 2)) = restC (A % 2 ^ (d + (j + 1))) (2 ^ (d + (j + 1))) := by
  have hD : 0 < 2 ^ d := Nat.pow_pos (by omega)
  have hQ : 0 < 2 ^ j := Nat.pow_pos (by omega)
  have eP : 2 ^ (j + 1 + 1) = 4 * 2 ^ j := by rw [Nat.pow_succ, Nat.pow_succ]; omega
  have eP2 : 2 ^ (d + (j + 1)) = 2 * (2 ^ d * 2 ^ j) := by rw [Nat.pow_add, Nat.pow_succ, ← Nat.mul_assoc]; omega
  have e1 := stk_mod A d (j + 1)
  have e2 := all_mod A d (j + 1)
  rw [show j + 2 = (j + 1) + 1 by omega, e1, e2, eP, eP2]
  exact rest_core (Nat.mod_lt A hD) hQ (stk_bit A d) (by split <;> omega)
theorem stk_rq (m : Int) (neg : Bool) (A d j : Nat) : rq m neg (stk A d) (j + 2) = rq m neg A (d + (j + 1)) := by
  unfold rq
  rw [stk_rest, show j + 2 = (j + 1) + 1 by omega, stk_div]
theorem stk_toQ (m : Int) (neg : Bool) (A d : Nat) {F e : Int} (h : F + d + 1 ≤ e) : toQ m neg (stk A d) (F + d - 1) e = toQ m neg A F e := by
  obtain ⟨j, hj⟩ : ∃ j : Nat, e = F + d + 1 + j := ⟨(e - (F + d + 1)).toNat, by omega⟩
  unfold toQ
  rw [if_neg (by omega), if_neg (by omega), show (e - (F + d - 1)).toNat = j + 2 by omega, show (e - F).toNat = d + (j + 1) by omega, stk_rq]
theorem stk_toL (A d : Nat) {F e : Int} (h : F + d + 1 ≤ e) : toL (stk A d) (F + d - 1) e = toL A F e := by
  obtain ⟨j, hj⟩ : ∃ j : Nat, e = F + d + 1 + j := ⟨(e - (F + d + 1)).toNat, by omega⟩
  unfold toL
  rw [if_neg (by omega), if_neg (by omega), show (e - (F + d - 1)).toNat = j + 1 + 1 by omega, show (e - F).toNat = d + (j + 1) by omega]
  congr 1
  simp only [ne_eq, eq_iff_iff]
  exact not_congr (stk_zero A d (j + 1))
theorem stk_len {A d : Nat} (h : A / 2 ^ d ≠ 0) : bitLen (stk A d) = bitLen (A / 2 ^ d) + 1 := by
  have e : stk A d / 2 ^ 1 = A / 2 ^ d := by
    have := stk_div A d 0
    simpa using this
  rw [bitLen_shift (stk A d) 1 (by rw [e]; exact h), e]
  omega
theorem stk_lgN {A d : Nat} {F : Int} (h : A / 2 ^ d ≠ 0) : lgN (stk A d) (F + d - 1) = lgN A F := by
  have e := bitLen_shift A d h
  unfold lgN
  rw [stk_len h]
  omega
theorem stk_round {m : Int} {neg : Bool} {A d : Nat} {F : Int} (h : A % 2 ^ d = 0 ∨ 54 ≤ bitLen (A / 2 ^ d)) : rnP m neg (stk A d) (F + d - 1) = rnP m neg A F ∧ rnF m neg (stk A d) (F + d - 1) = rnF m neg A F := by
  by_cases h0 : A % 2 ^ d = 0
  · have e1 : stk A d = A / 2 ^ d * 2 ^ 1 := by unfold stk; rw [if_pos h0]; omega
    have e2 : A = A / 2 ^ d * 2 ^ d := by
      have := Nat.div_add_mod A (2 ^ d)
      rw [h0, Nat.mul_comm] at this
      omega
    have p1 := rnP_scale m neg (A / 2 ^ d) 1 (F + d)
    have p2 := rnP_scale m neg (A / 2 ^ d) d (F + d)
    have f1 := rnF_scale m neg (A / 2 ^ d) 1 (F + d)
    have f2 := rnF_scale m neg (A / 2 ^ d) d (F + d)
    rw [show F + (d : Int) - ((1 : Nat) : Int) = F + d - 1 by omega, ← e1] at p1 f1
    rw [show F + (d : Int) - (d : Int) = F by omega, ← e2] at p2 f2
    exact ⟨by rw [p1, p2], by rw [f1, f2]⟩
  · have hb : 54 ≤ bitLen (A / 2 ^ d) := by exact h.resolve_left h0
    have hq : A / 2 ^ d ≠ 0 := fun h => by rw [h] at hb; simp [bitLen] at hb
    have hA : A ≠ 0 := fun h => h0 (by rw [h]; simp)
    have hs : stk A d ≠ 0 := by unfold stk; omega
    have hl := stk_lgN (F := F) hq
    have hlw : lowE (stk A d) (F + d - 1) = lowE A F := by unfold lowE; rw [hl]
    have hlg : lgN A F = F + d + bitLen (A / 2 ^ d) - 1 := by rw [← hl]; unfold lgN; rw [stk_len hq]; omega
    have hge : F + d + 1 ≤ lowE A F := by unfold lowE; split <;> omega
    have hp : p0 m neg (stk A d) (F + d - 1) = p0 m neg A F := by unfold p0; rw [hlw, stk_toQ m neg A d hge]
    have ht : tiny m neg (stk A d) (F + d - 1) = tiny m neg A F := by
      unfold tiny
      rw [hl]
      by_cases hn : lgN A F = -1023
      · rw [if_pos hn, if_pos hn, stk_toQ m neg A d (by omega)]
      · rw [if_neg hn, if_neg hn]
    unfold rnP rnF
    rw [if_neg hs, if_neg hA, if_neg hs, if_neg hA, hp, hlw, stk_toL A d hge, ht]
    exact ⟨rfl, rfl⟩
end Go.Rn

/-
  PLAIN ARITHMETIC: the sum of two numbers with signs, told in units of the greater one.
-/
namespace Go.Rn
open Go.Nt Go.Wd

theorem dm {A D q r : Nat} (h : A = D * q + r) (hr : r < D) : A / D = q ∧ A % D = r := by
  subst h
  constructor
  · rw [Nat.mul_add_div (by omega), Nat.div_eq_of_lt hr, Nat.add_zero]
  · rw [Nat.mul_add_mod, Nat.mod_eq_of_lt hr]
def bN (b : Bool) : Nat := match b with | true => 1 | false => 0
theorem stk_of {A d q r : Nat} (h : A = 2 ^ d * q + r) (hr : r < 2 ^ d) : 2 * q + bN (decide (r ≠ 0)) = stk A d ∧ A / 2 ^ d = q ∧ A % 2 ^ d = r := by
  obtain ⟨h1, h2⟩ := dm h hr
  refine ⟨?_, h1, h2⟩
  unfold stk
  rw [h1, h2]
  by_cases h0 : r = 0
  · rw [if_pos h0]; simp [bN, h0]
  · rw [if_neg h0]; simp [bN, h0]
/-- a size with a sign -/
def sgI (n : Bool) (A : Nat) : Int := match n with | true => -(A : Int) | false => (A : Int)
/-- the sign of a sum -/
def sgS (m : Int) (nx ny : Bool) (S : Int) : Bool := if S = 0 then (if nx = ny then nx else decide (m = 4)) else decide (S < 0)
def exN (m : Int) (nx ny : Bool) (p q : Nat) : Bool := if nx = ny then nx else if q < p then nx else if p < q then ny else decide (m = 4)
def exQ (nx ny : Bool) (p : Nat) (bx : Bool) (q : Nat) (b : Bool) : Nat := if nx = ny then p + q else if q < p then p - q - bN b else if p < q then q - p - bN bx else 0
def exB (nx ny : Bool) (p : Nat) (bx : Bool) (q : Nat) (b : Bool) : Bool := if nx = ny then bx || b else if q < p then bx || b else if p < q then b || bx else false
/-- what is known of the two: at most one has something below its units, and that one is then far less than the other -/
def Far (p r q s K L : Nat) : Prop := r = 0 ∨ (s = 0 ∧ K ≤ q ∧ p < L)
theorem exLess {K : Nat} (h54 : 2 ^ 53 ≤ K) {d Ax Ay p r q s : Nat} (hx : Ax = 2 ^ d * p + r) (hy : Ay = 2 ^ d * q + s) (hs : s < 2 ^ d) (hr : r = 0) (hlt : q < p) (hK : s = 0 ∨ K + q + 1 ≤ p) :
    Ay < Ax ∧ 2 * (p - q - bN (decide (s ≠ 0))) + bN (decide (s ≠ 0)) = stk (Ax - Ay) d ∧ ((Ax - Ay) % 2 ^ d = 0 ∨ 54 ≤ bitLen ((Ax - Ay) / 2 ^ d)) := by
  have hm : 2 ^ d * q + 2 ^ d ≤ 2 ^ d * p := by rw [← Nat.mul_succ]; exact Nat.mul_le_mul_left _ hlt
  refine ⟨by omega, ?_⟩
  by_cases h0 : s = 0
  · have e : Ax - Ay = 2 ^ d * (p - q) + 0 := by rw [Nat.mul_sub]; omega
    obtain ⟨a, b, c⟩ := stk_of e (Nat.pow_pos (by omega))
    rw [← a]
    refine ⟨?_, .inl c⟩
    simp [h0, bN]
  · have e : Ax - Ay = 2 ^ d * (p - q - 1) + (2 ^ d - s) := by
      rw [Nat.mul_sub, Nat.mul_sub, Nat.mul_one]
      omega
    obtain ⟨a, b, c⟩ := stk_of e (by omega)
    have h1 : decide (2 ^ d - s ≠ 0) = true := decide_eq_true (by omega)
    have h2 : decide (s ≠ 0) = true := decide_eq_true h0
    rw [h1] at a
    rw [← a, h2]
    refine ⟨rfl, .inr ?_⟩
    rw [b]
    exact le_len (k := 53) (by rcases hK with h | h <;> omega)
theorem ex_core {K L : Nat} (hKL : 2 ^ 53 + L + 1 ≤ K) {d Ax Ay p r q s : Nat} (hx : Ax = 2 ^ d * p + r) (hr : r < 2 ^ d) (hy : Ay = 2 ^ d * q + s) (hs : s < 2 ^ d) (h1 : Far p r q s K L) (h2 : Far q s p r K L) (m : Int) (nx ny : Bool) :
    2 * exQ nx ny p (decide (r ≠ 0)) q (decide (s ≠ 0)) + bN (exB nx ny p (decide (r ≠ 0)) q (decide (s ≠ 0))) = stk (sgI nx Ax + sgI ny Ay).natAbs d
    ∧ ((sgI nx Ax + sgI ny Ay).natAbs % 2 ^ d = 0 ∨ 54 ≤ bitLen ((sgI nx Ax + sgI ny Ay).natAbs / 2 ^ d))
    ∧ exN m nx ny p q = sgS m nx ny (sgI nx Ax + sgI ny Ay) := by
  unfold Far at h1 h2
  by_cases hn : nx = ny
  · have ha : (sgI nx Ax + sgI ny Ay).natAbs = Ax + Ay := by subst hn; cases nx <;> simp only [sgI] <;> omega
    have hsg : nx = sgS m nx ny (sgI nx Ax + sgI ny Ay) := by
      unfold sgS
      split
      · rfl
      · rename_i h0
        subst hn
        cases nx <;> simp only [sgI] at * <;> symm
        · exact decide_eq_false (by omega)
        · exact decide_eq_true (by omega)
    rw [ha]
    unfold exQ exB exN
    rw [if_pos hn, if_pos hn, if_pos hn]
    have e : Ax + Ay = 2 ^ d * (p + q) + (r + s) := by rw [Nat.mul_add]; omega
    obtain ⟨a, b, c⟩ := stk_of e (by omega)
    refine ⟨?_, ?_, hsg⟩
    · rw [← a]
      congr 2
      by_cases r0 : r = 0 <;> by_cases s0 : s = 0 <;> simp [r0, s0]
    · rw [b, c]
      by_cases r0 : r = 0
      · by_cases s0 : s = 0
        · left; omega
        · right; exact le_len (k := 53) (by omega)
      · right; exact le_len (k := 53) (by omega)
  · unfold exQ exB exN
    rw [if_neg hn, if_neg hn, if_neg hn]
    have hab : (sgI nx Ax + sgI ny Ay).natAbs = if Ay < Ax then Ax - Ay else Ay - Ax := by
      cases nx <;> cases ny <;> simp only [sgI, not_true_eq_false, reduceCtorEq, not_false_eq_true] at * <;> split <;> omega
    have hz : (sgI nx Ax + sgI ny Ay = 0) ↔ Ax = Ay := by
      cases nx <;> cases ny <;> simp only [sgI, not_true_eq_false, reduceCtorEq, not_false_eq_true] at * <;> omega
    have hneg : Ax ≠ Ay → sgS m nx ny (sgI nx Ax + sgI ny Ay) = if Ay < Ax then nx else ny := fun h => by
      unfold sgS
      rw [if_neg (fun e => h (hz.1 e))]
      cases nx <;> cases ny <;> simp only [sgI, not_true_eq_false, reduceCtorEq, not_false_eq_true] at * <;> split <;> first | exact decide_eq_true (by omega) | exact decide_eq_false (by omega)
    rw [hab]
    rcases Nat.lt_trichotomy p q with h | h | h
    · have s0 : s = 0 := by omega
      obtain ⟨a, b, c⟩ := exLess (K := 2 ^ 53) (Nat.le_refl _) hy hx hr s0 h (by omega)
      rw [if_neg (by omega), if_pos h, if_neg (by omega), if_pos h, if_neg (by omega), if_neg (by omega), if_pos h]
      have e0 : decide (s ≠ 0) = false := decide_eq_false (by omega)
      rw [hneg (by omega), if_neg (by omega), e0, Bool.false_or]
      exact ⟨b, c, rfl⟩
    · subst h
      have r0 : r = 0 := by omega
      have s0 : s = 0 := by omega
      have he : Ax = Ay := by omega
      rw [if_neg (Nat.lt_irrefl _), if_neg (Nat.lt_irrefl _), if_neg (Nat.lt_irrefl _), if_neg (Nat.lt_irrefl _), if_neg (by omega), if_neg (Nat.lt_irrefl _), if_neg (Nat.lt_irrefl _)]
      refine ⟨?_, ?_, ?_⟩
      · rw [he]; simp [stk, bN]
      · left; rw [he]; simp
      · unfold sgS
        rw [if_pos (hz.2 he), if_neg hn]
    · have r0 : r = 0 := by omega
      obtain ⟨a, b, c⟩ := exLess (K := 2 ^ 53) (Nat.le_refl _) hx hy hs r0 h (by omega)
      rw [if_pos h, if_pos h, if_pos h, if_pos a]
      have e0 : decide (r ≠ 0) = false := decide_eq_false (by omega)
      rw [hneg (by omega), if_pos a, e0, Bool.false_or]
      exact ⟨b, c, rfl⟩

/-! ### in units -/
def iuQ (E u : Int) (X : Nat) : Nat := if u ≤ E then X * 2 ^ (E - u).toNat else X / 2 ^ (u - E).toNat
def iuB (E u : Int) (X : Nat) : Bool := if u ≤ E then false else decide (X % 2 ^ (u - E).toNat ≠ 0)
/-- a size, told by a lower power -/
def szF (F E : Int) (X : Nat) : Nat := X * 2 ^ (E - F).toNat
theorem iu_eq {F E u : Int} (h1 : F ≤ u) (h2 : F ≤ E) (X : Nat) : iuQ E u X = szF F E X / 2 ^ (u - F).toNat ∧ iuB E u X = decide (szF F E X % 2 ^ (u - F).toNat ≠ 0) := by
  unfold iuQ iuB szF
  by_cases h : u ≤ E
  · rw [if_pos h, if_pos h]
    have e : X * 2 ^ (E - F).toNat = X * 2 ^ (E - u).toNat * 2 ^ (u - F).toNat := by rw [Nat.mul_assoc, ← Nat.pow_add]; congr 2; omega
    rw [e, Nat.mul_div_cancel _ (Nat.pow_pos (by omega)), Nat.mul_mod_left]
    simp
  · rw [if_neg h, if_neg h]
    have e : (u - F).toNat = (u - E).toNat + (E - F).toNat := by omega
    have hp : 0 < 2 ^ (E - F).toNat := Nat.pow_pos (by omega)
    rw [e, Nat.pow_add, Nat.mul_div_mul_right _ _ hp, Nat.mul_mod_mul_right]
    refine ⟨rfl, ?_⟩
    congr 1
    rw [ne_eq, ne_eq, Nat.mul_eq_zero]
    simp only [eq_iff_iff]
    omega
def topN (E : Int) (X : Nat) : Int := if X = 0 then -100000 else E + (bitLen X : Nat)
def unN (Ex : Int) (X : Nat) (Ey : Int) (Y : Nat) : Int := max (topN Ex X) (topN Ey Y) - 254
theorem un_comm (Ex : Int) (X : Nat) (Ey : Int) (Y : Nat) : unN Ex X Ey Y = unN Ey Y Ex X := by unfold unN; omega
/-- a number that may be added -/
def May (E : Int) (X : Nat) : Prop := X < 2 ^ 128 ∧ -100000 ≤ E ∧ E ≤ 100000
theorem iuQ_lt {Ex Ey : Int} {X Y : Nat} : iuQ Ex (unN Ex X Ey Y) X < 2 ^ 254 := by
  by_cases h0 : X = 0
  · subst h0; unfold iuQ; split <;> simp
  · have hb := (bitLen_spec X).1
    have ht : topN Ex X = Ex + (bitLen X : Nat) := by unfold topN; rw [if_neg h0]
    have hu : Ex + (bitLen X : Nat) - 254 ≤ unN Ex X Ey Y := by unfold unN; omega
    unfold iuQ
    by_cases h : unN Ex X Ey Y ≤ Ex
    · rw [if_pos h]
      have hp : 0 < 2 ^ (Ex - unN Ex X Ey Y).toNat := Nat.pow_pos (by omega)
      have h3 := Nat.mul_lt_mul_of_pos_right hb hp
      rw [← Nat.pow_add] at h3
      exact Nat.lt_of_lt_of_le h3 (Nat.pow_le_pow_right (by omega) (by omega))
    · rw [if_neg h]
      refine Nat.div_lt_of_lt_mul ?_
      rw [← Nat.pow_add]
      exact Nat.lt_of_lt_of_le hb (Nat.pow_le_pow_right (by omega) (by omega))
theorem iu_far {Ex Ey : Int} {X Y : Nat} (hX : May Ex X) (hY : May Ey Y) (h : iuB Ey (unN Ex X Ey Y) Y = true) : iuB Ex (unN Ex X Ey Y) X = false ∧ 2 ^ 253 ≤ iuQ Ex (unN Ex X Ey Y) X ∧ iuQ Ey (unN Ex X Ey Y) Y < 2 ^ 128 := by
  obtain ⟨x1, x2, x3⟩ := hX
  obtain ⟨y1, y2, y3⟩ := hY
  unfold iuB at h
  have hu : ¬ unN Ex X Ey Y ≤ Ey := fun hc => by rw [if_pos hc] at h; cases h
  rw [if_neg hu] at h
  have hY0 : Y ≠ 0 := fun h0 => by rw [h0] at h; simp at h
  have lY : bitLen Y ≤ 128 := len_le y1
  have lX : bitLen X ≤ 128 := len_le x1
  have pY := len_pos hY0
  have tY : topN Ey Y = Ey + (bitLen Y : Nat) := by unfold topN; rw [if_neg hY0]
  have hX0 : X ≠ 0 := fun h0 => by
    apply hu
    unfold unN
    rw [tY]
    unfold topN
    rw [if_pos h0]
    omega
  have tX : topN Ex X = Ex + (bitLen X : Nat) := by unfold topN; rw [if_neg hX0]
  have eu : unN Ex X Ey Y = Ex + (bitLen X : Nat) - 254 := by unfold unN at hu ⊢; omega
  have hle : unN Ex X Ey Y ≤ Ex := by omega
  refine ⟨by unfold iuB; rw [if_pos hle], ?_, ?_⟩
  · unfold iuQ
    rw [if_pos hle]
    have h2 := (bitLen_spec X).2 hX0
    have pX := len_pos hX0
    have h3 := Nat.mul_le_mul_right (2 ^ (Ex - unN Ex X Ey Y).toNat) h2
    rw [← Nat.pow_add] at h3
    exact Nat.le_trans (Nat.pow_le_pow_right (by omega) (by omega)) h3
  · unfold iuQ
    rw [if_neg hu]
    exact Nat.lt_of_le_of_lt (Nat.div_le_self _ _) y1
/-- the sum, exactly: in units of 2^F -/
def smI (F : Int) (nx : Bool) (Ex : Int) (X : Nat) (ny : Bool) (Ey : Int) (Y : Nat) : Int := sgI nx (szF F Ex X) + sgI ny (szF F Ey Y)
def xuQ (nx : Bool) (Ex : Int) (X : Nat) (ny : Bool) (Ey : Int) (Y : Nat) : Nat := exQ nx ny (iuQ Ex (unN Ex X Ey Y) X) (iuB Ex (unN Ex X Ey Y) X) (iuQ Ey (unN Ex X Ey Y) Y) (iuB Ey (unN Ex X Ey Y) Y)
def xuB (nx : Bool) (Ex : Int) (X : Nat) (ny : Bool) (Ey : Int) (Y : Nat) : Bool := exB nx ny (iuQ Ex (unN Ex X Ey Y) X) (iuB Ex (unN Ex X Ey Y) X) (iuQ Ey (unN Ex X Ey Y) Y) (iuB Ey (unN Ex X Ey Y) Y)
def xuN (m : Int) (nx : Bool) (Ex : Int) (X : Nat) (ny : Bool) (Ey : Int) (Y : Nat) : Bool := exN m nx ny (iuQ Ex (unN Ex X Ey Y) X) (iuQ Ey (unN Ex X Ey Y) Y)
theorem xuQ_lt (nx : Bool) (Ex : Int) (X : Nat) (ny : Bool) (Ey : Int) (Y : Nat) : xuQ nx Ex X ny Ey Y < 2 ^ 255 := by
  have h1 := iuQ_lt (Ex := Ex) (Ey := Ey) (X := X) (Y := Y)
  have h2 := iuQ_lt (Ex := Ey) (Ey := Ex) (X := Y) (Y := X)
  rw [un_comm] at h2
  have e : (2 : Nat) ^ 255 = 2 * 2 ^ 254 := by rw [show 255 = 254 + 1 from rfl, Nat.pow_succ, Nat.mul_comm]
  unfold xuQ exQ
  rw [e]
  generalize (2 : Nat) ^ 254 = P at *
  split
  · omega
  · split
    · omega
    · split <;> omega
theorem xu_sum {F Ex Ey : Int} {X Y : Nat} (hX : May Ex X) (hY : May Ey Y) (hF : F ≤ unN Ex X Ey Y) (hx : F ≤ Ex) (hy : F ≤ Ey) (m : Int) (nx ny : Bool) :
    2 * xuQ nx Ex X ny Ey Y + bN (xuB nx Ex X ny Ey Y) = stk (smI F nx Ex X ny Ey Y).natAbs (unN Ex X Ey Y - F).toNat
    ∧ ((smI F nx Ex X ny Ey Y).natAbs % 2 ^ (unN Ex X Ey Y - F).toNat = 0 ∨ 54 ≤ bitLen ((smI F nx Ex X ny Ey Y).natAbs / 2 ^ (unN Ex X Ey Y - F).toNat))
    ∧ xuN m nx Ex X ny Ey Y = sgS m nx ny (smI F nx Ex X ny Ey Y) := by
  have fx := iu_far hY hX (Ex := Ey) (Ey := Ex) (X := Y) (Y := X)
  have fy := iu_far hX hY (Ex := Ex) (Ey := Ey) (X := X) (Y := Y)
  rw [un_comm Ey Y Ex X] at fx
  obtain ⟨ax, bx⟩ := iu_eq hF hx X
  obtain ⟨ay, by'⟩ := iu_eq hF hy Y
  unfold xuQ xuB xuN smI
  rw [ax, ay, bx, by'] at fx fy
  rw [ax, ay, bx, by']
  have hD : 0 < 2 ^ (unN Ex X Ey Y - F).toNat := Nat.pow_pos (by omega)
  refine ex_core (K := 2 ^ 253) (L := 2 ^ 128) (by decide) (Nat.div_add_mod _ _).symm (Nat.mod_lt _ hD) (Nat.div_add_mod _ _).symm (Nat.mod_lt _ hD) ?_ ?_ m nx ny
  · by_cases h0 : szF F Ex X % 2 ^ (unN Ex X Ey Y - F).toNat = 0
    · exact .inl h0
    · obtain ⟨p1, p2, p3⟩ := fx (decide_eq_true h0)
      exact .inr ⟨by simpa using p1, p2, p3⟩
  · by_cases h0 : szF F Ey Y % 2 ^ (unN Ex X Ey Y - F).toNat = 0
    · exact .inl h0
    · obtain ⟨p1, p2, p3⟩ := fy (decide_eq_true h0)
      exact .inr ⟨by simpa using p1, p2, p3⟩
end Go.Rn
