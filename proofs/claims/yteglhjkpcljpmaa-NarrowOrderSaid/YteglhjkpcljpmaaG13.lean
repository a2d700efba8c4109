/-
  PLAIN ARITHMETIC: a size of which the low bits are told by one bit alone is rounded as the size itself, where enough bits are left.
-/
import Derived.Test.YteglhjkpcljpmaaG12
namespace Go.Rn
open Go.Nt Go.Wd

/-- all but the low d bits, and behind them one bit for these -/
def stk (A d : Nat) : Nat := 2 * (A / 2 ^ d) + (if A % 2 ^ d = 0 then 0 else 1)
theorem stk_bit (A d : Nat) : (if A % 2 ^ d = 0 then 0 else 1) ≤ 1 := by split <;> omega
theorem stk_div (A d j : Nat) : stk A d / 2 ^ (j + 1) = A / 2 ^ (d + j) := by
  have e : stk A d / 2 = A / 2 ^ d := by unfold stk; split <;> omega
  rw [Nat.pow_succ, Nat.mul_comm, ← Nat.div_div_eq_div_mul, e, Nat.div_div_eq_div_mul, Nat.pow_add]
theorem stk_mod (A d j : Nat) : stk A d % 2 ^ (j + 1) = 2 * (A / 2 ^ d % 2 ^ j) + (if A % 2 ^ d = 0 then 0 else 1) := by
  rw [Nat.pow_succ, Nat.mul_comm, Nat.mod_mul]
  have e : stk A d / 2 = A / 2 ^ d := by unfold stk; split <;> omega
  rw [e]
  unfold stk
  split <;> omega
theorem all_mod (A d j : Nat) : A % 2 ^ (d + j) = A % 2 ^ d + 2 ^ d * (A / 2 ^ d % 2 ^ j) := by rw [Nat.pow_add, Nat.mod_mul]
theorem stk_zero (A d j : Nat) : stk A d % 2 ^ (j + 1) = 0 ↔ A % 2 ^ (d + j) = 0 := by
  have hD : 0 < 2 ^ d := Nat.pow_pos (by omega)
  rw [stk_mod, all_mod]
  generalize A / 2 ^ d % 2 ^ j = r
  constructor
  · intro h
    have h1 : A % 2 ^ d = 0 := by
      by_cases h0 : A % 2 ^ d = 0
      · exact h0
      · rw [if_neg h0] at h; omega
    rw [if_pos h1] at h
    have : r = 0 := by omega
    rw [h1, this]; simp
  · intro h
    have h1 : A % 2 ^ d = 0 := by omega
    rw [if_pos h1]
    have h2 : 2 ^ d * r = 0 := by omega
    rcases Nat.mul_eq_zero.1 h2 with h3 | h3
    · omega
    · rw [h3]
theorem rest_core {r r' D Q s : Nat} (hD : r' < D) (hQ : 0 < Q) (hb : s ≤ 1) (hs : s = 0 ↔ r' = 0) : restC (2 * r + s) (4 * Q) = restC (r' + D * r) (2 * (D * Q)) := by
  have hDr : r ≤ D * r := Nat.le_mul_of_pos_left r (by omega)
  unfold restC
  by_cases h0 : r' + D * r = 0
  · have : r' = 0 := by omega
    have := hs.2 this
    rw [if_pos h0, if_pos (by omega)]
  · have hz : ¬ 2 * r + s = 0 := by
      intro h
      apply h0
      have h1 : r = 0 := by omega
      have h2 := hs.1 (by omega)
      rw [h1, h2]; rfl
    rw [if_neg h0, if_neg hz]
    rcases Nat.lt_trichotomy r Q with h | h | h
    · have h1 : D * r + D ≤ D * Q := by rw [← Nat.mul_succ]; exact Nat.mul_le_mul_left D h
      rw [if_pos (by omega), if_pos (by omega)]
    · subst h
      by_cases hs0 : s = 0
      · have := hs.1 hs0
        rw [if_neg (by omega), if_pos (by omega), if_neg (by omega), if_pos (by omega)]
      · have : r' ≠ 0 := fun h => hs0 (hs.2 h)
        rw [if_neg (by omega), if_neg (by omega), if_neg (by omega), if_neg (by omega)]
    · have h1 : D * Q + D ≤ D * r := by rw [← Nat.mul_succ]; exact Nat.mul_le_mul_left D h
      rw [if_neg (by omega), if_neg (by omega), if_neg (by omega), if_neg (by omega)]
theorem stk_rest (A d j : Nat) : restC (stk A d % 2 ^ (j + 2)) (2 ^ (j + 2)) = restC (A % 2 ^ (d + (j + 1))) (2 ^ (d + (j + 1))) := by
  have hD : 0 < 2 ^ d := Nat.pow_pos (by omega)
  have hQ : 0 < 2 ^ j := Nat.pow_pos (by omega)
  have eP : 2 ^ (j + 1 + 1) = 4 * 2 ^ j := by rw [Nat.pow_succ, Nat.pow_succ]; omega
  have eP2 : 2 ^ (d + (j + 1)) = 2 * (2 ^ d * 2 ^ j) := by rw [Nat.pow_add, Nat.pow_succ, ← Nat.mul_assoc]; omega
  have e1 := stk_mod A d (j + 1)
  have e2 := all_mod A d (j + 1)
  rw [show j + 2 = (j + 1) + 1 by omega, e1, e2, eP, eP2]
  exact rest_core (Nat.mod_lt A hD) hQ (stk_bit A d) (by split <;> omega)
theorem stk_rq (m : Int) (neg : Bool) (A d j : Nat) : rq m neg (stk A d) (j + 2) = rq m neg A (d + (j + 1)) := by
  unfold rq
  rw [stk_rest, show j + 2 = (j + 1) + 1 by omega, stk_div]
theorem stk_toQ (m : Int) (neg : Bool) (A d : Nat) {F e : Int} (h : F + d + 1 ≤ e) : toQ m neg (stk A d) (F + d - 1) e = toQ m neg A F e := by
  obtain ⟨j, hj⟩ : ∃ j : Nat, e = F + d + 1 + j := ⟨(e - (F + d + 1)).toNat, by omega⟩
  unfold toQ
  rw [if_neg (by omega), if_neg (by omega), show (e - (F + d - 1)).toNat = j + 2 by omega, show (e - F).toNat = d + (j + 1) by omega, stk_rq]
theorem stk_toL (A d : Nat) {F e : Int} (h : F + d + 1 ≤ e) : toL (stk A d) (F + d - 1) e = toL A F e := by
  obtain ⟨j, hj⟩ : ∃ j : Nat, e = F + d + 1 + j := ⟨(e - (F + d + 1)).toNat, by omega⟩
  unfold toL
  rw [if_neg (by omega), if_neg (by omega), show (e - (F + d - 1)).toNat = j + 1 + 1 by omega, show (e - F).toNat = d + (j + 1) by omega]
  congr 1
  simp only [ne_eq, eq_iff_iff]
  exact not_congr (stk_zero A d (j + 1))
theorem stk_len {A d : Nat} (h : A / 2 ^ d ≠ 0) : bitLen (stk A d) = bitLen (A / 2 ^ d) + 1 := by
  have e : stk A d / 2 ^ 1 = A / 2 ^ d := by
    have := stk_div A d 0
    simpa using this
  rw [bitLen_shift (stk A d) 1 (by rw [e]; exact h), e]
  omega
theorem stk_lgN {A d : Nat} {F : Int} (h : A / 2 ^ d ≠ 0) : lgN (stk A d) (F + d - 1) = lgN A F := by
  have e := bitLen_shift A d h
  unfold lgN
  rw [stk_len h]
  omega
theorem stk_round {m : Int} {neg : Bool} {A d : Nat} {F : Int} (h : A % 2 ^ d = 0 ∨ 54 ≤ bitLen (A / 2 ^ d)) : rnP m neg (stk A d) (F + d - 1) = rnP m neg A F ∧ rnF m neg (stk A d) (F + d - 1) = rnF m neg A F := by
  by_cases h0 : A % 2 ^ d = 0
  · have e1 : stk A d = A / 2 ^ d * 2 ^ 1 := by unfold stk; rw [if_pos h0]; omega
    have e2 : A = A / 2 ^ d * 2 ^ d := by
      have := Nat.div_add_mod A (2 ^ d)
      rw [h0, Nat.mul_comm] at this
      omega
    have p1 := rnP_scale m neg (A / 2 ^ d) 1 (F + d)
    have p2 := rnP_scale m neg (A / 2 ^ d) d (F + d)
    have f1 := rnF_scale m neg (A / 2 ^ d) 1 (F + d)
    have f2 := rnF_scale m neg (A / 2 ^ d) d (F + d)
    rw [show F + (d : Int) - ((1 : Nat) : Int) = F + d - 1 by omega, ← e1] at p1 f1
    rw [show F + (d : Int) - (d : Int) = F by omega, ← e2] at p2 f2
    exact ⟨by rw [p1, p2], by rw [f1, f2]⟩
  · have hb : 54 ≤ bitLen (A / 2 ^ d) := by exact h.resolve_left h0
    have hq : A / 2 ^ d ≠ 0 := fun h => by rw [h] at hb; simp [bitLen] at hb
    have hA : A ≠ 0 := fun h => h0 (by rw [h]; simp)
    have hs : stk A d ≠ 0 := by unfold stk; omega
    have hl := stk_lgN (F := F) hq
    have hlw : lowE (stk A d) (F + d - 1) = lowE A F := by unfold lowE; rw [hl]
    have hlg : lgN A F = F + d + bitLen (A / 2 ^ d) - 1 := by rw [← hl]; unfold lgN; rw [stk_len hq]; omega
    have hge : F + d + 1 ≤ lowE A F := by unfold lowE; split <;> omega
    have hp : p0 m neg (stk A d) (F + d - 1) = p0 m neg A F := by unfold p0; rw [hlw, stk_toQ m neg A d hge]
    have ht : tiny m neg (stk A d) (F + d - 1) = tiny m neg A F := by
      unfold tiny
      rw [hl]
      by_cases hn : lgN A F = -1023
      · rw [if_pos hn, if_pos hn, stk_toQ m neg A d (by omega)]
      · rw [if_neg hn, if_neg hn]
    unfold rnP rnF
    rw [if_neg hs, if_neg hA, if_neg hs, if_neg hA, hp, hlw, stk_toL A d hge, ht]
    exact ⟨rfl, rfl⟩
end Go.Rn

/-
  PLAIN ARITHMETIC: the sum of two numbers with signs, told in units of the greater one.
-/
namespace Go.Rn
open Go.Nt Go.Wd

theorem dm {A D q r : Nat} (h : A = D * q + r) (hr : r < D) : A / D = q ∧ A % D = r := by
  subst h
  constructor
  · rw [Nat.mul_add_div (by omega), Nat.div_eq_of_lt hr, Nat.add_zero]
  · rw [Nat.mul_add_mod, Nat.mod_eq_of_lt hr]
def bN (b : Bool) : Nat := match b with | true => 1 | false => 0
theorem stk_of {A d q r : Nat} (h : A = 2 ^ d * q + r) (hr : r < 2 ^ d) : 2 * q + bN (decide (r ≠ 0)) = stk A d ∧ A / 2 ^ d = q ∧ A % 2 ^ d = r := by
  obtain ⟨h1, h2⟩ := dm h hr
  refine ⟨?_, h1, h2⟩
  unfold stk
  rw [h1, h2]
  by_cases h0 : r = 0
  · rw [if_pos h0]; simp [bN, h0]
  · rw [if_neg h0]; simp [bN, h0]
/-- a size with a sign -/
def sgI (n : Bool) (A : Nat) : Int := match n with | true => -(A : Int) | false => (A : Int)
/-- the sign of a sum -/
def sgS (m : Int) (nx ny : Bool) (S : Int) : Bool := if S = 0 then (if nx = ny then nx else decide (m = 4)) else decide (S < 0)
def exN (m : Int) (nx ny : Bool) (p q : Nat) : Bool := if nx = ny then nx else if q < p then nx else if p < q then ny else decide (m = 4)
def exQ (nx ny : Bool) (p : Nat) (bx : Bool) (q : Nat) (b : Bool) : Nat := if nx = ny then p + q else if q < p then p - q - bN b else if p < q then q - p - bN bx else 0
def exB (nx ny : Bool) (p : Nat) (bx : Bool) (q : Nat) (b : Bool) : Bool := if nx = ny then bx || b else if q < p then bx || b else if p < q then b || bx else false
/-- what is known of the two: at most one has something below its units, and that one is then far less than the other -/
def Far (p r q s K L : Nat) : Prop := r = 0 ∨ (s = 0 ∧ K ≤ q ∧ p < L)
theorem exLess {K : Nat} (h54 : 2 ^ 53 ≤ K) {d Ax Ay p r q s : Nat} (hx : Ax = 2 ^ d * p + r) (hy : Ay = 2 ^ d * q + s) (hs : s < 2 ^ d) (hr : r = 0) (hlt : q < p) (hK : s = 0 ∨ K + q + 1 ≤ p) :
    Ay < Ax ∧ 2 * (p - q - bN (decide (s ≠ 0))) + bN (decide (s ≠ 0)) = stk (Ax - Ay) d ∧ ((Ax - Ay) % 2 ^ d = 0 ∨ 54 ≤ bitLen ((Ax - Ay) / 2 ^ d)) := by
  have hm : 2 ^ d * q + 2 ^ d ≤ 2 ^ d * p := by rw [← Nat.mul_succ]; exact Nat.mul_le_mul_left _ hlt
  refine ⟨by omega, ?_⟩
  by_cases h0 : s = 0
  · have e : Ax - Ay = 2 ^ d * (p - q) + 0 := by rw [Nat.mul_sub]; omega
    obtain ⟨a, b, c⟩ := stk_of e (Nat.pow_pos (by omega))
    rw [← a]
    refine ⟨?_, .inl c⟩
    simp [h0, bN]
  · have e : Ax - Ay = 2 ^ d * (p - q - 1) + (2 ^ d - s) := by
      rw [Nat.mul_sub, Nat.mul_sub, Nat.mul_one]
      omega
    obtain ⟨a, b, c⟩ := stk_of e (by omega)
    have h1 : decide (2 ^ d - s ≠ 0) = true := decide_eq_true (by omega)
    have h2 : decide (s ≠ 0) = true := decide_eq_true h0
    rw [h1] at a
    rw [← a, h2]
    refine ⟨rfl, .inr ?_⟩
    rw [b]
    exact le_len (k := 53) (by rcases hK with h | h <;> omega)
theorem ex_core {K L : Nat} (hKL : 2 ^ 53 + L + 1 ≤ K) {d Ax Ay p r q s : Nat} (hx : Ax = 2 ^ d * p + r) (hr : r < 2 ^ d) (hy : Ay = 2 ^ d * q + s) (hs : s < 2 ^ d) (h1 : Far p r q s K L) (h2 : Far q s p r K L) (m : Int) (nx ny : Bool) :
    2 * exQ nx ny p (decide (r ≠ 0)) q (decide (s ≠ 0)) + bN (exB nx ny p (decide (r ≠ 0)) q (decide (s ≠ 0))) = stk (sgI nx Ax + sgI ny Ay).natAbs d
    ∧ ((sgI nx Ax + sgI ny Ay).natAbs % 2 ^ d = 0 ∨ 54 ≤ bitLen ((sgI nx Ax + sgI ny Ay).natAbs / 2 ^ d))
    ∧ exN m nx ny p q = sgS m nx ny (sgI nx Ax + sgI ny Ay) := by
  unfold Far at h1 h2
  by_cases hn : nx = ny
  · have ha : (sgI nx Ax + sgI ny Ay).natAbs = Ax + Ay := by subst hn; cases nx <;> simp only [sgI] <;> omega
    have hsg : nx = sgS m nx ny (sgI nx Ax + sgI ny Ay) := by
      unfold sgS
      split
      · rfl
      · rename_i h0
        subst hn
        cases nx <;> simp only [sgI] at * <;> symm
        · exact decide_eq_false (by omega)
        · exact decide_eq_true (by omega)
    rw [ha]
    unfold exQ exB exN
    rw [if_pos hn, if_pos hn, if_pos hn]
    have e : Ax + Ay = 2 ^ d * (p + q) + (r + s) := by rw [Nat.mul_add]; omega
    obtain ⟨a, b, c⟩ := stk_of e (by omega)
    refine ⟨?_, ?_, hsg⟩
    · rw [← a]
      congr 2
      by_cases r0 : r = 0 <;> by_cases s0 : s = 0 <;> simp [r0, s0]
    · rw [b, c]
      by_cases r0 : r = 0
      · by_cases s0 : s = 0
        · left; omega
        · right; exact le_len (k := 53) (by omega)
      · right; exact le_len (k := 53) (by omega)
  · unfold exQ exB exN
    rw [if_neg hn, if_neg hn, if_neg hn]
    have hab : (sgI nx Ax + sgI ny Ay).natAbs = if Ay < Ax then Ax - Ay else Ay - Ax := by
      cases nx <;> cases ny <;> simp only [sgI, not_true_eq_false, reduceCtorEq, not_false_eq_true] at * <;> split <;> omega
    have hz : (sgI nx Ax + sgI ny Ay = 0) ↔ Ax = Ay := by
      cases nx <;> cases ny <;> simp only [sgI, not_true_eq_false, reduceCtorEq, not_false_eq_true] at * <;> omega
    have hneg : Ax ≠ Ay → sgS m nx ny (sgI nx Ax + sgI ny Ay) = if Ay < Ax then nx else ny := fun h => by
      unfold sgS
      rw [if_neg (fun e => h (hz.1 e))]
      cases nx <;> cases ny <;> simp only [sgI, not_true_eq_false, reduceCtorEq, not_false_eq_true] at * <;> split <;> first | exact decide_eq_true (by omega) | exact decide_eq_false (by omega)
    rw [hab]
    rcases Nat.lt_trichotomy p q with h | h | h
    · have s0 : s = 0 := by omega
      obtain ⟨a, b, c⟩ := exLess (K := 2 ^ 53) (Nat.le_refl _) hy hx hr s0 h (by omega)
      rw [if_neg (by omega), if_pos h, if_neg (by omega), if_pos h, if_neg (by omega), if_neg (by omega), if_pos h]
      have e0 : decide (s ≠ 0) = false := decide_eq_false (by omega)
      rw [hneg (by omega), if_neg (by omega), e0, Bool.false_or]
      exact ⟨b, c, rfl⟩
    · subst h
      have r0 : r = 0 := by omega
      have s0 : s = 0 := by omega
      have he : Ax = Ay := by omega
      rw [if_neg (Nat.lt_irrefl _), if_neg (Nat.lt_irrefl _), if_neg (Nat.lt_irrefl _), if_neg (Nat.lt_irrefl _), if_neg (by omega), if_neg (Nat.lt_irrefl _), if_neg (Nat.lt_irrefl _)]
      refine ⟨?_, ?_, ?_⟩
      · rw [he]; simp [stk, bN]
      · left; rw [he]; simp
      · unfold sgS
        rw [if_pos (hz.2 he), if_neg hn]
    · have r0 : r = 0 := by omega
      obtain ⟨a, b, c⟩ := exLess (K := 2 ^ 53) (Nat.le_refl _) hx hy hs r0 h (by omega)
      rw [if_pos h, if_pos h, if_pos h, if_pos a]
      have e0 : decide (r ≠ 0) = false := decide_eq_false (by omega)
      rw [hneg (by omega), if_pos a, e0, Bool.false_or]
      exact ⟨b, c, rfl⟩

/-! ### in units -/
def iuQ (E u : Int) (X : Nat) : Nat := if u ≤ E then X * 2 ^ (E - u).toNat else X / 2 ^ (u - E).toNat
def iuB (E u : Int) (X : Nat) : Bool := if u ≤ E then false else decide (X % 2 ^ (u - E).toNat ≠ 0)
/-- a size, told by a lower power -/
def szF (F E : Int) (X : Nat) : Nat := X * 2 ^ (E - F).toNat
theorem iu_eq {F E u : Int} (h1 : F ≤ u) (h2 : F ≤ E) (X : Nat) : iuQ E u X = szF F E X / 2 ^ (u - F).toNat ∧ iuB E u X = decide (szF F E X % 2 ^ (u - F).toNat ≠ 0) := by
  unfold iuQ iuB szF
  by_cases h : u ≤ E
  · rw [if_pos h, if_pos h]
    have e : X * 2 ^ (E - F).toNat = X * 2 ^ (E - u).toNat * 2 ^ (u - F).toNat := by rw [Nat.mul_assoc, ← Nat.pow_add]; congr 2; omega
    rw [e, Nat.mul_div_cancel _ (Nat.pow_pos (by omega)), Nat.mul_mod_left]
    simp
  · rw [if_neg h, if_neg h]
    have e : (u - F).toNat = (u - E).toNat + (E - F).toNat := by omega
    have hp : 0 < 2 ^ (E - F).toNat := Nat.pow_pos (by omega)
    rw [e, Nat.pow_add, Nat.mul_div_mul_right _ _ hp, Nat.mul_mod_mul_right]
    refine ⟨rfl, ?_⟩
    congr 1
    rw [ne_eq, ne_eq, Nat.mul_eq_zero]
    simp only [eq_iff_iff]
    omega
def topN (E : Int) (X : Nat) : Int := if X = 0 then -100000 else E + (bitLen X : Nat)
def unN (Ex : Int) (X : Nat) (Ey : Int) (Y : Nat) : Int := max (topN Ex X) (topN Ey Y) - 254
theorem un_comm (Ex : Int) (X : Nat) (Ey : Int) (Y : Nat) : unN Ex X Ey Y = unN Ey Y Ex X := by unfold unN; omega
/-- a number that may be added -/
def May (E : Int) (X : Nat) : Prop := X < 2 ^ 128 ∧ -100000 ≤ E ∧ E ≤ 100000
theorem iuQ_lt {Ex Ey : Int} {X Y : Nat} : iuQ Ex (unN Ex X Ey Y) X < 2 ^ 254 := by
  by_cases h0 : X = 0
  · subst h0; unfold iuQ; split <;> simp
  · have hb := (bitLen_spec X).1
    have ht : topN Ex X = Ex + (bitLen X : Nat) := by unfold topN; rw [if_neg h0]
    have hu : Ex + (bitLen X : Nat) - 254 ≤ unN Ex X Ey Y := by unfold unN; omega
    unfold iuQ
    by_cases h : unN Ex X Ey Y ≤ Ex
    · rw [if_pos h]
      have hp : 0 < 2 ^ (Ex - unN Ex X Ey Y).toNat := Nat.pow_pos (by omega)
      have h3 := Nat.mul_lt_mul_of_pos_right hb hp
      rw [← Nat.pow_add] at h3
      exact Nat.lt_of_lt_of_le h3 (Nat.pow_le_pow_right (by omega) (by omega))
    · rw [if_neg h]
      refine Nat.div_lt_of_lt_mul ?_
      rw [← Nat.pow_add]
      exact Nat.lt_of_lt_of_le hb (Nat.pow_le_pow_right (by omega) (by omega))
theorem iu_far {Ex Ey : Int} {X Y : Nat} (hX : May Ex X) (hY : May Ey Y) (h : iuB Ey (unN Ex X Ey Y) Y = true) : iuB Ex (unN Ex X Ey Y) X = false ∧ 2 ^ 253 ≤ iuQ Ex (unN Ex X Ey Y) X ∧ iuQ Ey (unN Ex X Ey Y) Y < 2 ^ 128 := by
  obtain ⟨x1, x2, x3⟩ := hX
  obtain ⟨y1, y2, y3⟩ := hY
  unfold iuB at h
  have hu : ¬ unN Ex X Ey Y ≤ Ey := fun hc => by rw [if_pos hc] at h; cases h
  rw [if_neg hu] at h
  have hY0 : Y ≠ 0 := fun h0 => by rw [h0] at h; simp at h
  have lY : bitLen Y ≤ 128 := len_le y1
  have lX : bitLen X ≤ 128 := len_le x1
  have pY := len_pos hY0
  have tY : topN Ey Y = Ey + (bitLen Y : Nat) := by unfold topN; rw [if_neg hY0]
  have hX0 : X ≠ 0 := fun h0 => by
    apply hu
    unfold unN
    rw [tY]
    unfold topN
    rw [if_pos h0]
    omega
  have tX : topN Ex X = Ex + (bitLen X : Nat) := by unfold topN; rw [if_neg hX0]
  have eu : unN Ex X Ey Y = Ex + (bitLen X : Nat) - 254 := by unfold unN at hu ⊢; omega
  have hle : unN Ex X Ey Y ≤ Ex := by omega
  refine ⟨by unfold iuB; rw [if_pos hle], ?_, ?_⟩
  · unfold iuQ
    rw [if_pos hle]
    have h2 := (bitLen_spec X).2 hX0
    have pX := len_pos hX0
    have h3 := Nat.mul_le_mul_right (2 ^ (Ex - unN Ex X Ey Y).toNat) h2
    rw [← Nat.pow_add] at h3
    exact Nat.le_trans (Nat.pow_le_pow_right (by omega) (by omega)) h3
  · unfold iuQ
    rw [if_neg hu]
    exact Nat.lt_of_le_of_lt (Nat.div_le_self _ _) y1
/-- the sum, exactly: in units of 2^F -/
def smI (F : Int) (nx : Bool) (Ex : Int) (X : Nat) (ny : Bool) (Ey : Int) (Y : Nat) : Int := sgI nx (szF F Ex X) + sgI ny (szF F Ey Y)
def xuQ (nx : Bool) (Ex : Int) (X : Nat) (ny : Bool) (Ey : Int) (Y : Nat) : Nat := exQ nx ny (iuQ Ex (unN Ex X Ey Y) X) (iuB Ex (unN Ex X Ey Y) X) (iuQ Ey (unN Ex X Ey Y) Y) (iuB Ey (unN Ex X Ey Y) Y)
def xuB (nx : Bool) (Ex : Int) (X : Nat) (ny : Bool) (Ey : Int) (Y : Nat) : Bool := exB nx ny (iuQ Ex (unN Ex X Ey Y) X) (iuB Ex (unN Ex X Ey Y) X) (iuQ Ey (unN Ex X Ey Y) Y) (iuB Ey (unN Ex X Ey Y) Y)
def xuN (m : Int) (nx : Bool) (Ex : Int) (X : Nat) (ny : Bool) (Ey : Int) (Y : Nat) : Bool := exN m nx ny (iuQ Ex (unN Ex X Ey Y) X) (iuQ Ey (unN Ex X Ey Y) Y)
theorem xuQ_lt (nx : Bool) (Ex : Int) (X : Nat) (ny : Bool) (Ey : Int) (Y : Nat) : xuQ nx Ex X ny Ey Y < 2 ^ 255 := by
  have h1 := iuQ_lt (Ex := Ex) (Ey := Ey) (X := X) (Y := Y)
  have h2 := iuQ_lt (Ex := Ey) (Ey := Ex) (X := Y) (Y := X)
  rw [un_comm] at h2
  have e : (2 : Nat) ^ 255 = 2 * 2 ^ 254 := by rw [show 255 = 254 + 1 from rfl, Nat.pow_succ, Nat.mul_comm]
  unfold xuQ exQ
  rw [e]
  generalize (2 : Nat) ^ 254 = P at *
  split
  · omega
  · split
    · omega
    · split <;> omega
theorem xu_sum {F Ex Ey : Int} {X Y : Nat} (hX : May Ex X) (hY : May Ey Y) (hF : F ≤ unN Ex X Ey Y) (hx : F ≤ Ex) (hy : F ≤ Ey) (m : Int) (nx ny : Bool) :
    2 * xuQ nx Ex X ny Ey Y + bN (xuB nx Ex X ny Ey Y) = stk (smI F nx Ex X ny Ey Y).natAbs (unN Ex X Ey Y - F).toNat
    ∧ ((smI F nx Ex X ny Ey Y).natAbs % 2 ^ (unN Ex X Ey Y - F).toNat = 0 ∨ 54 ≤ bitLen ((smI F nx Ex X ny Ey Y).natAbs / 2 ^ (unN Ex X Ey Y - F).toNat))
    ∧ xuN m nx Ex X ny Ey Y = sgS m nx ny (smI F nx Ex X ny Ey Y) := by
  have fx := iu_far hY hX (Ex := Ey) (Ey := Ex) (X := Y) (Y := X)
  have fy := iu_far hX hY (Ex := Ex) (Ey := Ey) (X := X) (Y := Y)
  rw [un_comm Ey Y Ex X] at fx
  obtain ⟨ax, bx⟩ := iu_eq hF hx X
  obtain ⟨ay, by'⟩ := iu_eq hF hy Y
  unfold xuQ xuB xuN smI
  rw [ax, ay, bx, by'] at fx fy
  rw [ax, ay, bx, by']
  have hD : 0 < 2 ^ (unN Ex X Ey Y - F).toNat := Nat.pow_pos (by omega)
  refine ex_core (K := 2 ^ 253) (L := 2 ^ 128) (by decide) (Nat.div_add_mod _ _).symm (Nat.mod_lt _ hD) (Nat.div_add_mod _ _).symm (Nat.mod_lt _ hD) ?_ ?_ m nx ny
  · by_cases h0 : szF F Ex X % 2 ^ (unN Ex X Ey Y - F).toNat = 0
    · exact .inl h0
    · obtain ⟨p1, p2, p3⟩ := fx (decide_eq_true h0)
      exact .inr ⟨by simpa using p1, p2, p3⟩
  · by_cases h0 : szF F Ey Y % 2 ^ (unN Ex X Ey Y - F).toNat = 0
    · exact .inl h0
    · obtain ⟨p1, p2, p3⟩ := fy (decide_eq_true h0)
      exact .inr ⟨by simpa using p1, p2, p3⟩
end Go.Rn

/-
  PLAIN ARITHMETIC: the sum of two patterns' numbers, rounded.
-/
namespace Go.Rn
open Go.Nt Go.Wd Go.Pt

theorem szF_low {F G E : Int} (h1 : F ≤ G) (h2 : G ≤ E) (X : Nat) : szF F E X = szF G E X * 2 ^ (G - F).toNat := by
  unfold szF
  rw [Nat.mul_assoc, ← Nat.pow_add]
  congr 2
  omega
theorem sgI_mul (n : Bool) (A K : Nat) : sgI n (A * K) = sgI n A * (K : Int) := by
  cases n
  · simp [sgI]
  · simp only [sgI, Int.natCast_mul]; rw [Int.neg_mul]
theorem smI_low {F G Ex Ey : Int} (h1 : F ≤ G) (h2 : G ≤ Ex) (h3 : G ≤ Ey) (nx ny : Bool) (X Y : Nat) : smI F nx Ex X ny Ey Y = smI G nx Ex X ny Ey Y * ((2 ^ (G - F).toNat : Nat) : Int) := by
  unfold smI
  rw [szF_low h1 h2, szF_low h1 h3, sgI_mul, sgI_mul, Int.add_mul]
theorem sgS_mul (m : Int) (nx ny : Bool) (S : Int) {K : Nat} (hK : 0 < K) : sgS m nx ny (S * (K : Int)) = sgS m nx ny S := by
  have hk : (0 : Int) < (K : Int) := by omega
  have e0 : S * (K : Int) = 0 ↔ S = 0 := by rw [Int.mul_eq_zero]; omega
  have e1 : S * (K : Int) < 0 ↔ S < 0 := by
    constructor
    · intro h
      rcases Int.lt_or_le S 0 with h1 | h1
      · exact h1
      · have := Int.mul_nonneg h1 (Int.le_of_lt hk); omega
    · intro h; exact Int.mul_neg_of_neg_of_pos h hk
  unfold sgS
  simp only [e0, e1]
/-- what was told in units is rounded as the sum itself -/
theorem xu_round {G Ex Ey : Int} {X Y : Nat} (hX : May Ex X) (hY : May Ey Y) (hx : G ≤ Ex) (hy : G ≤ Ey) (k m : Int) (n nx ny : Bool) :
    rnP k n (2 * xuQ nx Ex X ny Ey Y + bN (xuB nx Ex X ny Ey Y)) (unN Ex X Ey Y - 1) = rnP k n (smI G nx Ex X ny Ey Y).natAbs G
    ∧ rnF k n (2 * xuQ nx Ex X ny Ey Y + bN (xuB nx Ex X ny Ey Y)) (unN Ex X Ey Y - 1) = rnF k n (smI G nx Ex X ny Ey Y).natAbs G
    ∧ xuN m nx Ex X ny Ey Y = sgS m nx ny (smI G nx Ex X ny Ey Y) := by
  obtain ⟨F, hF⟩ : ∃ F, F = min (unN Ex X Ey Y) G := ⟨_, rfl⟩
  have h1 : F ≤ unN Ex X Ey Y := by omega
  have h2 : F ≤ G := by omega
  obtain ⟨a, b, c⟩ := xu_sum hX hY h1 (by omega) (by omega) m nx ny
  have hK : 0 < 2 ^ (G - F).toNat := Nat.pow_pos (by omega)
  have es := smI_low (X := X) (Y := Y) h2 hx hy nx ny
  have ea : (smI F nx Ex X ny Ey Y).natAbs = (smI G nx Ex X ny Ey Y).natAbs * 2 ^ (G - F).toNat := by rw [es, Int.natAbs_mul, Int.natAbs_natCast]
  obtain ⟨p, q⟩ := stk_round (m := k) (neg := n) (F := F) b
  have eu : F + ((unN Ex X Ey Y - F).toNat : Int) - 1 = unN Ex X Ey Y - 1 := by omega
  have eG : G - ((G - F).toNat : Int) = F := by omega
  have sp := rnP_scale k n (smI G nx Ex X ny Ey Y).natAbs (G - F).toNat G
  have sf := rnF_scale k n (smI G nx Ex X ny Ey Y).natAbs (G - F).toNat G
  rw [eG, ← ea] at sp sf
  rw [eu] at p q
  refine ⟨by rw [a, p, sp], by rw [a, q, sf], ?_⟩
  rw [c, es, sgS_mul m nx ny _ hK]

/-! ### patterns -/
/-- a finite pattern's size, in units of 2^-1074 -/
def uV (p : Int) : Nat := szF (-1074) (xp p) (sg p).toNat
def pvI (p : Int) : Int := sgI (sgn p) (uV p)
def psI (a b : Int) : Int := pvI a + pvI b
theorem psI_eq (a b : Int) : psI a b = smI (-1074) (sgn a) (xp a) (sg a).toNat (sgn b) (xp b) (sg b).toNat := rfl
theorem xp_bd (p : Int) : -1074 ≤ xp p ∧ xp p ≤ 972 := by
  have := ex_lt p
  unfold xp
  split
  · omega
  · split <;> omega
theorem sg_lt (p : Int) : 0 ≤ sg p ∧ sg p < 9007199254740992 := by
  have := fr_lt p
  unfold sg
  split
  · omega
  · split <;> omega
theorem may_pat (p : Int) : May (xp p) (sg p).toNat := by
  have h1 := xp_bd p
  have h2 := sg_lt p
  refine ⟨?_, by omega, by omega⟩
  have : (2 : Nat) ^ 128 = 340282366920938463463374607431768211456 := rfl
  omega
def adN (m a b : Int) : Bool := sgS m (sgn a) (sgn b) (psI a b)
def adP (m a b : Int) : Int := rnP m (adN m a b) (psI a b).natAbs (-1074)
def adF (m a b : Int) : Int := rnF m (adN m a b) (psI a b).natAbs (-1074)
theorem psI_comm (a b : Int) : psI a b = psI b a := by unfold psI; omega
theorem sgS_comm (m : Int) (nx ny : Bool) (S : Int) : sgS m nx ny S = sgS m ny nx S := by
  have e : (if nx = ny then nx else decide (m = 4)) = (if ny = nx then ny else decide (m = 4)) := by cases nx <;> cases ny <;> rfl
  unfold sgS
  rw [e]
theorem adN_comm (m a b : Int) : adN m a b = adN m b a := by unfold adN; rw [psI_comm, sgS_comm]
theorem ad_comm (m a b : Int) : adP m a b = adP m b a ∧ adF m a b = adF m b a := by unfold adP adF; rw [adN_comm, psI_comm]; exact ⟨rfl, rfl⟩
/-- a pattern's own number is rounded to it -/
theorem own_uV {m : Int} {n : Bool} {p : Int} (h : ex p ≠ 2047) : rnP m n (uV p) (-1074) = mag p ∧ rnF m n (uV p) (-1074) = 0 := by
  have hb := xp_bd p
  obtain ⟨a, b⟩ := own_pat (m := m) (neg := n) h
  have e1 := rnP_scale m n (sg p).toNat (xp p + 1074).toNat (xp p)
  have e2 := rnF_scale m n (sg p).toNat (xp p + 1074).toNat (xp p)
  have e3 : xp p - ((xp p + 1074).toNat : Int) = -1074 := by omega
  have e4 : uV p = (sg p).toNat * 2 ^ (xp p + 1074).toNat := by
    unfold uV szF
    congr 2
  rw [e3, ← e4] at e1 e2
  exact ⟨by rw [e1, a], by rw [e2, b]⟩
theorem uV_zero {p : Int} (h : ex p ≠ 2047) : uV p = 0 ↔ mag p = 0 := by
  have h1 := ex_lt p
  have h2 := fr_lt p
  have h4 : mag p = 4503599627370496 * ex p + fr p := by unfold mag ex fr; omega
  have hp : 0 < 2 ^ (xp p - -1074).toNat := Nat.pow_pos (by omega)
  have e : uV p = 0 ↔ sg p = 0 := by
    have := sg_lt p
    unfold uV szF
    rw [Nat.mul_eq_zero]
    omega
  rw [e, h4]
  unfold sg
  split
  · omega
  · omega
/-- of a sum without flags the pattern's number is the sum -/
theorem back_uV {m : Int} {n : Bool} {A : Nat} (h : rnF m n A (-1074) = 0) : rnP m n A (-1074) < 9218868437227405312 ∧ uV (rnP m n A (-1074)) = A := by
  by_cases hA : A = 0
  · subst hA
    have e : rnP m n 0 (-1074) = 0 := by simp [rnP]
    rw [e]
    refine ⟨by omega, ?_⟩
    rw [uV_zero (by decide)]
    decide
  · unfold rnF at h
    rw [if_neg hA] at h
    have hb : ¬ 9218868437227405312 ≤ p0 m n A (-1074) := fun hc => by rw [if_pos hc] at h; omega
    rw [if_neg hb] at h
    have hl : toL A (-1074) (lowE A (-1074)) = false := by
      cases hc : toL A (-1074) (lowE A (-1074)) with
      | false => rfl
      | true => rw [hc, if_pos rfl] at h; split at h <;> omega
    have hp : rnP m n A (-1074) = p0 m n A (-1074) := by unfold rnP; rw [if_neg hA, if_neg hb]
    rw [hp]
    refine ⟨by omega, ?_⟩
    have hlow := lowE_ge A (-1074)
    have hq := low_hi m n A (-1074)
    -- the multiple, exactly
    have hx : A = toQ m n A (-1074) (lowE A (-1074)) * 2 ^ (lowE A (-1074) + 1074).toNat := by
      unfold toQ toL at *
      by_cases he : lowE A (-1074) ≤ -1074
      · rw [if_pos he]
        have e0 : lowE A (-1074) = -1074 := by omega
        rw [e0]
        simp
      · rw [if_neg he] at hl ⊢
        have e1 : (lowE A (-1074) - -1074).toNat = (lowE A (-1074) + 1074).toNat := by omega
        rw [e1] at hl ⊢
        have hm : A % 2 ^ (lowE A (-1074) + 1074).toNat = 0 := by simpa using hl
        rw [rq_exact hm]
        have := Nat.div_add_mod A (2 ^ (lowE A (-1074) + 1074).toNat)
        rw [hm, Nat.mul_comm] at this
        omega
    have hlo : lowE A (-1074) = -1074 ∨ 4503599627370496 ≤ toQ m n A (-1074) (lowE A (-1074)) := by
      by_cases h1 : lowE A (-1074) = -1074
      · exact .inl h1
      · right
        refine low_lo hA ?_
        unfold lowE at h1
        split at h1 <;> omega
    have hpe : p0 m n A (-1074) = (lowE A (-1074) + 1074) * 4503599627370496 + (toQ m n A (-1074) (lowE A (-1074)) : Nat) := rfl
    generalize toQ m n A (-1074) (lowE A (-1074)) = q at *
    generalize lowE A (-1074) = e at *
    rw [hpe] at hb ⊢
    obtain ⟨j, hj⟩ : ∃ j : Nat, e = (j : Int) - 1074 := ⟨(e + 1074).toNat, by omega⟩
    have ej : (e + 1074).toNat = j := by omega
    have ej' : e + 1074 = (j : Int) := by omega
    rw [ej] at hx
    rw [ej'] at hb ⊢
    clear ej ej'
    rw [hx]
    unfold uV szF xp sg
    by_cases c0 : q < 4503599627370496
    · have j0 : j = 0 := by omega
      subst j0
      have ee : ex (((0 : Nat) : Int) * 4503599627370496 + (q : Int)) = 0 := by unfold ex; omega
      have ef : fr (((0 : Nat) : Int) * 4503599627370496 + (q : Int)) = (q : Int) := by unfold fr; omega
      rw [ee, ef]
      simp
    · by_cases c1 : q = 9007199254740992
      · have ee : ex ((j : Int) * 4503599627370496 + (q : Int)) = (j : Int) + 2 := by unfold ex; omega
        have ef : fr ((j : Int) * 4503599627370496 + (q : Int)) = 0 := by unfold fr; omega
        rw [ee, ef, if_neg (by omega), if_neg (by omega), if_neg (by omega), if_neg (by omega)]
        have e1 : ((j : Int) + 2 - 1075 - -1074).toNat = j + 1 := by omega
        rw [e1, c1, Nat.pow_succ]
        have e2 : ((0 : Int) + 4503599627370496).toNat = 4503599627370496 := rfl
        rw [e2]
        omega
      · have ee : ex ((j : Int) * 4503599627370496 + (q : Int)) = (j : Int) + 1 := by unfold ex; omega
        have ef : fr ((j : Int) * 4503599627370496 + (q : Int)) = (q : Int) - 4503599627370496 := by unfold fr; omega
        rw [ee, ef, if_neg (by omega), if_neg (by omega), if_neg (by omega), if_neg (by omega)]
        have e1 : ((j : Int) + 1 - 1075 - -1074).toNat = j := by omega
        have e2 : ((q : Int) - 4503599627370496 + 4503599627370496).toNat = q := by omega
        rw [e1, e2]
/-- the other sign -/
def ng (p : Int) : Int := (p + 9223372036854775808) % 18446744073709551616
theorem ng_parts {p : Int} (hp : U p) : U (ng p) ∧ sgn (ng p) = !sgn p ∧ ex (ng p) = ex p ∧ fr (ng p) = fr p ∧ mag (ng p) = mag p := by
  unfold U at hp
  unfold ng U sgn ex fr mag
  refine ⟨by omega, ?_, by omega, by omega, by omega⟩
  by_cases h : 9223372036854775808 ≤ p
  · rw [decide_eq_true h, decide_eq_false (by omega)]; rfl
  · rw [decide_eq_false h, decide_eq_true (by omega)]; rfl
theorem ng_num {p : Int} (hp : U p) : xp (ng p) = xp p ∧ sg (ng p) = sg p ∧ cl (ng p) = cl p ∧ uV (ng p) = uV p ∧ pvI (ng p) = - pvI p := by
  obtain ⟨_, h1, h2, h3, _⟩ := ng_parts hp
  have e1 : xp (ng p) = xp p := by unfold xp; rw [h2]
  have e2 : sg (ng p) = sg p := by unfold sg; rw [h2, h3]
  have e4 : uV (ng p) = uV p := by unfold uV; rw [e1, e2]
  refine ⟨e1, e2, by unfold cl; rw [h2, h3], e4, ?_⟩
  unfold pvI
  rw [h1, e4]
  cases sgn p <;> simp [sgI]
theorem psI_ng {a b : Int} (ha : U a) (hb : U b) : psI (ng a) (ng b) = - psI a b := by
  unfold psI
  rw [(ng_num ha).2.2.2.2, (ng_num hb).2.2.2.2]
  omega
theorem ad_ng {m a b : Int} (ha : U a) (hb : U b) : adP (swM m) (ng a) (ng b) = adP m a b ∧ adF (swM m) (ng a) (ng b) = adF m a b ∧ (psI a b ≠ 0 → adN (swM m) (ng a) (ng b) = !adN m a b) := by
  have e := psI_ng ha hb
  have hn : psI a b ≠ 0 → adN (swM m) (ng a) (ng b) = !adN m a b := fun h => by
    unfold adN sgS
    rw [e, if_neg (by omega), if_neg h]
    by_cases h2 : psI a b < 0
    · rw [decide_eq_true h2, decide_eq_false (by omega)]; rfl
    · rw [decide_eq_false h2, decide_eq_true (by omega)]; rfl
  by_cases h : psI a b = 0
  · refine ⟨?_, ?_, hn⟩
    · unfold adP; rw [e, h]; simp [rnP]
    · unfold adF; rw [e, h]; simp [rnF]
  · have h1 := hn h
    refine ⟨?_, ?_, hn⟩
    · unfold adP; rw [h1, e, Int.natAbs_neg, rnP_swM]
    · unfold adF; rw [h1, e, Int.natAbs_neg, rnF_swM]
theorem ad_self {m a : Int} (ha : U a) : psI a (ng a) = 0 ∧ adN m a (ng a) = decide (m = 4) ∧ adP m a (ng a) = 0 ∧ adF m a (ng a) = 0 := by
  have e : psI a (ng a) = 0 := by unfold psI; rw [(ng_num ha).2.2.2.2]; omega
  refine ⟨e, ?_, by unfold adP; rw [e]; simp [rnP], by unfold adF; rw [e]; simp [rnF]⟩
  unfold adN sgS
  rw [if_pos e, (ng_parts ha).2.1, if_neg (by cases sgn a <;> simp)]
theorem sgI_abs (n : Bool) (A : Nat) : (sgI n A).natAbs = A := by cases n <;> simp [sgI]
theorem sgI_neg {n : Bool} {A : Nat} (h : A ≠ 0) : decide (sgI n A < 0) = n ∧ sgI n A ≠ 0 := by
  cases n
  · exact ⟨decide_eq_false (by simp only [sgI]; omega), by simp only [sgI]; omega⟩
  · exact ⟨decide_eq_true (by simp only [sgI]; omega), by simp only [sgI]; omega⟩
/-- where the sum is a pattern's number -/
theorem ad_num {m a b p : Int} (hf : ex p ≠ 2047) (h0 : mag p ≠ 0) (hs : psI a b = pvI p) : adN m a b = sgn p ∧ adP m a b = mag p ∧ adF m a b = 0 := by
  have hu : uV p ≠ 0 := fun h => h0 ((uV_zero hf).1 h)
  obtain ⟨n1, n2⟩ := sgI_neg (n := sgn p) hu
  have hn : adN m a b = sgn p := by
    unfold adN sgS
    rw [hs]
    unfold pvI
    rw [if_neg n2, n1]
  have hab : (psI a b).natAbs = uV p := by rw [hs]; exact sgI_abs _ _
  obtain ⟨q1, q2⟩ := own_uV (m := m) (n := sgn p) hf
  refine ⟨hn, ?_, ?_⟩
  · unfold adP; rw [hn, hab, q1]
  · unfold adF; rw [hn, hab, q2]
theorem pvI_zero : pvI 0 = 0 := by decide
theorem ad_zero {m a : Int} (hf : ex a ≠ 2047) (h0 : mag a ≠ 0) : adN m a 0 = sgn a ∧ adP m a 0 = mag a ∧ adF m a 0 = 0 := ad_num hf h0 (by unfold psI; rw [pvI_zero]; omega)
theorem ad_bd (m a b : Int) : 0 ≤ adP m a b ∧ adP m a b ≤ 9218868437227405312 := rnP_bd _ _ _ _
end Go.Rn
