/-
  NumF, NumG, SuA, SuB, PatA
-/
import Derived.Test.YtjkgnbdeklploaaGreatG11
namespace Go.Rn
open Go.Wd
/-- all but the low d bits, and behind them one bit for these -/
def stk (A d : Nat) : Nat := 2 * (A / 2 ^ d) + (if A % 2 ^ d = 0 then 0 else 1)
theorem stk_bit (A d : Nat) : (if A % 2 ^ d = 0 then 0 else 1) ≤ 1 := by split <;> omega
theorem stk_div (A d j : Nat) : stk A d / 2 ^ (j + 1) = A / 2 ^ (d + j) := by
  have e : stk A d / 2 = A / 2 ^ d := by unfold stk; split <;> omega
  rw [Nat.pow_succ, Nat.mul_comm, ← Nat.div_div_eq_div_mul, e, Nat.div_div_eq_div_mul, Nat.pow_add]
theorem stk_mod (A d j : Nat) : stk A d % 2 ^ (j + 1) = 2 * (A / 2 ^ d % 2 ^ j) + (if A % 2 ^ d = 0 then 0 else 1) := by
  rw [Nat.pow_succ, Nat.mul_comm, Nat.mod_mul]
  have e : stk A d / 2 = A / 2 ^ d := by unfold stk; split <;> omega
  rw [e]
  unfold stk
  split <;> omega
theorem all_mod (A d j : Nat) : A % 2 ^ (d + j) = A % 2 ^ d + 2 ^ d * (A / 2 ^ d % 2 ^ j) := by rw [Nat.pow_add, Nat.mod_mul]
theorem stk_zero (A d j : Nat) : stk A d % 2 ^ (j + 1) = 0 ↔ A % 2 ^ (d + j) = 0 := by
  have hD : 0 < 2 ^ d := Nat.pow_pos (by omega)
  rw [stk_mod, all_mod]
  generalize A / 2 ^ d % 2 ^ j = r
  constructor
  · intro h
    have h1 : A % 2 ^ d = 0 := by
      by_cases h0 : A % 2 ^ d = 0
      · exact h0
      · rw [if_neg h0] at h; omega
    rw [if_pos h1] at h
    have : r = 0 := by omega
    rw [h1, this]; simp
  · intro h
    have h1 : A % 2 ^ d = 0 := by omega
    rw [if_pos h1]
    have h2 : 2 ^ d * r = 0 := by omega
    rcases Nat.mul_eq_zero.1 h2 with h3 | h3
    · omega
    · rw [h3]
theorem rest_core {r r' D Q s : Nat} (hD : r' < D) (hQ : 0 < Q) (hb : s ≤ 1) (hs : s = 0 ↔ r' = 0) : restC (2 * r + s) (4 * Q) = restC (r' + D * r) (2 * (D * Q)) := by
  have hDr : r ≤ D * r := Nat.le_mul_of_pos_left r (by omega)
  unfold restC
  by_cases h0 : r' + D * r = 0
  · have : r' = 0 := by omega
    have := hs.2 this
    rw [if_pos h0, if_pos (by omega)]
  · have hz : ¬ 2 * r + s = 0 := by
      intro h
      apply h0
      have h1 : r = 0 := by omega
      have h2 := hs.1 (by omega)
      rw [h1, h2]; rfl
    rw [if_neg h0, if_neg hz]
    rcases Nat.lt_trichotomy r Q with h | h | h
    · have h1 : D * r + D ≤ D * Q := by rw [← Nat.mul_succ]; exact Nat.mul_le_mul_left D h
      rw [if_pos (by omega), if_pos (by omega)]
    · subst h
      by_cases hs0 : s = 0
      · have := hs.1 hs0
        rw [if_neg (by omega), if_pos (by omega), if_neg (by omega), if_pos (by omega)]
      · have : r' ≠ 0 := fun h => hs0 (hs.2 h)
        rw [if_neg (by omega), if_neg (by omega), if_neg (by omega), if_neg (by omega)]
    · have h1 : D * Q + D ≤ D * r := by rw [← Nat.mul_succ]; exact Nat.mul_le_mul_left D h
      rw [if_neg (by omega), if_neg (by omega), if_neg (by omega), if_neg (by omega)]
theorem stk_rest (A d j : Nat) : restC (stk A d % 2 ^ (j + 2)) (2 ^ (j + 2)) = restC (A % 2 ^ (d + (j + 1))) (2 ^ (d + (j + 1))) := by
  have hD : 0 < 2 ^ d := Nat.pow_pos (by omega)
  have hQ : 0 < 2 ^ j := Nat.pow_pos (by omega)
  have eP : 2 ^ (j + 1 + 1) = 4 * 2 ^ j := by rw [Nat.pow_succ, Nat.pow_succ]; omega
  have eP2 : 2 ^ (d + (j + 1)) = 2 * (2 ^ d * 2 ^ j) := by rw [Nat.pow_add, Nat.pow_succ, ← Nat.mul_assoc]; omega
  have e1 := stk_mod A d (j + 1)
  have e2 := all_mod A d (j + 1)
  rw [show j + 2 = (j + 1) + 1 by omega, e1, e2, eP, eP2]
  exact rest_core (Nat.mod_lt A hD) hQ (stk_bit A d) (by split <;> omega)
theorem stk_rq (m : Int) (neg : Bool) (A d j : Nat) : rq m neg (stk A d) (j + 2) = rq m neg A (d + (j + 1)) := by
  unfold rq
  rw [stk_rest, show j + 2 = (j + 1) + 1 by omega, stk_div]
theorem stk_toQ (m : Int) (neg : Bool) (A d : Nat) {F e : Int} (h : F + d + 1 ≤ e) : toQ m neg (stk A d) (F + d - 1) e = toQ m neg A F e := by
  obtain ⟨j, hj⟩ : ∃ j : Nat, e = F + d + 1 + j := ⟨(e - (F + d + 1)).toNat, by omega⟩
  unfold toQ
  rw [if_neg (by omega), if_neg (by omega), show (e - (F + d - 1)).toNat = j + 2 by omega, show (e - F).toNat = d + (j + 1) by omega, stk_rq]
theorem stk_toL (A d : Nat) {F e : Int} (h : F + d + 1 ≤ e) : toL (stk A d) (F + d - 1) e = toL A F e := by
  obtain ⟨j, hj⟩ : ∃ j : Nat, e = F + d + 1 + j := ⟨(e - (F + d + 1)).toNat, by omega⟩
  unfold toL
  rw [if_neg (by omega), if_neg (by omega), show (e - (F + d - 1)).toNat = j + 1 + 1 by omega, show (e - F).toNat = d + (j + 1) by omega]
  congr 1
  simp only [ne_eq, eq_iff_iff]
  exact not_congr (stk_zero A d (j + 1))
theorem stk_len {A d : Nat} (h : A / 2 ^ d ≠ 0) : bitLen (stk A d) = bitLen (A / 2 ^ d) + 1 := by
  have e : stk A d / 2 ^ 1 = A / 2 ^ d := by
    have := stk_div A d 0
    simpa using this
  rw [bitLen_shift (stk A d) 1 (by rw [e]; exact h), e]
  omega
theorem stk_lgN {A d : Nat} {F : Int} (h : A / 2 ^ d ≠ 0) : lgN (stk A d) (F + d - 1) = lgN A F := by
  have e := bitLen_shift A d h
  unfold lgN
  rw [stk_len h]
  omega
theorem stk_round {m : Int} {neg : Bool} {A d : Nat} {F : Int} (h : A % 2 ^ d = 0 ∨ 54 ≤ bitLen (A / 2 ^ d)) : rnP m neg (stk A d) (F + d - 1) = rnP m neg A F ∧ rnF m neg (stk A d) (F + d - 1) = rnF m neg A F := by
  by_cases h0 : A % 2 ^ d = 0
  · have e1 : stk A d = A / 2 ^ d * 2 ^ 1 := by unfold stk; rw [if_pos h0]; omega
    have e2 : A = A / 2 ^ d * 2 ^ d := by
      have := Nat.div_add_mod A (2 ^ d)
      rw [h0, Nat.mul_comm] at this
      omega
    have p1 := rnP_scale m neg (A / 2 ^ d) 1 (F + d)
    have p2 := rnP_scale m neg (A / 2 ^ d) d (F + d)
    have f1 := rnF_scale m neg (A / 2 ^ d) 1 (F + d)
    have f2 := rnF_scale m neg (A / 2 ^ d) d (F + d)
    rw [show F + (d : Int) - ((1 : Nat) : Int) = F + d - 1 by omega, ← e1] at p1 f1
    rw [show F + (d : Int) - (d : Int) = F by omega, ← e2] at p2 f2
    exact ⟨by rw [p1, p2], by rw [f1, f2]⟩
  · have hb : 54 ≤ bitLen (A / 2 ^ d) := by exact h.resolve_left h0
    have hq : A / 2 ^ d ≠ 0 := fun h => by rw [h] at hb; simp [bitLen] at hb
    have hA : A ≠ 0 := fun h => h0 (by rw [h]; simp)
    have hs : stk A d ≠ 0 := by unfold stk; omega
    have hl := stk_lgN (F := F) hq
    have hlw : lowE (stk A d) (F + d - 1) = lowE A F := by unfold lowE; rw [hl]
    have hlg : lgN A F = F + d + bitLen (A / 2 ^ d) - 1 := by rw [← hl]; unfold lgN; rw [stk_len hq]; omega
    have hge : F + d + 1 ≤ lowE A F := by unfold lowE; split <;> omega
    have hp : p0 m neg (stk A d) (F + d - 1) = p0 m neg A F := by unfold p0; rw [hlw, stk_toQ m neg A d hge]
    have ht : tiny m neg (stk A d) (F + d - 1) = tiny m neg A F := by
      unfold tiny
      rw [hl]
      by_cases hn : lgN A F = -1023
      · rw [if_pos hn, if_pos hn, stk_toQ m neg A d (by omega)]
      · rw [if_neg hn, if_neg hn]
    unfold rnP rnF
    rw [if_neg hs, if_neg hA, if_neg hs, if_neg hA, hp, hlw, stk_toL A d hge, ht]
    exact ⟨rfl, rfl⟩
theorem dm {A D q r : Nat} (h : A = D * q + r) (hr : r < D) : A / D = q ∧ A % D = r := by
  subst h
  constructor
  · rw [Nat.mul_add_div (by omega), Nat.div_eq_of_lt hr, Nat.add_zero]
  · rw [Nat.mul_add_mod, Nat.mod_eq_of_lt hr]
def bN (b : Bool) : Nat := match b with | true => 1 | false => 0
theorem stk_of {A d q r : Nat} (h : A = 2 ^ d * q + r) (hr : r < 2 ^ d) : 2 * q + bN (decide (r ≠ 0)) = stk A d ∧ A / 2 ^ d = q ∧ A % 2 ^ d = r := by
  obtain ⟨h1, h2⟩ := dm h hr
  refine ⟨?_, h1, h2⟩
  unfold stk
  rw [h1, h2]
  by_cases h0 : r = 0
  · rw [if_pos h0]; simp [bN, h0]
  · rw [if_neg h0]; simp [bN, h0]
/-- a size with a sign -/
def sgI (n : Bool) (A : Nat) : Int := match n with | true => -(A : Int) | false => (A : Int)
/-- the sign of a sum -/
def sgS (m : Int) (nx ny : Bool) (S : Int) : Bool := if S = 0 then (if nx = ny then nx else decide (m = 4)) else decide (S < 0)
def exN (m : Int) (nx ny : Bool) (p q : Nat) : Bool := if nx = ny then nx else if q < p then nx else if p < q then ny else decide (m = 4)
def exQ (nx ny : Bool) (p : Nat) (bx : Bool) (q : Nat) (b : Bool) : Nat := if nx = ny then p + q else if q < p then p - q - bN b else if p < q then q - p - bN bx else 0
def exB (nx ny : Bool) (p : Nat) (bx : Bool) (q : Nat) (b : Bool) : Bool := if nx = ny then bx || b else if q < p then bx || b else if p < q then b || bx else false
/-- what is known of the two: at most one has something below its units, and that one is then far less than the other -/
def Far (p r q s K L : Nat) : Prop := r = 0 ∨ (s = 0 ∧ K ≤ q ∧ p < L)
theorem exLess {K : Nat} (h54 : 2 ^ 53 ≤ K) {d Ax Ay p r q s : Nat} (hx : Ax = 2 ^ d * p + r) (hy : Ay = 2 ^ d * q + s) (hs : s < 2 ^ d) (hr : r = 0) (hlt : q < p) (hK : s = 0 ∨ K + q + 1 ≤ p) :
    Ay < Ax ∧ 2 * (p - q - bN (decide (s ≠ 0))) + bN (decide (s ≠ 0)) = stk (Ax - Ay) d ∧ ((Ax - Ay) % 2 ^ d = 0 ∨ 54 ≤ bitLen ((Ax - Ay) / 2 ^ d)) := by
  have hm : 2 ^ d * q + 2 ^ d ≤ 2 ^ d * p := by rw [← Nat.mul_succ]; exact Nat.mul_le_mul_left _ hlt
  refine ⟨by omega, ?_⟩
  by_cases h0 : s = 0
  · have e : Ax - Ay = 2 ^ d * (p - q) + 0 := by rw [Nat.mul_sub]; omega
    obtain ⟨a, b, c⟩ := stk_of e (Nat.pow_pos (by omega))
    rw [← a]
    refine ⟨?_, .inl c⟩
    simp [h0, bN]
  · have e : Ax - Ay = 2 ^ d * (p - q - 1) + (2 ^ d - s) := by
      rw [Nat.mul_sub, Nat.mul_sub, Nat.mul_one]
      omega
    obtain ⟨a, b, c⟩ := stk_of e (by omega)
    have h1 : decide (2 ^ d - s ≠ 0) = true := decide_eq_true (by omega)
    have h2 : decide (s ≠ 0) = true := decide_eq_true h0
    rw [h1] at a
    rw [← a, h2]
    refine ⟨rfl, .inr ?_⟩
    rw [b]
    exact le_len (k := 53) (by rcases hK with h | h <;> omega)
theorem ex_core {K L : Nat} (hKL : 2 ^ 53 + L + 1 ≤ K) {d Ax Ay p r q s : Nat} (hx : Ax = 2 ^ d * p + r) (hr : r < 2 ^ d) (hy : Ay = 2 ^ d * q + s) (hs : s < 2 ^ d) (h1 : Far p r q s K L) (h2 : Far q s p r K L) (m : Int) (nx ny : Bool) :
    2 * exQ nx ny p (decide (r ≠ 0)) q (decide (s ≠ 0)) + bN (exB nx ny p (decide (r ≠ 0)) q (decide (s ≠ 0))) = stk (sgI nx Ax + sgI ny Ay).natAbs d
    ∧ ((sgI nx Ax + sgI ny Ay).natAbs % 2 ^ d = 0 ∨ 54 ≤ bitLen ((sgI nx Ax + sgI ny Ay).natAbs / 2 ^ d))
    ∧ exN m nx ny p q = sgS m nx ny (sgI nx Ax + sgI ny Ay) := by
  unfold Far at h1 h2
  by_cases hn : nx = ny
  · have ha : (sgI nx Ax + sgI ny Ay).natAbs = Ax + Ay := by subst hn; cases nx <;> simp only [sgI] <;> omega
    have hsg : nx = sgS m nx ny (sgI nx Ax + sgI ny Ay) := by
      unfold sgS
      split
      · rfl
      · rename_i h0
        subst hn
        cases nx <;> simp only [sgI] at * <;> symm
        · exact decide_eq_false (by omega)
        · exact decide_eq_true (by omega)
    rw [ha]
    unfold exQ exB exN
    rw [if_pos hn, if_pos hn, if_pos hn]
    have e : Ax + Ay = 2 ^ d * (p + q) + (r + s) := by rw [Nat.mul_add]; omega
    obtain ⟨a, b, c⟩ := stk_of e (by omega)
    refine ⟨?_, ?_, hsg⟩
    · rw [← a]
      congr 2
      by_cases r0 : r = 0 <;> by_cases s0 : s = 0 <;> simp [r0, s0]
    · rw [b, c]
      by_cases r0 : r = 0
      · by_cases s0 : s = 0
        · left; omega
        · right; exact le_len (k := 53) (by omega)
      · right; exact le_len (k := 53) (by omega)
  · unfold exQ exB exN
    rw [if_neg hn, if_neg hn, if_neg hn]
    have hab : (sgI nx Ax + sgI ny Ay).natAbs = if Ay < Ax then Ax - Ay else Ay - Ax := by
      cases nx <;> cases ny <;> simp only [sgI, not_true_eq_false, reduceCtorEq, not_false_eq_true] at * <;> split <;> omega
    have hz : (sgI nx Ax + sgI ny Ay = 0) ↔ Ax = Ay := by
      cases nx <;> cases ny <;> simp only [sgI, not_true_eq_false, reduceCtorEq, not_false_eq_true] at * <;> omega
    have hneg : Ax ≠ Ay → sgS m nx ny (sgI nx Ax + sgI ny Ay) = if Ay < Ax then nx else ny := fun h => by
      unfold sgS
      rw [if_neg (fun e => h (hz.1 e))]
      cases nx <;> cases ny <;> simp only [sgI, not_true_eq_false, reduceCtorEq, not_false_eq_true] at * <;> split <;> first | exact decide_eq_true (by omega) | exact decide_eq_false (by omega)
    rw [hab]
    rcases Nat.lt_trichotomy p q with h | h | h
    · have s0 : s = 0 := by omega
      obtain ⟨a, b, c⟩ := exLess (K := 2 ^ 53) (Nat.le_refl _) hy hx hr s0 h (by omega)
      rw [if_neg (by omega), if_pos h, if_neg (by omega), if_pos h, if_neg (by omega), if_neg (by omega), if_pos h]
      have e0 : decide (s ≠ 0) = false := decide_eq_false (by omega)
      rw [hneg (by omega), if_neg (by omega), e0, Bool.false_or]
      exact ⟨b, c, rfl⟩
    · subst h
      have r0 : r = 0 := by omega
      have s0 : s = 0 := by omega
      have he : Ax = Ay := by omega
      rw [if_neg (Nat.lt_irrefl _), if_neg (Nat.lt_irrefl _), if_neg (Nat.lt_irrefl _), if_neg (Nat.lt_irrefl _), if_neg (by omega), if_neg (Nat.lt_irrefl _), if_neg (Nat.lt_irrefl _)]
      refine ⟨?_, ?_, ?_⟩
      · rw [he]; simp [stk, bN]
      · left; rw [he]; simp
      · unfold sgS
        rw [if_pos (hz.2 he), if_neg hn]
    · have r0 : r = 0 := by omega
      obtain ⟨a, b, c⟩ := exLess (K := 2 ^ 53) (Nat.le_refl _) hx hy hs r0 h (by omega)
      rw [if_pos h, if_pos h, if_pos h, if_pos a]
      have e0 : decide (r ≠ 0) = false := decide_eq_false (by omega)
      rw [hneg (by omega), if_pos a, e0, Bool.false_or]
      exact ⟨b, c, rfl⟩
/-! ### in units -/
def iuQ (E u : Int) (X : Nat) : Nat := if u ≤ E then X * 2 ^ (E - u).toNat else X / 2 ^ (u - E).toNat
def iuB (E u : Int) (X : Nat) : Bool := if u ≤ E then false else decide (X % 2 ^ (u - E).toNat ≠ 0)
/-- a size, told by a lower power -/
def szF (F E : Int) (X : Nat) : Nat := X * 2 ^ (E - F).toNat
theorem iu_eq {F E u : Int} (h1 : F ≤ u) (h2 : F ≤ E) (X : Nat) : iuQ E u X = szF F E X / 2 ^ (u - F).toNat ∧ iuB E u X = decide (szF F E X % 2 ^ (u - F).toNat ≠ 0) := by
  unfold iuQ iuB szF
  by_cases h : u ≤ E
  · rw [if_pos h, if_pos h]
    have e : X * 2 ^ (E - F).toNat = X * 2 ^ (E - u).toNat * 2 ^ (u - F).toNat := by rw [Nat.mul_assoc, ← Nat.pow_add]; congr 2; omega
    rw [e, Nat.mul_div_cancel _ (Nat.pow_pos (by omega)), Nat.mul_mod_left]
    simp
  · rw [if_neg h, if_neg h]
    have e : (u - F).toNat = (u - E).toNat + (E - F).toNat := by omega
    have hp : 0 < 2 ^ (E - F).toNat := Nat.pow_pos (by omega)
    rw [e, Nat.pow_add, Nat.mul_div_mul_right _ _ hp, Nat.mul_mod_mul_right]
    refine ⟨rfl, ?_⟩
    congr 1
    rw [ne_eq, ne_eq, Nat.mul_eq_zero]
    simp only [eq_iff_iff]
    omega
def topN (E : Int) (X : Nat) : Int := if X = 0 then -100000 else E + (bitLen X : Nat)
def unN (Ex : Int) (X : Nat) (Ey : Int) (Y : Nat) : Int := max (topN Ex X) (topN Ey Y) - 254
theorem un_comm (Ex : Int) (X : Nat) (Ey : Int) (Y : Nat) : unN Ex X Ey Y = unN Ey Y Ex X := by unfold unN; omega
/-- a number that may be added -/
def May (E : Int) (X : Nat) : Prop := X < 2 ^ 128 ∧ -100000 ≤ E ∧ E ≤ 100000
theorem iuQ_lt {Ex Ey : Int} {X Y : Nat} : iuQ Ex (unN Ex X Ey Y) X < 2 ^ 254 := by
  by_cases h0 : X = 0
  · subst h0; unfold iuQ; split <;> simp
  · have hb := (bitLen_spec X).1
    have ht : topN Ex X = Ex + (bitLen X : Nat) := by unfold topN; rw [if_neg h0]
    have hu : Ex + (bitLen X : Nat) - 254 ≤ unN Ex X Ey Y := by unfold unN; omega
    unfold iuQ
    by_cases h : unN Ex X Ey Y ≤ Ex
    · rw [if_pos h]
      have hp : 0 < 2 ^ (Ex - unN Ex X Ey Y).toNat := Nat.pow_pos (by omega)
      have h3 := Nat.mul_lt_mul_of_pos_right hb hp
      rw [← Nat.pow_add] at h3
      exact Nat.lt_of_lt_of_le h3 (Nat.pow_le_pow_right (by omega) (by omega))
    · rw [if_neg h]
      refine Nat.div_lt_of_lt_mul ?_
      rw [← Nat.pow_add]
      exact Nat.lt_of_lt_of_le hb (Nat.pow_le_pow_right (by omega) (by omega))
theorem iu_far {Ex Ey : Int} {X Y : Nat} (hX : May Ex X) (hY : May Ey Y) (h : iuB Ey (unN Ex X Ey Y) Y = true) : iuB Ex (unN Ex X Ey Y) X = false ∧ 2 ^ 253 ≤ iuQ Ex (unN Ex X Ey Y) X ∧ iuQ Ey (unN Ex X Ey Y) Y < 2 ^ 128 := by
  obtain ⟨x1, x2, x3⟩ := hX
  obtain ⟨y1, y2, y3⟩ := hY
  unfold iuB at h
  have hu : ¬ unN Ex X Ey Y ≤ Ey := fun hc => by rw [if_pos hc] at h; cases h
  rw [if_neg hu] at h
  have hY0 : Y ≠ 0 := fun h0 => by rw [h0] at h; simp at h
  have lY : bitLen Y ≤ 128 := len_le y1
  have lX : bitLen X ≤ 128 := len_le x1
  have pY := len_pos hY0
  have tY : topN Ey Y = Ey + (bitLen Y : Nat) := by unfold topN; rw [if_neg hY0]
  have hX0 : X ≠ 0 := fun h0 => by
    apply hu
    unfold unN
    rw [tY]
    unfold topN
    rw [if_pos h0]
    omega
  have tX : topN Ex X = Ex + (bitLen X : Nat) := by unfold topN; rw [if_neg hX0]
  have eu : unN Ex X Ey Y = Ex + (bitLen X : Nat) - 254 := by unfold unN at hu ⊢; omega
  have hle : unN Ex X Ey Y ≤ Ex := by omega
  refine ⟨by unfold iuB; rw [if_pos hle], ?_, ?_⟩
  · unfold iuQ
    rw [if_pos hle]
    have h2 := (bitLen_spec X).2 hX0
    have pX := len_pos hX0
    have h3 := Nat.mul_le_mul_right (2 ^ (Ex - unN Ex X Ey Y).toNat) h2
    rw [← Nat.pow_add] at h3
    exact Nat.le_trans (Nat.pow_le_pow_right (by omega) (by omega)) h3
  · unfold iuQ
    rw [if_neg hu]
    exact Nat.lt_of_le_of_lt (Nat.div_le_self _ _) y1
/-- the sum, exactly: in units of 2^F -/
def smI (F : Int) (nx : Bool) (Ex : Int) (X : Nat) (ny : Bool) (Ey : Int) (Y : Nat) : Int := sgI nx (szF F Ex X) + sgI ny (szF F Ey Y)
def xuQ (nx : Bool) (Ex : Int) (X : Nat) (ny : Bool) (Ey : Int) (Y : Nat) : Nat := exQ nx ny (iuQ Ex (unN Ex X Ey Y) X) (iuB Ex (unN Ex X Ey Y) X) (iuQ Ey (unN Ex X Ey Y) Y) (iuB Ey (unN Ex X Ey Y) Y)
def xuB (nx : Bool) (Ex : Int) (X : Nat) (ny : Bool) (Ey : Int) (Y : Nat) : Bool := exB nx ny (iuQ Ex (unN Ex X Ey Y) X) (iuB Ex (unN Ex X Ey Y) X) (iuQ Ey (unN Ex X Ey Y) Y) (iuB Ey (unN Ex X Ey Y) Y)
def xuN (m : Int) (nx : Bool) (Ex : Int) (X : Nat) (ny : Bool) (Ey : Int) (Y : Nat) : Bool := exN m nx ny (iuQ Ex (unN Ex X Ey Y) X) (iuQ Ey (unN Ex X Ey Y) Y)
theorem xuQ_lt (nx : Bool) (Ex : Int) (X : Nat) (ny : Bool) (Ey : Int) (Y : Nat) : xuQ nx Ex X ny Ey Y < 2 ^ 255 := by
  have h1 := iuQ_lt (Ex := Ex) (Ey := Ey) (X := X) (Y := Y)
  have h2 := iuQ_lt (Ex := Ey) (Ey := Ex) (X := Y) (Y := X)
  rw [un_comm] at h2
  have e : (2 : Nat) ^ 255 = 2 * 2 ^ 254 := by rw [show 255 = 254 + 1 from rfl, Nat.pow_succ, Nat.mul_comm]
  unfold xuQ exQ
  rw [e]
  generalize (2 : Nat) ^ 254 = P at *
  split
  · omega
  · split
    · omega
    · split <;> omega
theorem xu_sum {F Ex Ey : Int} {X Y : Nat} (hX : May Ex X) (hY : May Ey Y) (hF : F ≤ unN Ex X Ey Y) (hx : F ≤ Ex) (hy : F ≤ Ey) (m : Int) (nx ny : Bool) :
    2 * xuQ nx Ex X ny Ey Y + bN (xuB nx Ex X ny Ey Y) = stk (smI F nx Ex X ny Ey Y).natAbs (unN Ex X Ey Y - F).toNat
    ∧ ((smI F nx Ex X ny Ey Y).natAbs % 2 ^ (unN Ex X Ey Y - F).toNat = 0 ∨ 54 ≤ bitLen ((smI F nx Ex X ny Ey Y).natAbs / 2 ^ (unN Ex X Ey Y - F).toNat))
    ∧ xuN m nx Ex X ny Ey Y = sgS m nx ny (smI F nx Ex X ny Ey Y) := by
  have fx := iu_far hY hX (Ex := Ey) (Ey := Ex) (X := Y) (Y := X)
  have fy := iu_far hX hY (Ex := Ex) (Ey := Ey) (X := X) (Y := Y)
  rw [un_comm Ey Y Ex X] at fx
  obtain ⟨ax, bx⟩ := iu_eq hF hx X
  obtain ⟨ay, by'⟩ := iu_eq hF hy Y
  unfold xuQ xuB xuN smI
  rw [ax, ay, bx, by'] at fx fy
  rw [ax, ay, bx, by']
  have hD : 0 < 2 ^ (unN Ex X Ey Y - F).toNat := Nat.pow_pos (by omega)
  refine ex_core (K := 2 ^ 253) (L := 2 ^ 128) (by decide) (Nat.div_add_mod _ _).symm (Nat.mod_lt _ hD) (Nat.div_add_mod _ _).symm (Nat.mod_lt _ hD) ?_ ?_ m nx ny
  · by_cases h0 : szF F Ex X % 2 ^ (unN Ex X Ey Y - F).toNat = 0
    · exact .inl h0
    · obtain ⟨p1, p2, p3⟩ := fx (decide_eq_true h0)
      exact .inr ⟨by simpa using p1, p2, p3⟩
  · by_cases h0 : szF F Ey Y % 2 ^ (unN Ex X Ey Y - F).toNat = 0
    · exact .inl h0
    · obtain ⟨p1, p2, p3⟩ := fy (decide_eq_true h0)
      exact .inr ⟨by simpa using p1, p2, p3⟩
end Go.Rn
namespace Go.Proofs.YtjkgnbdeklploaaGreat
open Go.KRun Go.Wd Go.Pt Go.Rn
set_option maxRecDepth 100000
def conWs : Con := alt 77 (g1n (plain1n shlV4)) (alt 78 (g1n (plain1n shrV4)) (alt 76 (g1 lenV4) (alt 79 (g2 (plain2 addV4)) (alt 80 (g2 (plain2 subV4)) (alt 55 (g2 cmpN) conN)))))
theorem conWs_ok : ConOk conWs := alt_ok Tryz.func77 rfl (plain1n_ok shl_calls) (alt_ok Tryz.func78 rfl (plain1n_ok shr_calls) (alt_ok Tryz.func76 rfl (g1_ok wlen_calls) (alt_ok Tryz.func79 rfl (plain2_ok add_calls) (alt_ok Tryz.func80 rfl (plain2_ok sub_calls) (alt_ok Tryz.func55 rfl cmpN_ok conN_ok)))))
/-! ### fits -/
def lL (x : W4) (d : Bool) : Bool × Bool := (decide (lenI x ≤ 128), d)
def lO (x : W4) : Bool × Bool := (decide x.ok, true)
theorem ft1 (n b : Bool) (x : W4) (ex : Int) : Fits (reckon (tabOf Tryz.prog extY conWs true) 300 51 [vN n ex x b] [cmp false]) (.bool false) [lL x false, lO x] := ⟨by kernel_rfl, by kernel_rfl, by kernel_rfl, by kernel_rfl⟩
theorem ft2 (n : Bool) (x : W4) (ex : Int) : Fits (reckon (tabOf Tryz.prog extY conWs true) 300 51 [vN n ex x true] [cmp true]) (.bool false) [lL x true, lO x] := ⟨by kernel_rfl, by kernel_rfl, by kernel_rfl, by kernel_rfl⟩
theorem ft3 (n : Bool) (x : W4) (ex : Int) : Fits (reckon (tabOf Tryz.prog extY conWs true) 300 51 [vN n ex x false] [cmp true, cmp false]) (.bool false) [(decide (-100000 ≤ ex), false), lL x true, lO x] := ⟨by kernel_rfl, by kernel_rfl, by kernel_rfl, by kernel_rfl⟩
theorem ft4 (n : Bool) (x : W4) (ex : Int) : Fits (reckon (tabOf Tryz.prog extY conWs true) 300 51 [vN n ex x false] [cmp true, cmp true]) (.bool (decide (ex ≤ 100000))) [(decide (-100000 ≤ ex), true), lL x true, lO x] := ⟨by kernel_rfl, by kernel_rfl, by kernel_rfl, by kernel_rfl⟩
def mayB (ex : Int) (x : W4) (b : Bool) : Bool := decide (lenI x ≤ 128) && !b && decide (-100000 ≤ ex) && decide (ex ≤ 100000)
theorem fits5_calls (n b : Bool) (x : W4) (ex : Int) (hx : x.ok) (w : World) : Calls Tryz.prog 51 #[vN n ex x b] w fun r w' => r = .returned (.bool (mayB ex x b)) ∧ Tidy w w' := by
  have hv : ([vN n ex x b].all (lt 0)) = true := rfl
  have kx : decide x.ok = true := decide_eq_true hx
  unfold mayB
  by_cases hl : lenI x ≤ 128
  · have kl : decide (lenI x ≤ 128) = true := decide_eq_true hl
    rw [kl]
    cases b with
    | true => exact fits_calls (tabY_ok conWs_ok) (ft2 n x ex) (okCons kl (okL1 kx)) hv (by rfl) w
    | false =>
      by_cases he : -100000 ≤ ex
      · have ke : decide (-100000 ≤ ex) = true := decide_eq_true he
        rw [ke]
        exact fits_calls (tabY_ok conWs_ok) (ft4 n x ex) (okCons ke (okCons kl (okL1 kx))) hv (by rfl) w
      · have ke : decide (-100000 ≤ ex) = false := decide_eq_false he
        rw [ke]
        exact fits_calls (tabY_ok conWs_ok) (ft3 n x ex) (okCons ke (okCons kl (okL1 kx))) hv (by rfl) w
  · have kl : decide (lenI x ≤ 128) = false := decide_eq_false hl
    rw [kl]
    exact fits_calls (tabY_ok conWs_ok) (ft1 n b x ex) (okCons kl (okL1 kx)) hv (by rfl) w
def gFt : Ans := fun vals s =>
  match vals with
  | [v] =>
    match n7 v with
    | some (_, ex, x, b) => some (.bool (pickC (mayB ex x b) s).1, (pickC (mayB ex x b) s).2.1, (pickC (mayB ex x b) s).2.2 ++ [(decide x.ok, true)])
    | none => none
  | _ => none
theorem gFt_ok : AnsOk 51 gFt := by
  intro vals s v s' lg h hl w
  unfold gFt at h
  split at h
  · split at h
    · rename_i n ex x b hn
      cases h
      rw [n7_spec hn, pickC_ok (fun p hp => hl p (List.mem_append_left _ hp))]
      exact fits5_calls n b x ex (of_decide_eq_true (hl _ (List.mem_append_right _ (List.mem_singleton.2 rfl)))) w
    · cases h
  · cases h
/-! ### top -/
theorem tp1 (n b : Bool) (x : W4) (ex : Int) : Fits (reckon (tabOf Tryz.prog extY conWs true) 300 52 [vN n ex x b] [sam true]) (.int .i64 (-100000)) [(eqW x ⟨0, 0, 0, 0⟩, true)] := ⟨by kernel_rfl, by kernel_rfl, by kernel_rfl, by kernel_rfl⟩
theorem tp2 (n b : Bool) (x : W4) (ex : Int) : Fits (reckon (tabOf Tryz.prog extY conWs true) 300 52 [vN n ex x b] [sam false]) (.int .i64 (IntKind.i64.wrap (ex + lenI x))) [lO x, (eqW x ⟨0, 0, 0, 0⟩, false)] := ⟨by kernel_rfl, by kernel_rfl, by kernel_rfl, by kernel_rfl⟩
def okTp (x : W4) (ex : Int) : Bool := decide (x.ok ∧ -200000 ≤ ex ∧ ex ≤ 200000)
theorem nat_zero {x : W4} (h : x.ok) : x.nat = 0 ↔ eqW x ⟨0, 0, 0, 0⟩ = true := by
  rw [eqW_iff]
  constructor
  · intro h0; rw [← ofN_self h, h0, ofN_zero]
  · intro h0; rw [h0]; rfl
theorem top_calls (n b : Bool) (x : W4) (ex : Int) (h : x.ok ∧ -200000 ≤ ex ∧ ex ≤ 200000) (w : World) : Calls Tryz.prog 52 #[vN n ex x b] w fun r w' => r = .returned (.int .i64 (topN ex x.nat)) ∧ Tidy w w' := by
  have hv : ([vN n ex x b].all (lt 0)) = true := rfl
  unfold topN
  cases he : eqW x ⟨0, 0, 0, 0⟩ with
  | true =>
    rw [if_pos ((nat_zero h.1).2 he)]
    exact fits_calls (tabY_ok conWs_ok) (tp1 n b x ex) (okL1 he) hv (by rfl) w
  | false =>
    have hz : ¬ x.nat = 0 := fun h0 => by rw [(nat_zero h.1).1 h0] at he; cases he
    have hl := len256 h.1
    have e : IntKind.i64.wrap (ex + lenI x) = ex + (bitLen x.nat : Nat) := by rw [lenI_nat, wrapI' ⟨by omega, by omega⟩]
    rw [if_neg hz, ← e]
    exact fits_calls (tabY_ok conWs_ok) (tp2 n b x ex) (okCons (decide_eq_true h.1) (okL1 he)) hv (by rfl) w
def gTp : Ans := fun vals s =>
  match vals with
  | [v] =>
    match n7 v with
    | some (_, ex, x, _) => some (.int .i64 (topN ex x.nat), s, [(okTp x ex, true)])
    | none => none
  | _ => none
theorem gTp_ok : AnsOk 52 gTp := by
  intro vals s v s' lg h hl w
  unfold gTp at h
  split at h
  · split at h
    · rename_i n ex x b hn
      cases h
      rw [n7_spec hn]
      exact top_calls n b x ex (of_decide_eq_true (hl _ (List.mem_singleton.2 rfl))) w
    · cases h
  · cases h
/-! ### inUnits -/
def lW' (x : W4) (n : Int) : Bool × Bool := (decide (x.ok ∧ -9223372036854775808 ≤ n ∧ n ≤ 9223372036854775807), true)
theorem iu1 (n b : Bool) (x : W4) (ex u : Int) : Fits (reckon (tabOf Tryz.prog extY conWs true) 300 53 [vN n ex x b, .int .i64 u] [cmp true]) (vN n u (shlW x (IntKind.i64.wrap (ex - u))) false) [lW' x (IntKind.i64.wrap (ex - u)), (decide (ex ≥ u), true)] := ⟨by kernel_rfl, by kernel_rfl, by kernel_rfl, by kernel_rfl⟩
theorem iu2 (n b : Bool) (x : W4) (ex u : Int) : Fits (reckon (tabOf Tryz.prog extY conWs true) 300 53 [vN n ex x b, .int .i64 u] [cmp false]) (vN n u (shrW x (IntKind.i64.wrap (u - ex))) (shrL x (IntKind.i64.wrap (u - ex)))) [lW' x (IntKind.i64.wrap (u - ex)), (decide (ex ≥ u), false)] := ⟨by kernel_rfl, by kernel_rfl, by kernel_rfl, by kernel_rfl⟩
def okIu (x : W4) (ex u : Int) : Bool := decide (x.ok ∧ -200000 ≤ ex ∧ ex ≤ 200000 ∧ -400000 ≤ u ∧ u ≤ 400000)
theorem iu_calls (n b : Bool) (x : W4) (ex u : Int) (h : x.ok ∧ -200000 ≤ ex ∧ ex ≤ 200000 ∧ -400000 ≤ u ∧ u ≤ 400000) (w : World) : Calls Tryz.prog 53 #[vN n ex x b, .int .i64 u] w fun r w' => r = .returned (vN n u (ofN (iuQ ex u x.nat)) (iuB ex u x.nat)) ∧ Tidy w w' := by
  have hv : ([vN n ex x b, .int .i64 u].all (lt 0)) = true := rfl
  unfold iuQ iuB
  by_cases hu : u ≤ ex
  · rw [if_pos hu, if_pos hu]
    have e : IntKind.i64.wrap (ex - u) = ex - u := wrapI' ⟨by omega, by omega⟩
    have hf := iu1 n b x ex u
    rw [e, shlW_nat h.1 (by omega)] at hf
    exact fits_calls (tabY_ok conWs_ok) hf (okCons (lok_ok h.1 (by omega) (by omega)) (okL1 (decide_eq_true hu))) hv (by rfl) w
  · rw [if_neg hu, if_neg hu]
    have e : IntKind.i64.wrap (u - ex) = u - ex := wrapI' ⟨by omega, by omega⟩
    have hf := iu2 n b x ex u
    rw [e, shrW_nat h.1 (by omega), shrL_nat h.1 (by omega)] at hf
    exact fits_calls (tabY_ok conWs_ok) hf (okCons (lok_ok h.1 (by omega) (by omega)) (okL1 (decide_eq_false hu))) hv (by rfl) w
def gIu : Ans := fun vals s =>
  match vals with
  | [v, .int .i64 u] =>
    match n7 v with
    | some (n, ex, x, _) => some (vN n u (ofN (iuQ ex u x.nat)) (iuB ex u x.nat), s, [(okIu x ex u, true)])
    | none => none
  | _ => none
theorem gIu_ok : AnsOk 53 gIu := by
  intro vals s v s' lg h hl w
  unfold gIu at h
  split at h
  · split at h
    · rename_i n ex x b hn
      cases h
      rw [n7_spec hn]
      exact iu_calls n b x ex _ (of_decide_eq_true (hl _ (List.mem_singleton.2 rfl))) w
    · cases h
  · cases h
/-! ### together -/
def lTwo (x y : W4) : Bool × Bool := (decide (x.ok ∧ y.ok), true)
theorem tg (n p a b : Bool) (x y : W4) (ex u : Int) : Fits (reckon (tabOf Tryz.prog extY conWs true) 300 54 [vN n ex x a, vN p u y b] []) (vN n ex (W4.of (x.val + y.val)) (a || b)) [lTwo x y] := by
  cases a <;> exact ⟨by kernel_rfl, by kernel_rfl, by kernel_rfl, by kernel_rfl⟩
theorem add_nat {x y : W4} (hx : x.ok) (hy : y.ok) : W4.of (x.val + y.val) = ofN (x.nat + y.nat) := by
  unfold ofN
  rw [W4.nat_val hx, W4.nat_val hy]
  congr 1
theorem sub_nat {x y : W4} (hx : x.ok) (hy : y.ok) (h : y.nat ≤ x.nat) : W4.of (x.val - y.val) = ofN (x.nat - y.nat) := by
  unfold ofN
  rw [W4.nat_val hx, W4.nat_val hy]
  congr 1
  omega
def gTg : Ans := fun vals s =>
  match vals with
  | [v, t] =>
    match n7 v with
    | some (n, ex, x, a) =>
      match n7 t with
      | some (_, _, y, b) => some (vN n ex (ofN (x.nat + y.nat)) (a || b), s, [(decide (x.ok ∧ y.ok), true)])
      | none => none
    | none => none
  | _ => none
theorem gTg_ok : AnsOk 54 gTg := by
  intro vals s v s' lg h hl w
  unfold gTg at h
  split at h
  · split at h
    · rename_i n ex x a hn
      split at h
      · rename_i p u y b hp
        cases h
        rw [n7_spec hn, n7_spec hp]
        obtain ⟨hx, hy⟩ := of_decide_eq_true (hl _ (List.mem_singleton.2 rfl))
        rw [← add_nat hx hy]
        exact fits_calls (tabY_ok conWs_ok) (tg n p a b x y ex u) (okL1 (decide_eq_true ⟨hx, hy⟩)) (by rfl) (by rfl) w
      · cases h
    · cases h
  · cases h
/-! ### apart -/
theorem ap1 (n p a : Bool) (x y : W4) (ex u : Int) : Fits (reckon (tabOf Tryz.prog extY conWs true) 300 56 [vN n ex x a, vN p u y false] []) (vN n ex (W4.of (x.val - y.val)) a) [lTwo x y] := ⟨by kernel_rfl, by kernel_rfl, by kernel_rfl, by kernel_rfl⟩
def sb4 (x y : W4) : W4 := ⟨(W4.of (x.val - y.val)).a, (W4.of (x.val - y.val)).b, (W4.of (x.val - y.val)).c, (W4.of (x.val - y.val)).d⟩
theorem sb4_eq (x y : W4) : sb4 x y = W4.of (x.val - y.val) := rfl
/-- where the region that draws its order ends -/
def apE (n p a : Bool) (x y : W4) (ex u : Int) : Lf := ([.agg { toList := [.bool n, .int .i64 ex, .int .u64 x.a, .int .u64 x.b, .int .u64 x.c, .int .u64 x.d, .bool a] }, .agg { toList := [.bool p, .int .i64 u, .int .u64 y.a, .int .u64 y.b, .int .u64 y.c, .int .u64 y.d, .bool true] }, .pointer (some { block := 0, off := 0 }), .pointer (some { block := 1, off := 0 }), .pointer (some { block := 2, off := 0 }), .tuple { toList := [.agg { toList := [.int .u64 (W4.of (x.val - y.val)).a, .int .u64 (W4.of (x.val - y.val)).b, .int .u64 (W4.of (x.val - y.val)).c, .int .u64 (W4.of (x.val - y.val)).d] }, .bool (decide (x.val < y.val))] }, .pointer (some { block := 0, off := 2 }), .agg { toList := [.int .u64 x.a, .int .u64 x.b, .int .u64 x.c, .int .u64 x.d] }, .pointer (some { block := 1, off := 2 }), .agg { toList := [.int .u64 y.a, .int .u64 y.b, .int .u64 y.c, .int .u64 y.d] }, .tuple { toList := [.agg { toList := [.int .u64 (W4.of (x.val - y.val)).a, .int .u64 (W4.of (x.val - y.val)).b, .int .u64 (W4.of (x.val - y.val)).c, .int .u64 (W4.of (x.val - y.val)).d] }, .bool (decide (x.val < y.val))] }, .agg { toList := [.int .u64 (W4.of (x.val - y.val)).a, .int .u64 (W4.of (x.val - y.val)).b, .int .u64 (W4.of (x.val - y.val)).c, .int .u64 (W4.of (x.val - y.val)).d] }, .bool (decide (x.val < y.val)), .pointer (some { block := 0, off := 2 }), .pointer (some { block := 1, off := 6 }), .bool true, .tuple { toList := [.agg { toList := [.int .u64 (W4.of ((sb4 x y).val - w1.val)).a, .int .u64 (W4.of ((sb4 x y).val - w1.val)).b, .int .u64 (W4.of ((sb4 x y).val - w1.val)).c, .int .u64 (W4.of ((sb4 x y).val - w1.val)).d] }, .bool (decide ((sb4 x y).val < w1.val))] }, .pointer (some { block := 0, off := 2 }), .agg { toList := [.int .u64 (W4.of (x.val - y.val)).a, .int .u64 (W4.of (x.val - y.val)).b, .int .u64 (W4.of (x.val - y.val)).c, .int .u64 (W4.of (x.val - y.val)).d] }, .agg { toList := [.int .u64 1, .int .u64 0, .int .u64 0, .int .u64 0] }, .tuple { toList := [.agg { toList := [.int .u64 (W4.of ((sb4 x y).val - w1.val)).a, .int .u64 (W4.of ((sb4 x y).val - w1.val)).b, .int .u64 (W4.of ((sb4 x y).val - w1.val)).c, .int .u64 (W4.of ((sb4 x y).val - w1.val)).d] }, .bool (decide ((sb4 x y).val < w1.val))] }, .agg { toList := [.int .u64 (W4.of ((sb4 x y).val - w1.val)).a, .int .u64 (W4.of ((sb4 x y).val - w1.val)).b, .int .u64 (W4.of ((sb4 x y).val - w1.val)).c, .int .u64 (W4.of ((sb4 x y).val - w1.val)).d] }, .bool (decide ((sb4 x y).val < w1.val)), .pointer (some { block := 0, off := 2 }), .tuple { toList := [] }, .tuple { toList := [] }], { n := 3, l := [([.bool false, .int .i64 0, .int .u64 0, .int .u64 0, .int .u64 0, .int .u64 0, .bool false], 75), ([.bool p, .int .i64 u, .int .u64 y.a, .int .u64 y.b, .int .u64 y.c, .int .u64 y.d, .bool true], 75), ([.bool n, .int .i64 ex, .int .u64 (W4.of ((sb4 x y).val - w1.val)).a, .int .u64 (W4.of ((sb4 x y).val - w1.val)).b, .int .u64 (W4.of ((sb4 x y).val - w1.val)).c, .int .u64 (W4.of ((sb4 x y).val - w1.val)).d, .bool a], 75)] }, [])
theorem ap2 (n p a : Bool) (x y : W4) (ex u : Int) : Fits (reckon (tabOf Tryz.prog extY conWs true) 300 56 [vN n ex x a, vN p u y true] []) (vN n ex (W4.of ((sb4 x y).val - w1.val)) true) [lTwo (sb4 x y) w1, lTwo (sb4 x y) w1, lTwo x y] :=
  ⟨by kernel_rfl, by kernel_rfl, Eq.trans (b := some [apE n p a x y ex u]) (by kernel_rfl) (by kernel_rfl), by kernel_rfl⟩
def apQ (p q : Nat) (b : Bool) : Nat := p - q - bN b
def gAp : Ans := fun vals s =>
  match vals with
  | [v, t] =>
    match n7 v with
    | some (n, ex, x, a) =>
      match n7 t with
      | some (_, _, y, b) => some (vN n ex (ofN (apQ x.nat y.nat b)) (a || b), s, [(decide (x.ok ∧ y.ok ∧ y.nat < x.nat), true)])
      | none => none
    | none => none
  | _ => none
theorem gAp_ok : AnsOk 56 gAp := by
  intro vals s v s' lg h hl w
  unfold gAp at h
  split at h
  · split at h
    · rename_i n ex x a hn
      split at h
      · rename_i p u y b hp
        cases h
        rw [n7_spec hn, n7_spec hp]
        obtain ⟨hx, hy, hlt⟩ := of_decide_eq_true (hl _ (List.mem_singleton.2 rfl))
        have hxl := W4.nat_lt hx
        have hw : w1.ok := by decide
        have h1 : w1.nat = 1 := by decide
        have e1 := sub_nat hx hy (by omega)
        have e2 : (ofN (x.nat - y.nat)).nat = x.nat - y.nat := ofN_nat (by omega)
        cases b with
        | false =>
          have e : ofN (apQ x.nat y.nat false) = W4.of (x.val - y.val) := by rw [e1]; rfl
          rw [e, Bool.or_false]
          exact fits_calls (tabY_ok conWs_ok) (ap1 n p a x y ex u) (okL1 (decide_eq_true ⟨hx, hy⟩)) (by rfl) (by rfl) w
        | true =>
          have e : ofN (apQ x.nat y.nat true) = W4.of ((sb4 x y).val - w1.val) := by
            rw [sb4_eq, e1, sub_nat (ofN_ok _) hw (by omega), e2, h1]
            rfl
          rw [e, Bool.or_true]
          exact fits_calls (tabY_ok conWs_ok) (ap2 n p a x y ex u) (okCons (decide_eq_true ⟨by rw [sb4_eq]; exact W4.ok_of _, hw⟩) (okCons (decide_eq_true ⟨by rw [sb4_eq]; exact W4.ok_of _, hw⟩) (okL1 (decide_eq_true ⟨hx, hy⟩)))) (by rfl) (by rfl) w
      · cases h
    · cases h
  · cases h
def conSu : Con := alt 51 gFt (alt 52 gTp (alt 53 gIu (alt 54 gTg (alt 56 gAp conWs))))
theorem conSu_ok : ConOk conSu := alt_ok Tryz.func51 rfl gFt_ok (alt_ok Tryz.func52 rfl gTp_ok (alt_ok Tryz.func53 rfl gIu_ok (alt_ok Tryz.func54 rfl gTg_ok (alt_ok Tryz.func56 rfl gAp_ok conWs_ok))))
def uE (Ex : Int) (X : W4) (Ey : Int) (Y : W4) : Int := IntKind.i64.wrap ((if topN Ey Y.nat > topN Ex X.nat then topN Ey Y.nat else topN Ex X.nat) - 254)
def eX (Ex : Int) (X : W4) (Ey : Int) (Y : W4) : W4 := ofN (iuQ Ex (uE Ex X Ey Y) X.nat)
def eY (Ex : Int) (X : W4) (Ey : Int) (Y : W4) : W4 := ofN (iuQ Ey (uE Ex X Ey Y) Y.nat)
def xbX (Ex : Int) (X : W4) (Ey : Int) (Y : W4) : Bool := iuB Ex (uE Ex X Ey Y) X.nat
def xbY (Ex : Int) (X : W4) (Ey : Int) (Y : W4) : Bool := iuB Ey (uE Ex X Ey Y) Y.nat
def lIu (X : W4) (Ex u : Int) : Bool × Bool := (okIu X Ex u, true)
def lEx (X Y : W4) (Ex Ey : Int) : Log := [lIu Y Ey (uE Ex X Ey Y), lIu X Ex (uE Ex X Ey Y), lIu Y Ey (uE Ex X Ey Y), lIu Y Ey (uE Ex X Ey Y), lIu X Ex (uE Ex X Ey Y), lIu Y Ey (uE Ex X Ey Y), lIu X Ex (uE Ex X Ey Y), lIu Y Ey (uE Ex X Ey Y), lIu Y Ey (uE Ex X Ey Y), lIu X Ex (uE Ex X Ey Y), lIu Y Ey (uE Ex X Ey Y), lIu Y Ey (uE Ex X Ey Y), lIu Y Ey (uE Ex X Ey Y), lIu Y Ey (uE Ex X Ey Y), lIu Y Ey (uE Ex X Ey Y), lIu X Ex (uE Ex X Ey Y), (okTp Y Ey, true), (okTp X Ex, true), (mayB Ey Y false, true), (decide Y.ok, true), (mayB Ex X false, true), (decide X.ok, true)]
theorem ex_sff (X Y : W4) (Ex Ey m : Int) : Fits (reckon (tabOf Tryz.prog extY conSu true) 300 39 [vN false Ex X false, vN false Ey Y false, .int .i64 m] [cmp true, cmp true]) (.tuple #[vN false (uE Ex X Ey Y) (ofN ((eX Ex X Ey Y).nat + (eY Ex X Ey Y).nat)) ((xbX Ex X Ey Y) || (xbY Ex X Ey Y)), .nilIface]) ((decide ((eX Ex X Ey Y).ok ∧ (eY Ex X Ey Y).ok), true) :: lEx X Y Ex Ey) := ⟨by kernel_rfl, by kernel_rfl, by kernel_rfl, by kernel_rfl⟩
theorem ex_gft (X Y : W4) (Ex Ey m : Int) : Fits (reckon (tabOf Tryz.prog extY conSu true) 300 39 [vN false Ex X false, vN true Ey Y false, .int .i64 m] [cmp true, cmp true, num 1]) (.tuple #[vN false (uE Ex X Ey Y) (ofN (apQ (eX Ex X Ey Y).nat (eY Ex X Ey Y).nat (xbY Ex X Ey Y))) ((xbX Ex X Ey Y) || (xbY Ex X Ey Y)), .nilIface]) ((decide ((eX Ex X Ey Y).ok ∧ (eY Ex X Ey Y).ok ∧ (eY Ex X Ey Y).nat < (eX Ex X Ey Y).nat), true) :: (decide ((eX Ex X Ey Y).ok ∧ (eY Ex X Ey Y).ok), true) :: (decide (cmpI (eX Ex X Ey Y) (eY Ex X Ey Y) = 1), true) :: lEx X Y Ex Ey) := ⟨by kernel_rfl, by kernel_rfl, by kernel_rfl, by kernel_rfl⟩
theorem ex_lft (X Y : W4) (Ex Ey m : Int) : Fits (reckon (tabOf Tryz.prog extY conSu true) 300 39 [vN false Ex X false, vN true Ey Y false, .int .i64 m] [cmp true, cmp true, num (-1)]) (.tuple #[vN true (uE Ex X Ey Y) (ofN (apQ (eY Ex X Ey Y).nat (eX Ex X Ey Y).nat (xbX Ex X Ey Y))) ((xbY Ex X Ey Y) || (xbX Ex X Ey Y)), .nilIface]) ((decide ((eY Ex X Ey Y).ok ∧ (eX Ex X Ey Y).ok ∧ (eX Ex X Ey Y).nat < (eY Ex X Ey Y).nat), true) :: (decide ((eX Ex X Ey Y).ok ∧ (eY Ex X Ey Y).ok), true) :: (decide (cmpI (eX Ex X Ey Y) (eY Ex X Ey Y) = -1), true) :: lEx X Y Ex Ey) := ⟨by kernel_rfl, by kernel_rfl, by kernel_rfl, by kernel_rfl⟩
theorem ex_zft (X Y : W4) (Ex Ey m : Int) : Fits (reckon (tabOf Tryz.prog extY conSu true) 300 39 [vN false Ex X false, vN true Ey Y false, .int .i64 m] [cmp true, cmp true, num 0]) (.tuple #[vN (m == 4) (uE Ex X Ey Y) ⟨0, 0, 0, 0⟩ false, .nilIface]) ((decide ((eX Ex X Ey Y).ok ∧ (eY Ex X Ey Y).ok), true) :: (decide (cmpI (eX Ex X Ey Y) (eY Ex X Ey Y) = 0), true) :: lEx X Y Ex Ey) := ⟨by kernel_rfl, by kernel_rfl, by kernel_rfl, by kernel_rfl⟩
theorem ex_gtf (X Y : W4) (Ex Ey m : Int) : Fits (reckon (tabOf Tryz.prog extY conSu true) 300 39 [vN true Ex X false, vN false Ey Y false, .int .i64 m] [cmp true, cmp true, num 1]) (.tuple #[vN true (uE Ex X Ey Y) (ofN (apQ (eX Ex X Ey Y).nat (eY Ex X Ey Y).nat (xbY Ex X Ey Y))) ((xbX Ex X Ey Y) || (xbY Ex X Ey Y)), .nilIface]) ((decide ((eX Ex X Ey Y).ok ∧ (eY Ex X Ey Y).ok ∧ (eY Ex X Ey Y).nat < (eX Ex X Ey Y).nat), true) :: (decide ((eX Ex X Ey Y).ok ∧ (eY Ex X Ey Y).ok), true) :: (decide (cmpI (eX Ex X Ey Y) (eY Ex X Ey Y) = 1), true) :: lEx X Y Ex Ey) := ⟨by kernel_rfl, by kernel_rfl, by kernel_rfl, by kernel_rfl⟩
theorem ex_ltf (X Y : W4) (Ex Ey m : Int) : Fits (reckon (tabOf Tryz.prog extY conSu true) 300 39 [vN true Ex X false, vN false Ey Y false, .int .i64 m] [cmp true, cmp true, num (-1)]) (.tuple #[vN false (uE Ex X Ey Y) (ofN (apQ (eY Ex X Ey Y).nat (eX Ex X Ey Y).nat (xbX Ex X Ey Y))) ((xbY Ex X Ey Y) || (xbX Ex X Ey Y)), .nilIface]) ((decide ((eY Ex X Ey Y).ok ∧ (eX Ex X Ey Y).ok ∧ (eX Ex X Ey Y).nat < (eY Ex X Ey Y).nat), true) :: (decide ((eX Ex X Ey Y).ok ∧ (eY Ex X Ey Y).ok), true) :: (decide (cmpI (eX Ex X Ey Y) (eY Ex X Ey Y) = -1), true) :: lEx X Y Ex Ey) := ⟨by kernel_rfl, by kernel_rfl, by kernel_rfl, by kernel_rfl⟩
theorem ex_ztf (X Y : W4) (Ex Ey m : Int) : Fits (reckon (tabOf Tryz.prog extY conSu true) 300 39 [vN true Ex X false, vN false Ey Y false, .int .i64 m] [cmp true, cmp true, num 0]) (.tuple #[vN (m == 4) (uE Ex X Ey Y) ⟨0, 0, 0, 0⟩ false, .nilIface]) ((decide ((eX Ex X Ey Y).ok ∧ (eY Ex X Ey Y).ok), true) :: (decide (cmpI (eX Ex X Ey Y) (eY Ex X Ey Y) = 0), true) :: lEx X Y Ex Ey) := ⟨by kernel_rfl, by kernel_rfl, by kernel_rfl, by kernel_rfl⟩
theorem ex_stt (X Y : W4) (Ex Ey m : Int) : Fits (reckon (tabOf Tryz.prog extY conSu true) 300 39 [vN true Ex X false, vN true Ey Y false, .int .i64 m] [cmp true, cmp true]) (.tuple #[vN true (uE Ex X Ey Y) (ofN ((eX Ex X Ey Y).nat + (eY Ex X Ey Y).nat)) ((xbX Ex X Ey Y) || (xbY Ex X Ey Y)), .nilIface]) ((decide ((eX Ex X Ey Y).ok ∧ (eY Ex X Ey Y).ok), true) :: lEx X Y Ex Ey) := ⟨by kernel_rfl, by kernel_rfl, by kernel_rfl, by kernel_rfl⟩
/-! ### its numbers -/
theorem may_iff {E : Int} {X : W4} (_h : X.ok) : mayB E X false = true ↔ May E X.nat := by
  have hl : lenI X ≤ 128 ↔ X.nat < 2 ^ 128 := by
    rw [lenI_nat]
    constructor
    · intro h1
      exact Nat.lt_of_lt_of_le (bitLen_spec X.nat).1 (Nat.pow_le_pow_right (by omega) (by omega))
    · intro h1
      have := len_le h1
      omega
  unfold mayB May
  simp only [Bool.and_eq_true, decide_eq_true_eq, Bool.not_false, and_true, hl]
  exact ⟨fun ⟨⟨a, b⟩, c⟩ => ⟨a, b, c⟩, fun ⟨a, b, c⟩ => ⟨⟨a, b⟩, c⟩⟩
theorem top_bd {E : Int} {X : Nat} (h : May E X) : -100000 ≤ topN E X ∧ topN E X ≤ 100128 := by
  obtain ⟨a, b, c⟩ := h
  have := len_le a
  unfold topN
  split <;> omega
theorem un_bd {Ex Ey : Int} {X Y : Nat} (hX : May Ex X) (hY : May Ey Y) : -100254 ≤ unN Ex X Ey Y ∧ unN Ex X Ey Y ≤ 100128 := by
  have h1 := top_bd hX
  have h2 := top_bd hY
  unfold unN
  omega
theorem uE_eq {Ex Ey : Int} {X Y : W4} (hX : May Ex X.nat) (hY : May Ey Y.nat) : uE Ex X Ey Y = unN Ex X.nat Ey Y.nat := by
  have h1 := top_bd hX
  have h2 := top_bd hY
  have e : (if topN Ey Y.nat > topN Ex X.nat then topN Ey Y.nat else topN Ex X.nat) = max (topN Ex X.nat) (topN Ey Y.nat) := by split <;> omega
  unfold uE unN
  rw [e, wrapI' ⟨by omega, by omega⟩]
theorem cmpI_of {x y : W4} (hx : x.ok) (hy : y.ok) : (y.nat < x.nat → cmpI x y = 1) ∧ (x.nat < y.nat → cmpI x y = -1) ∧ (x.nat = y.nat → cmpI x y = 0) := by
  have e1 := W4.nat_val hx
  have e2 := W4.nat_val hy
  unfold cmpI
  refine ⟨fun h => ?_, fun h => ?_, fun h => ?_⟩
  · rw [if_neg (by omega), if_neg (by omega)]
  · rw [if_pos (by omega)]
  · rw [if_neg (by omega), if_pos (by omega)]
def xuV (m : Int) (nx : Bool) (Ex : Int) (X : W4) (ny : Bool) (Ey : Int) (Y : W4) : Value := vN (xuN m nx Ex X.nat ny Ey Y.nat) (unN Ex X.nat Ey Y.nat) (ofN (xuQ nx Ex X.nat ny Ey Y.nat)) (xuB nx Ex X.nat ny Ey Y.nat)
theorem exact_calls (nx ny : Bool) (X Y : W4) (Ex Ey m : Int) (hX : X.ok) (hY : Y.ok) (mX : mayB Ex X false = true) (mY : mayB Ey Y false = true) (w : World) : Calls Tryz.prog 39 #[vN nx Ex X false, vN ny Ey Y false, .int .i64 m] w fun r w' => r = .returned (.tuple #[xuV m nx Ex X ny Ey Y, .nilIface]) ∧ Tidy w w' := by
  have dX := (may_iff hX).1 mX
  have dY := (may_iff hY).1 mY
  have eu := uE_eq dX dY
  have hu := un_bd dX dY
  have kx : decide X.ok = true := decide_eq_true hX
  have ky : decide Y.ok = true := decide_eq_true hY
  have tx : okTp X Ex = true := decide_eq_true ⟨hX, by have := dX.2; omega, by have := dX.2; omega⟩
  have ty : okTp Y Ey = true := decide_eq_true ⟨hY, by have := dY.2; omega, by have := dY.2; omega⟩
  have ix : okIu X Ex (uE Ex X Ey Y) = true := decide_eq_true ⟨hX, by have := dX.2; omega, by have := dX.2; omega, by omega, by omega⟩
  have iy : okIu Y Ey (uE Ex X Ey Y) = true := decide_eq_true ⟨hY, by have := dY.2; omega, by have := dY.2; omega, by omega, by omega⟩
  have hlog : okLog (lEx X Y Ex Ey) := by simp only [lEx, lIu, okCs, okNl, kx, ky, tx, ty, ix, iy, mX, mY, and_self]
  have lx := iuQ_lt (Ex := Ex) (Ey := Ey) (X := X.nat) (Y := Y.nat)
  have ly := iuQ_lt (Ex := Ey) (Ey := Ex) (X := Y.nat) (Y := X.nat)
  rw [un_comm] at ly
  have e256 : (2 : Nat) ^ 256 = 4 * 2 ^ 254 := rfl
  have ox : (eX Ex X Ey Y).ok := ofN_ok _
  have oy : (eY Ex X Ey Y).ok := ofN_ok _
  have nX : (eX Ex X Ey Y).nat = iuQ Ex (unN Ex X.nat Ey Y.nat) X.nat := by unfold eX; rw [eu]; exact ofN_nat (by omega)
  have nY : (eY Ex X Ey Y).nat = iuQ Ey (unN Ex X.nat Ey Y.nat) Y.nat := by unfold eY; rw [eu]; exact ofN_nat (by omega)
  have k2 : decide ((eX Ex X Ey Y).ok ∧ (eY Ex X Ey Y).ok) = true := decide_eq_true ⟨ox, oy⟩
  have cbX : xbX Ex X Ey Y = iuB Ex (unN Ex X.nat Ey Y.nat) X.nat := by unfold xbX; rw [eu]
  have cbY : xbY Ex X Ey Y = iuB Ey (unN Ex X.nat Ey Y.nat) Y.nat := by unfold xbY; rw [eu]
  obtain ⟨cg, cl', cz⟩ := cmpI_of ox oy
  have hv : ∀ a b : Bool, ([vN a Ex X false, vN b Ey Y false, .int .i64 m].all (lt 0)) = true := fun a b => rfl
  by_cases hn : nx = ny
  · have ev : xuV m nx Ex X ny Ey Y = vN nx (uE Ex X Ey Y) (ofN ((eX Ex X Ey Y).nat + (eY Ex X Ey Y).nat)) ((xbX Ex X Ey Y) || (xbY Ex X Ey Y)) := by
      unfold xuV xuN xuQ xuB exN exQ exB
      rw [if_pos hn, if_pos hn, if_pos hn, eu, nX, nY, cbX, cbY]
    rw [ev]
    subst hn
    cases nx
    · exact fits_calls (tabY_ok conSu_ok) (ex_sff X Y Ex Ey m) (okCons k2 hlog) (hv _ _) (by rfl) w
    · exact fits_calls (tabY_ok conSu_ok) (ex_stt X Y Ex Ey m) (okCons k2 hlog) (hv _ _) (by rfl) w
  · rcases Nat.lt_trichotomy (eX Ex X Ey Y).nat (eY Ex X Ey Y).nat with h | h | h
    · have ev : xuV m nx Ex X ny Ey Y = vN ny (uE Ex X Ey Y) (ofN (apQ (eY Ex X Ey Y).nat (eX Ex X Ey Y).nat (xbX Ex X Ey Y))) ((xbY Ex X Ey Y) || (xbX Ex X Ey Y)) := by
        rw [nX, nY] at h
        unfold xuV xuN xuQ xuB exN exQ exB apQ
        rw [if_neg hn, if_neg hn, if_neg hn, if_neg (Nat.lt_asymm h), if_pos h, if_neg (Nat.lt_asymm h), if_pos h, if_neg (Nat.lt_asymm h), if_pos h, eu, nX, nY, cbX, cbY]
      have k3 : decide ((eY Ex X Ey Y).ok ∧ (eX Ex X Ey Y).ok ∧ (eX Ex X Ey Y).nat < (eY Ex X Ey Y).nat) = true := decide_eq_true ⟨oy, ox, h⟩
      have k4 : decide (cmpI (eX Ex X Ey Y) (eY Ex X Ey Y) = -1) = true := decide_eq_true (cl' h)
      rw [ev]
      cases nx <;> cases ny
      · exact absurd rfl hn
      · exact fits_calls (tabY_ok conSu_ok) (ex_lft X Y Ex Ey m) (okCons k3 (okCons k2 (okCons k4 hlog))) (hv _ _) (by rfl) w
      · exact fits_calls (tabY_ok conSu_ok) (ex_ltf X Y Ex Ey m) (okCons k3 (okCons k2 (okCons k4 hlog))) (hv _ _) (by rfl) w
      · exact absurd rfl hn
    · have ev : xuV m nx Ex X ny Ey Y = vN (m == 4) (uE Ex X Ey Y) ⟨0, 0, 0, 0⟩ false := by
        rw [nX, nY] at h
        unfold xuV xuN xuQ xuB exN exQ exB
        rw [if_neg hn, if_neg hn, if_neg hn, h, if_neg (Nat.lt_irrefl _), if_neg (Nat.lt_irrefl _), if_neg (Nat.lt_irrefl _), if_neg (Nat.lt_irrefl _), if_neg (Nat.lt_irrefl _), if_neg (Nat.lt_irrefl _), eu, ofN_zero]
        rfl
      have k4 : decide (cmpI (eX Ex X Ey Y) (eY Ex X Ey Y) = 0) = true := decide_eq_true (cz h)
      rw [ev]
      cases nx <;> cases ny
      · exact absurd rfl hn
      · exact fits_calls (tabY_ok conSu_ok) (ex_zft X Y Ex Ey m) (okCons k2 (okCons k4 hlog)) (hv _ _) (by rfl) w
      · exact fits_calls (tabY_ok conSu_ok) (ex_ztf X Y Ex Ey m) (okCons k2 (okCons k4 hlog)) (hv _ _) (by rfl) w
      · exact absurd rfl hn
    · have ev : xuV m nx Ex X ny Ey Y = vN nx (uE Ex X Ey Y) (ofN (apQ (eX Ex X Ey Y).nat (eY Ex X Ey Y).nat (xbY Ex X Ey Y))) ((xbX Ex X Ey Y) || (xbY Ex X Ey Y)) := by
        rw [nX, nY] at h
        unfold xuV xuN xuQ xuB exN exQ exB apQ
        rw [if_neg hn, if_neg hn, if_neg hn, if_pos h, if_pos h, if_pos h, eu, nX, nY, cbX, cbY]
      have k3 : decide ((eX Ex X Ey Y).ok ∧ (eY Ex X Ey Y).ok ∧ (eY Ex X Ey Y).nat < (eX Ex X Ey Y).nat) = true := decide_eq_true ⟨ox, oy, h⟩
      have k4 : decide (cmpI (eX Ex X Ey Y) (eY Ex X Ey Y) = 1) = true := decide_eq_true (cg h)
      rw [ev]
      cases nx <;> cases ny
      · exact absurd rfl hn
      · exact fits_calls (tabY_ok conSu_ok) (ex_gft X Y Ex Ey m) (okCons k3 (okCons k2 (okCons k4 hlog))) (hv _ _) (by rfl) w
      · exact fits_calls (tabY_ok conSu_ok) (ex_gtf X Y Ex Ey m) (okCons k3 (okCons k2 (okCons k4 hlog))) (hv _ _) (by rfl) w
      · exact absurd rfl hn
/-- a sum's condition -/
def okEx (Ex : Int) (X : W4) (b : Bool) (Ey : Int) (Y : W4) (c : Bool) : Bool := decide (X.ok ∧ Y.ok ∧ b = false ∧ c = false ∧ mayB Ex X false = true ∧ mayB Ey Y false = true)
def gEx : Ans := fun vals s =>
  match vals with
  | [v, t, .int .i64 m] =>
    match n7 v with
    | some (nx, Ex, X, b) =>
      match n7 t with
      | some (ny, Ey, Y, c) => some (.tuple #[xuV m nx Ex X ny Ey Y, .nilIface], s, [(okEx Ex X b Ey Y c, true)])
      | none => none
    | none => none
  | _ => none
theorem gEx_ok : AnsOk 39 gEx := by
  intro vals s v s' lg h hl w
  unfold gEx at h
  split at h
  · split at h
    · rename_i nx Ex X b hn
      split at h
      · rename_i ny Ey Y c hp
        cases h
        rw [n7_spec hn, n7_spec hp]
        obtain ⟨h1, h2, rfl, rfl, h5, h6⟩ := of_decide_eq_true (hl _ (List.mem_singleton.2 rfl))
        exact exact_calls nx ny X Y Ex Ey _ h1 h2 h5 h6 w
      · cases h
    · cases h
  · cases h
end Go.Proofs.YtjkgnbdeklploaaGreat
namespace Go.Proofs.YtjkgnbdeklploaaGreat
open Go.KRun Go.Pt
set_option maxRecDepth 100000
/-- a call with one word of 64 bits -/
def gU (k : Int → Value) : Ans := fun vals s =>
  match vals with
  | [.int .u64 p] => some (k p, s, [(decide (U p), true)])
  | _ => none
theorem gU_ok {f : Nat} {k : Int → Value} (hk : ∀ p : Int, U p → ∀ w, Calls Tryz.prog f #[.int .u64 p] w fun e w' => e = .returned (k p) ∧ Tidy w w') : AnsOk f (gU k) := by
  intro vals s v s' lg h hl w
  unfold gU at h
  split at h
  · cases h
    exact hk _ (of_decide_eq_true (hl _ (List.mem_singleton.2 rfl))) w
  · cases h
theorem abs_fits (p : Int) : Fits (reckon (tabOf Tryz.prog extY conN true) 300 90 [.int .u64 p] []) (.int .u64 (bNot p 9223372036854775808)) [] := ⟨by kernel_rfl, by kernel_rfl, by kernel_rfl, by kernel_rfl⟩
theorem abs_ok : AnsOk 90 (gU fun p => .int .u64 (mag p)) := gU_ok fun p hp w => by
  have := fits_calls (tabY_ok conN_ok) (abs_fits p) (fun x hx => by cases hx) (by rfl) (by rfl) w
  rw [bNot_sign hp] at this
  exact this
def conA : Con := alt 90 (gU fun p => .int .u64 (mag p)) conN
theorem conA_ok : ConOk conA := alt_ok Tryz.func90 rfl abs_ok conN_ok
/-- the exponent as the code reckons it -/
def exM (p : Int) : Int := IntKind.i64.wrap ((mag p).fdiv (2 ^ min (52 : Int).toNat 64))
theorem exM_eq (p : Int) : exM p = ex p := by
  have e : ((2 : Int) ^ min (52 : Int).toNat 64) = 4503599627370496 := by rfl
  unfold exM
  rw [e, Int.fdiv_eq_ediv_of_nonneg _ (by omega), ex_mag]
  have := ex_lt p
  exact wrapI' ⟨by omega, by omega⟩
def frM (p : Int) : Int := bAnd p 4503599627370495
def lX (p : Int) (l : Log) : Log := (decide ((52 : Int) < 0), false) :: (decide (U p), true) :: l
theorem lX_ok {p : Int} (hp : U p) : okLog (lX p []) := okCons rfl (okL1 (decide_eq_true hp))
def lQ (p : Int) : Bool := bAnd (frM p) 2251799813685248 != 0
theorem cls_small (p : Int) (d : Bool) : Fits (reckon (tabOf Tryz.prog extY conA true) 300 47 [.int .u64 p] [cmp true, cmp d]) (.int .i64 (match d with | true => 0 | false => 1)) ((frM p == 0, d) :: (exM p == 0, true) :: lX p []) := by
  cases d <;> exact ⟨by kernel_rfl, by kernel_rfl, by kernel_rfl, by kernel_rfl⟩
theorem cls_endless (p : Int) : Fits (reckon (tabOf Tryz.prog extY conA true) 300 47 [.int .u64 p] [cmp false, cmp true, cmp true]) (.int .i64 3) ((frM p == 0, true) :: (exM p == 2047, true) :: (exM p == 0, false) :: lX p []) := ⟨by kernel_rfl, by kernel_rfl, by kernel_rfl, by kernel_rfl⟩
theorem cls_great (p : Int) (d : Bool) : Fits (reckon (tabOf Tryz.prog extY conA true) 300 47 [.int .u64 p] [cmp false, cmp true, cmp false, cmp d]) (.int .i64 (match d with | true => 4 | false => 5)) ((lQ p, d) :: (frM p == 0, false) :: (exM p == 2047, true) :: (exM p == 0, false) :: lX p []) := by
  cases d <;> exact ⟨by kernel_rfl, by kernel_rfl, by kernel_rfl, by kernel_rfl⟩
theorem cls_plain (p : Int) : Fits (reckon (tabOf Tryz.prog extY conA true) 300 47 [.int .u64 p] [cmp false, cmp false]) (.int .i64 2) ((exM p == 2047, false) :: (exM p == 0, false) :: lX p []) := ⟨by kernel_rfl, by kernel_rfl, by kernel_rfl, by kernel_rfl⟩
theorem frM_eq {p : Int} (hp : U p) : frM p = fr p := bAnd_frac hp
theorem lQ_eq {p : Int} (hp : U p) : lQ p = decide (2251799813685248 ≤ fr p) := by
  have := fr_lt p
  unfold lQ
  rw [frM_eq hp, bAnd_quiet ⟨by omega, by omega⟩]
  by_cases h : 2251799813685248 ≤ fr p
  · rw [decide_eq_true h, show fr p / 2251799813685248 = 1 from by omega]; rfl
  · rw [decide_eq_false h, show fr p / 2251799813685248 = 0 from by omega]; rfl
theorem cls_ok : AnsOk 47 (gU fun p => .int .i64 (cl p)) := gU_ok fun p hp w => by
  have hl := lX_ok hp
  have ee := exM_eq p
  have ef := frM_eq hp
  unfold cl
  by_cases h0 : ex p = 0
  · rw [if_pos h0]
    have := fits_calls (tabY_ok conA_ok) (cls_small p (frM p == 0)) (okCons rfl (okCons (by rw [ee]; simp [h0]) hl)) (by rfl) (by cases (frM p == 0) <;> rfl) w
    rw [ef] at this
    by_cases h1 : fr p = 0
    · rw [if_pos h1]; rw [show (fr p == 0) = true from by simp [h1]] at this; exact this
    · rw [if_neg h1]; rw [show (fr p == 0) = false from by simp [h1]] at this; exact this
  · rw [if_neg h0]
    by_cases h2 : ex p = 2047
    · rw [if_pos h2]
      by_cases h1 : fr p = 0
      · rw [if_pos h1]
        exact fits_calls (tabY_ok conA_ok) (cls_endless p) (okCons (by rw [ef]; simp [h1]) (okCons (by rw [ee]; simp [h2]) (okCons (by rw [ee]; simp [h0]) hl))) (by rfl) (by rfl) w
      · rw [if_neg h1]
        have := fits_calls (tabY_ok conA_ok) (cls_great p (lQ p)) (okCons rfl (okCons (by rw [ef]; simp [h1]) (okCons (by rw [ee]; simp [h2]) (okCons (by rw [ee]; simp [h0]) hl)))) (by rfl) (by cases (lQ p) <;> rfl) w
        rw [lQ_eq hp] at this
        by_cases h3 : 2251799813685248 ≤ fr p
        · rw [if_pos h3]; rw [decide_eq_true h3] at this; exact this
        · rw [if_neg h3]; rw [decide_eq_false h3] at this; exact this
    · rw [if_neg h2]
      exact fits_calls (tabY_ok conA_ok) (cls_plain p) (okCons (by rw [ee]; simp [h2]) (okCons (by rw [ee]; simp [h0]) hl)) (by rfl) (by rfl) w
def conB : Con := alt 47 (gU fun p => .int .i64 (cl p)) conA
theorem conB_ok : ConOk conB := alt_ok Tryz.func47 rfl cls_ok conA_ok
/-! ### Take -/
def vP (m : Bool) (c e s : Int) : Value := .agg #[.bool m, .int .i64 c, .int .i64 e, .int .u64 s]
def vT (p : Int) : Value := vP (sgn p) (cl p) (xp p) (sg p)
def lS (p : Int) (d : Bool) : Bool × Bool := (bAnd p 9223372036854775808 != 0, d)
def lU (p : Int) : Bool × Bool := (decide (U p), true)
theorem take_nought (p : Int) (d : Bool) : Fits (reckon (tabOf Tryz.prog extY conB true) 300 49 [.int .u64 p] [cmp d, cmp true]) (vP d (cl p) (-1074) (frM p)) [(cl p == 0, true), lU p, lS p d] := ⟨by kernel_rfl, by kernel_rfl, by kernel_rfl, by kernel_rfl⟩
theorem take_tiny (p : Int) (d : Bool) : Fits (reckon (tabOf Tryz.prog extY conB true) 300 49 [.int .u64 p] [cmp d, cmp false, cmp true]) (vP d (cl p) (-1074) (frM p)) [(cl p == 1, true), (cl p == 0, false), lU p, lS p d] := ⟨by kernel_rfl, by kernel_rfl, by kernel_rfl, by kernel_rfl⟩
theorem take_plain (p : Int) (d : Bool) : Fits (reckon (tabOf Tryz.prog extY conB true) 300 49 [.int .u64 p] [cmp d, cmp false, cmp false, cmp true]) (vP d (cl p) (IntKind.i64.wrap (exM p - 1075)) (bOr (frM p) 4503599627370496)) [(decide ((52 : Int) < 0), false), lU p, (cl p == 2, true), (cl p == 1, false), (cl p == 0, false), lU p, lS p d] := ⟨by kernel_rfl, by kernel_rfl, by kernel_rfl, by kernel_rfl⟩
theorem take_great (p : Int) (d : Bool) : Fits (reckon (tabOf Tryz.prog extY conB true) 300 49 [.int .u64 p] [cmp d, cmp false, cmp false, cmp false]) (vP d (cl p) 0 (frM p)) [(cl p == 2, false), (cl p == 1, false), (cl p == 0, false), lU p, lS p d] := ⟨by kernel_rfl, by kernel_rfl, by kernel_rfl, by kernel_rfl⟩
theorem sign_eq {p : Int} (hp : U p) : (bAnd p 9223372036854775808 != 0) = sgn p := by
  rw [bAnd_sign hp]
  unfold sgn
  unfold U at hp
  by_cases h : 9223372036854775808 ≤ p
  · rw [decide_eq_true h, show p / 9223372036854775808 = 1 from by omega]; rfl
  · rw [decide_eq_false h, show p / 9223372036854775808 = 0 from by omega]; rfl
theorem cl_cases (p : Int) : (ex p = 0 ∧ (cl p = 0 ∨ cl p = 1)) ∨ (ex p = 2047 ∧ 3 ≤ cl p) ∨ (ex p ≠ 0 ∧ ex p ≠ 2047 ∧ cl p = 2) := by
  unfold cl
  split
  · split <;> omega
  · split
    · split
      · omega
      · split <;> omega
    · omega
theorem lead_or {p : Int} : bOr (fr p) 4503599627370496 = fr p + 4503599627370496 := by
  have := fr_lt p
  rw [or_low 52 (z := 1) (by omega) (by rfl) this.1 (show fr p < 2 ^ 52 from this.2) (by omega)]
  omega
theorem take_calls (p : Int) (hp : U p) (w : World) : Calls Tryz.prog 49 #[.int .u64 p] w fun e w' => e = .returned (vT p) ∧ Tidy w w' := by
  have hu : decide (U p) = true := decide_eq_true hp
  have hs := sign_eq hp
  have hf := frM_eq hp
  have he := exM_eq p
  have hx := ex_lt p
  unfold vT xp sg
  rcases cl_cases p with ⟨h1, h2⟩ | ⟨h1, h2⟩ | ⟨h1, h2, h3⟩
  · rw [if_pos h1, if_pos h1]
    rcases h2 with h2 | h2
    · have := fits_calls (tabY_ok conB_ok) (take_nought p (sgn p)) (okCons (by simp [h2]) (okCons hu (okL1 hs))) (by rfl) (by rfl) w
      rw [hf] at this
      exact this
    · have := fits_calls (tabY_ok conB_ok) (take_tiny p (sgn p)) (okCons (by simp [h2]) (okCons (by simp [h2]) (okCons hu (okL1 hs)))) (by rfl) (by rfl) w
      rw [hf] at this
      exact this
  · have h0 : ¬ ex p = 0 := by omega
    simp only [if_neg h0, if_pos h1]
    have h3 : ¬ cl p = 0 := by omega
    have h4 : ¬ cl p = 1 := by omega
    have h5 : ¬ cl p = 2 := by omega
    have := fits_calls (tabY_ok conB_ok) (take_great p (sgn p)) (okCons (by simp [h5]) (okCons (by simp [h4]) (okCons (by simp [h3]) (okCons hu (okL1 hs))))) (by rfl) (by rfl) w
    rw [hf] at this
    exact this
  · rw [if_neg h1, if_neg h1, if_neg h2, if_neg h2]
    have := fits_calls (tabY_ok conB_ok) (take_plain p (sgn p)) (okCons rfl (okCons hu (okCons (by simp [h3]) (okCons (by simp [h3]) (okCons (by simp [h3]) (okCons hu (okL1 hs))))))) (by rfl) (by rfl) w
    rw [hf, he, wrapI' ⟨by omega, by omega⟩, lead_or] at this
    exact this
theorem take_ok : AnsOk 49 (gU vT) := gU_ok take_calls
/-! ### the document's Take -/
end Go.Proofs.YtjkgnbdeklploaaGreat
