/-
  NumF, NumQu, NumRd, RdX, RunX, RunY, RunZ, NumRe, NumRj
-/
import Derived.Test.YtjlponbdflkbjaaGreatDoorG07
import Derived.Test.YtjlponbdflkbjaaGreatDoorG06
namespace Go.Rn
open Go.Nt Go.Wd
/-- all but the low d bits, and behind them one bit for these -/
def stk (A d : Nat) : Nat := 2 * (A / 2 ^ d) + (if A % 2 ^ d = 0 then 0 else 1)
theorem stk_bit (A d : Nat) : (if A % 2 ^ d = 0 then 0 else 1) ≤ 1 := by split <;> omega
theorem stk_div (A d j : Nat) : stk A d / 2 ^ (j + 1) = A / 2 ^ (d + j) := by
  have e : stk A d / 2 = A / 2 ^ d := by unfold stk; split <;> omega
  rw [Nat.pow_succ, Nat.mul_comm, ← Nat.div_div_eq_div_mul, e, Nat.div_div_eq_div_mul, Nat.pow_add]
theorem stk_mod (A d j : Nat) : stk A d % 2 ^ (j + 1) = 2 * (A / 2 ^ d % 2 ^ j) + (if A % 2 ^ d = 0 then 0 else 1) := by
  rw [Nat.pow_succ, Nat.mul_comm, Nat.mod_mul]
  have e : stk A d / 2 = A / 2 ^ d := by unfold stk; split <;> omega
  rw [e]
  unfold stk
  split <;> omega
theorem all_mod (A d j : Nat) : A % 2 ^ (d + j) = A % 2 ^ d + 2 ^ d * (A / 2 ^ d % 2 ^ j) := by rw [Nat.pow_add, Nat.mod_mul]
theorem stk_zero (A d j : Nat) : stk A d % 2 ^ (j + 1) = 0 ↔ A % 2 ^ (d + j) = 0 := by
  have hD : 0 < 2 ^ d := Nat.pow_pos (by omega)
  rw [stk_mod, all_mod]
  generalize A / 2 ^ d % 2 ^ j = r
  constructor
  · intro h
    have h1 : A % 2 ^ d = 0 := by
      by_cases h0 : A % 2 ^ d = 0
      · exact h0
      · rw [if_neg h0] at h; omega
    rw [if_pos h1] at h
    have : r = 0 := by omega
    rw [h1, this]; simp
  · intro h
    have h1 : A % 2 ^ d = 0 := by omega
    rw [if_pos h1]
    have h2 : 2 ^ d * r = 0 := by omega
    rcases Nat.mul_eq_zero.1 h2 with h3 | h3
    · omega
    · rw [h3]
theorem rest_core {r r' D Q s : Nat} (hD : r' < D) (hQ : 0 < Q) (hb : s ≤ 1) (hs : s = 0 ↔ r' = 0) : restC (2 * r + s) (4 * Q) = restC (r' + D * r) (2 * (D * Q)) := by
  have hDr : r ≤ D * r := Nat.le_mul_of_pos_left r (by omega)
  unfold restC
  by_cases h0 : r' + D * r = 0
  · have : r' = 0 := by omega
    have := hs.2 this
    rw [if_pos h0, if_pos (by omega)]
  · have hz : ¬ 2 * r + s = 0 := by
      intro h
      apply h0
      have h1 : r = 0 := by omega
      have h2 := hs.1 (by omega)
      rw [h1, h2]; rfl
    rw [if_neg h0, if_neg hz]
    rcases Nat.lt_trichotomy r Q with h | h | h
    · have h1 : D * r + D ≤ D * Q := by rw [← Nat.mul_succ]; exact Nat.mul_le_mul_left D h
      rw [if_pos (by omega), if_pos (by omega)]
    · subst h
      by_cases hs0 : s = 0
      · have := hs.1 hs0
        rw [if_neg (by omega), if_pos (by omega), if_neg (by omega), if_pos (by omega)]
      · have : r' ≠ 0 := fun h => hs0 (hs.2 h)
        rw [if_neg (by omega), if_neg (by omega), if_neg (by omega), if_neg (by omega)]
    · have h1 : D * Q + D ≤ D * r := by rw [← Nat.mul_succ]; exact Nat.mul_le_mul_left D h
      rw [if_neg (by omega), if_neg (by omega), if_neg (by omega), if_neg (by omega)]
theorem stk_rest (A d j : Nat) : restC (stk A d % 2 ^ (j + 2)) (2 ^ (j + 2)) = restC (A % 2 ^ (d + (j + 1))) (2 ^ (d + (j + 1))) := by
  have hD : 0 < 2 ^ d := Nat.pow_pos (by omega)
  have hQ : 0 < 2 ^ j := Nat.pow_pos (by omega)
  have eP : 2 ^ (j + 1 + 1) = 4 * 2 ^ j := by rw [Nat.pow_succ, Nat.pow_succ]; omega
  have eP2 : 2 ^ (d + (j + 1)) = 2 * (2 ^ d * 2 ^ j) := by rw [Nat.pow_add, Nat.pow_succ, ← Nat.mul_assoc]; omega
  have e1 := stk_mod A d (j + 1)
  have e2 := all_mod A d (j + 1)
  rw [show j + 2 = (j + 1) + 1 by omega, e1, e2, eP, eP2]
  exact rest_core (Nat.mod_lt A hD) hQ (stk_bit A d) (by split <;> omega)
theorem stk_rq (m : Int) (neg : Bool) (A d j : Nat) : rq m neg (stk A d) (j + 2) = rq m neg A (d + (j + 1)) := by
  unfold rq
  rw [stk_rest, show j + 2 = (j + 1) + 1 by omega, stk_div]
theorem stk_toQ (m : Int) (neg : Bool) (A d : Nat) {F e : Int} (h : F + d + 1 ≤ e) : toQ m neg (stk A d) (F + d - 1) e = toQ m neg A F e := by
  obtain ⟨j, hj⟩ : ∃ j : Nat, e = F + d + 1 + j := ⟨(e - (F + d + 1)).toNat, by omega⟩
  unfold toQ
  rw [if_neg (by omega), if_neg (by omega), show (e - (F + d - 1)).toNat = j + 2 by omega, show (e - F).toNat = d + (j + 1) by omega, stk_rq]
theorem stk_toL (A d : Nat) {F e : Int} (h : F + d + 1 ≤ e) : toL (stk A d) (F + d - 1) e = toL A F e := by
  obtain ⟨j, hj⟩ : ∃ j : Nat, e = F + d + 1 + j := ⟨(e - (F + d + 1)).toNat, by omega⟩
  unfold toL
  rw [if_neg (by omega), if_neg (by omega), show (e - (F + d - 1)).toNat = j + 1 + 1 by omega, show (e - F).toNat = d + (j + 1) by omega]
  congr 1
  simp only [ne_eq, eq_iff_iff]
  exact not_congr (stk_zero A d (j + 1))
theorem stk_len {A d : Nat} (h : A / 2 ^ d ≠ 0) : bitLen (stk A d) = bitLen (A / 2 ^ d) + 1 := by
  have e : stk A d / 2 ^ 1 = A / 2 ^ d := by
    have := stk_div A d 0
    simpa using this
  rw [bitLen_shift (stk A d) 1 (by rw [e]; exact h), e]
  omega
theorem stk_lgN {A d : Nat} {F : Int} (h : A / 2 ^ d ≠ 0) : lgN (stk A d) (F + d - 1) = lgN A F := by
  have e := bitLen_shift A d h
  unfold lgN
  rw [stk_len h]
  omega
theorem stk_round {m : Int} {neg : Bool} {A d : Nat} {F : Int} (h : A % 2 ^ d = 0 ∨ 54 ≤ bitLen (A / 2 ^ d)) : rnP m neg (stk A d) (F + d - 1) = rnP m neg A F ∧ rnF m neg (stk A d) (F + d - 1) = rnF m neg A F := by
  by_cases h0 : A % 2 ^ d = 0
  · have e1 : stk A d = A / 2 ^ d * 2 ^ 1 := by unfold stk; rw [if_pos h0]; omega
    have e2 : A = A / 2 ^ d * 2 ^ d := by
      have := Nat.div_add_mod A (2 ^ d)
      rw [h0, Nat.mul_comm] at this
      omega
    have p1 := rnP_scale m neg (A / 2 ^ d) 1 (F + d)
    have p2 := rnP_scale m neg (A / 2 ^ d) d (F + d)
    have f1 := rnF_scale m neg (A / 2 ^ d) 1 (F + d)
    have f2 := rnF_scale m neg (A / 2 ^ d) d (F + d)
    rw [show F + (d : Int) - ((1 : Nat) : Int) = F + d - 1 by omega, ← e1] at p1 f1
    rw [show F + (d : Int) - (d : Int) = F by omega, ← e2] at p2 f2
    exact ⟨by rw [p1, p2], by rw [f1, f2]⟩
  · have hb : 54 ≤ bitLen (A / 2 ^ d) := by exact h.resolve_left h0
    have hq : A / 2 ^ d ≠ 0 := fun h => by rw [h] at hb; simp [bitLen] at hb
    have hA : A ≠ 0 := fun h => h0 (by rw [h]; simp)
    have hs : stk A d ≠ 0 := by unfold stk; omega
    have hl := stk_lgN (F := F) hq
    have hlw : lowE (stk A d) (F + d - 1) = lowE A F := by unfold lowE; rw [hl]
    have hlg : lgN A F = F + d + bitLen (A / 2 ^ d) - 1 := by rw [← hl]; unfold lgN; rw [stk_len hq]; omega
    have hge : F + d + 1 ≤ lowE A F := by unfold lowE; split <;> omega
    have hp : p0 m neg (stk A d) (F + d - 1) = p0 m neg A F := by unfold p0; rw [hlw, stk_toQ m neg A d hge]
    have ht : tiny m neg (stk A d) (F + d - 1) = tiny m neg A F := by
      unfold tiny
      rw [hl]
      by_cases hn : lgN A F = -1023
      · rw [if_pos hn, if_pos hn, stk_toQ m neg A d (by omega)]
      · rw [if_neg hn, if_neg hn]
    unfold rnP rnF
    rw [if_neg hs, if_neg hA, if_neg hs, if_neg hA, hp, hlw, stk_toL A d hge, ht]
    exact ⟨rfl, rfl⟩
end Go.Rn
namespace Go.Rn
open Go.Nt Go.Wd Go.Pt
/-- a number's quotient, with a last bit for what is left -/
def dvK (A B k : Nat) : Nat := 2 * (A * 2 ^ k / B) + (if A * 2 ^ k % B = 0 then 0 else 1)
theorem mod_scale {A B : Nat} (k : Nat) : A * 2 ^ k % (B * 2 ^ k) = A % B * 2 ^ k := Nat.mul_mod_mul_right (2 ^ k) A B
theorem dvK_div (A B k j : Nat) : dvK A B (k + j) / 2 ^ (j + 1) = A * 2 ^ k / B := by
  have hp : 0 < 2 ^ j := Nat.pow_pos (by omega)
  have e1 : A * 2 ^ (k + j) / B / 2 ^ j = A * 2 ^ k / B := by
    rw [Nat.div_div_eq_div_mul, Nat.pow_add, ← Nat.mul_assoc, Nat.mul_div_mul_right _ _ hp]
  have : dvK A B (k + j) / 2 = A * 2 ^ (k + j) / B := by unfold dvK; split <;> omega
  rw [Nat.pow_succ, Nat.mul_comm (2 ^ j) 2, ← Nat.div_div_eq_div_mul, this, e1]
theorem dvK_stk (A B k j : Nat) : stk (dvK A B (k + j)) (j + 1) = dvK A B k := by
  have hp : 0 < 2 ^ j := Nat.pow_pos (by omega)
  have e1 : A * 2 ^ (k + j) / B / 2 ^ j = A * 2 ^ k / B := by
    rw [Nat.div_div_eq_div_mul, Nat.pow_add, ← Nat.mul_assoc, Nat.mul_div_mul_right _ _ hp]
  have e2 := dvK_div A B k j
  have e3 : dvK A B (k + j) % 2 ^ (j + 1) = 0 ↔ A * 2 ^ k % B = 0 := by
    have d2 : dvK A B (k + j) / 2 = A * 2 ^ (k + j) / B := by unfold dvK; split <;> omega
    have m2 : dvK A B (k + j) % 2 = if A * 2 ^ (k + j) % B = 0 then 0 else 1 := by unfold dvK; split <;> omega
    rw [Nat.pow_succ, Nat.mul_comm (2 ^ j) 2, Nat.mod_mul, d2, m2]
    have e : A * 2 ^ (k + j) % B + B * (A * 2 ^ (k + j) / B % 2 ^ j) = A * 2 ^ k % B * 2 ^ j := by
      rw [← Nat.mod_mul, ← mod_scale, Nat.mul_assoc, ← Nat.pow_add]
    constructor
    · intro h
      have h1 : A * 2 ^ (k + j) % B = 0 := by
        by_cases h0 : A * 2 ^ (k + j) % B = 0
        · exact h0
        · rw [if_neg h0] at h; omega
      have h2 : A * 2 ^ (k + j) / B % 2 ^ j = 0 := by omega
      rw [h1, h2, Nat.mul_zero] at e
      rcases Nat.mul_eq_zero.1 e.symm with h3 | h3
      · exact h3
      · omega
    · intro h
      rw [h, Nat.zero_mul] at e
      have h1 : A * 2 ^ (k + j) % B = 0 := by omega
      rw [if_pos h1]
      rcases Nat.mul_eq_zero.1 (show B * (A * 2 ^ (k + j) / B % 2 ^ j) = 0 by omega) with h2 | h2
      · rw [h2, Nat.div_zero, Nat.zero_mod]
      · rw [h2]
  unfold stk
  rw [e2]
  by_cases h : A * 2 ^ k % B = 0
  · rw [if_pos (e3.2 h)]; unfold dvK; rw [if_pos h]
  · rw [if_neg (fun h' => h (e3.1 h'))]; unfold dvK; rw [if_neg h]
/-! ### roots -/
end Go.Rn
namespace Go.Rd
/-- a letter as a digit, -1 if it is none -/
def dgvR (c b : Int) : Int := if 48 ≤ c ∧ c ≤ 57 then c - 48 else if b = 16 ∧ 97 ≤ c ∧ c ≤ 102 then c - 87 else -1
theorem dgvR_bd (c b : Int) : -1 ≤ dgvR c b ∧ dgvR c b < 16 := by
  unfold dgvR
  split
  · omega
  · split <;> omega
theorem dgvR_ten (c : Int) : dgvR c 10 < 10 := by
  unfold dgvR
  split
  · omega
  · rw [if_neg (by omega)]; omega
/-- a letter's number -/
def lq8 (c : UInt8) : Int := ((c.toNat : Nat) : Int)
/-- all letters are digits -/
def allB (b : Int) (l : List UInt8) : Bool := l.all fun c => decide (0 ≤ dgvR (lq8 c) b)
/-- the number of digits -/
def nmB (b : Int) (l : List UInt8) : Nat := l.foldl (fun a c => a * b.toNat + (dgvR (lq8 c) b).toNat) 0
/-- the digits at a text's begin, how many of them are behind the point, what is left -/
def sc1 (b : Int) : Bool → List UInt8 → List UInt8 × Nat × List UInt8
  | _, [] => ([], 0, [])
  | p, c :: l =>
    if lq8 c = 46 ∧ p = false then sc1 b true l
    else if 0 ≤ dgvR (lq8 c) b then (c :: (sc1 b p l).1, (if p = true then 1 else 0) + (sc1 b p l).2.1, (sc1 b p l).2.2)
    else ([], 0, c :: l)
/-- a power's digits, cut -/
def pw1 : Nat → List UInt8 → Nat × Bool
  | a, [] => (a, true)
  | a, c :: l => if 0 ≤ dgvR (lq8 c) 10 then pw1 (min (10 * a + (dgvR (lq8 c) 10).toNat) 2000000) l else (a, false)
/-- a sign, and what is behind it -/
def sgT : List UInt8 → Bool × List UInt8
  | [] => (false, [])
  | c :: r => if lq8 c = 45 then (true, r) else if lq8 c = 43 then (false, r) else (false, c :: r)
/-- the power behind the digits, and whether it is one -/
def scE (b : Int) : List UInt8 → Int × Bool
  | [] => (0, decide (b = 10))
  | c :: r =>
    if (b = 10 ∧ lq8 c ≠ 101) ∨ (b = 16 ∧ lq8 c ≠ 112) then (0, false)
    else if (sgT r).2 = [] then (0, false)
    else if (pw1 0 (sgT r).2).2 = false then (((pw1 0 (sgT r).2).1 : Nat), false)
    else (if (sgT r).1 = true then -((pw1 0 (sgT r).2).1 : Nat) else ((pw1 0 (sgT r).2).1 : Nat), true)
def scA (b : Int) (l : List UInt8) : Int × Bool := if (sc1 b false l).1 = [] then (0, false) else scE b (sc1 b false l).2.2
theorem drop_get {l : List UInt8} {i : Nat} (h : i < l.length) : l.drop i = l.getD i 0 :: l.drop (i + 1) := by
  rw [List.getD_eq_getElem?_getD, List.getElem?_eq_getElem h, Option.getD_some]
  exact List.drop_eq_getElem_cons h
theorem sc1_bd (b : Int) (p : Bool) (l : List UInt8) : (sc1 b p l).1.length ≤ l.length ∧ (sc1 b p l).2.1 ≤ (sc1 b p l).1.length ∧ allB b (sc1 b p l).1 = true := by
  induction l generalizing p with
  | nil => exact ⟨Nat.le_refl _, Nat.le_refl _, rfl⟩
  | cons c l ih =>
    unfold sc1
    split
    · obtain ⟨h1, h2, h3⟩ := ih true
      exact ⟨by rw [List.length_cons]; omega, h2, h3⟩
    · split
      · rename_i h
        obtain ⟨h1, h2, h3⟩ := ih p
        refine ⟨by dsimp only; rw [List.length_cons, List.length_cons]; omega, by dsimp only; rw [List.length_cons]; split <;> omega, ?_⟩
        show allB b (c :: (sc1 b p l).1) = true
        unfold allB at h3 ⊢
        rw [List.all_cons, decide_eq_true h, h3]
        rfl
      · exact ⟨Nat.zero_le _, Nat.le_refl _, rfl⟩
theorem nmB_snoc (b : Int) (l : List UInt8) (c : UInt8) : nmB b (l ++ [c]) = nmB b l * b.toNat + (dgvR (lq8 c) b).toNat := by
  unfold nmB
  rw [List.foldl_append]
  rfl
theorem nmB_take (b : Int) (l : List UInt8) {i : Nat} (h : i < l.length) : nmB b (l.take (i + 1)) = nmB b (l.take i) * b.toNat + (dgvR (lq8 (l.getD i 0)) b).toNat := by
  rw [← nmB_snoc]
  congr 1
  rw [List.getD_eq_getElem?_getD, List.getElem?_eq_getElem h, Option.getD_some]
  exact (List.take_append_getElem h).symm
theorem nmB_lt {b : Int} (hb : b = 10 ∨ b = 16) (l : List UInt8) : nmB b l < b.toNat ^ l.length := by
  have key : ∀ (l : List UInt8) (k : Nat), l.length = k → nmB b l < b.toNat ^ k := by
    intro l k
    induction k generalizing l with
    | zero =>
      intro h
      rw [List.eq_nil_of_length_eq_zero h]
      exact Nat.one_pos
    | succ k ih =>
      intro h
      have hne : l ≠ [] := fun h0 => by rw [h0] at h; cases h
      obtain ⟨l', c, rfl⟩ : ∃ l' c, l = l' ++ [c] := ⟨l.dropLast, l.getLast hne, (List.dropLast_concat_getLast hne).symm⟩
      have h1 := ih l' (by simpa using h)
      rw [nmB_snoc, Nat.pow_succ]
      have hd : (dgvR (lq8 c) b).toNat < b.toNat := by
        rcases hb with rfl | rfl
        · have := dgvR_ten (lq8 c); omega
        · have := (dgvR_bd (lq8 c) 16).2; omega
      calc nmB b l' * b.toNat + (dgvR (lq8 c) b).toNat < nmB b l' * b.toNat + b.toNat := by omega
        _ = (nmB b l' + 1) * b.toNat := by rw [Nat.add_mul, Nat.one_mul]
        _ ≤ b.toNat ^ k * b.toNat := Nat.mul_le_mul_right _ h1
  exact key l l.length rfl
open Go.Rn
/-- digits without the noughts ahead -/
def trZ (l : List UInt8) : List UInt8 := l.dropWhile fun c => lq8 c == 48
/-- how far a number is moved up ahead of a division -/
def upN (A B : Nat) : Nat := ((bitLen B : Int) - (bitLen A : Int) + 80).toNat
/-- what a text denotes, as a number and a power of two, with a last bit for what is left -/
def dnA (b : Int) (l : List UInt8) (k P : Int) : Nat × Int :=
  if b = 16 then (nmB 16 l, P - 4 * k)
  else if 320 < P - k + (l.length : Nat) then (1, 3000)
  else if P - k + (l.length : Nat) < -340 then (1, -3000)
  else if 0 ≤ P - k then (nmB 10 l * 10 ^ (P - k).toNat, 0)
  else (dvK (nmB 10 l) (10 ^ (k - P).toNat) (upN (nmB 10 l) (10 ^ (k - P).toNat)), -((upN (nmB 10 l) (10 ^ (k - P).toNat) : Nat) : Int) - 1)
theorem up_big {A B : Nat} (hA : A ≠ 0) : 2 ^ 79 * B ≤ A * 2 ^ upN A B := by
  have h1 := (bitLen_spec A).2 hA
  have h2 := (bitLen_spec B).1
  have h3 := len_pos hA
  have h4 : bitLen B + 80 ≤ upN A B + bitLen A := by unfold upN; omega
  refine Nat.le_trans (Nat.mul_le_mul_left _ (Nat.le_of_lt h2)) ?_
  rw [← Nat.pow_add]
  refine Nat.le_trans (Nat.pow_le_pow_right (by omega) (show 79 + bitLen B ≤ (bitLen A - 1) + upN A B by omega)) ?_
  rw [Nat.pow_add]
  exact Nat.mul_le_mul_right _ h1
theorem nm_bits {b : Int} (hb : b = 10 ∨ b = 16) (l : List UInt8) : nmB b l < 2 ^ (4 * l.length) := by
  refine Nat.lt_of_lt_of_le (nmB_lt hb l) ?_
  have h1 : b.toNat ^ l.length ≤ 16 ^ l.length := Nat.pow_le_pow_left (by omega) _
  have h2 : (16 : Nat) ^ l.length = 2 ^ (4 * l.length) := by rw [Nat.pow_mul]
  omega
theorem allB_trZ {b : Int} {l : List UInt8} (h : allB b l = true) : allB b (trZ l) = true := by
  unfold allB at *
  rw [List.all_eq_true] at *
  exact fun x hx => h x ((List.dropWhile_sublist _).subset hx)
theorem trZ_len (l : List UInt8) : (trZ l).length ≤ l.length := (List.dropWhile_sublist _).length_le
theorem trZ_cons {c : UInt8} {l : List UInt8} : trZ (c :: l) = if lq8 c = 48 then trZ l else c :: l := by
  unfold trZ
  rw [List.dropWhile_cons]
  by_cases h : lq8 c = 48 <;> simp [h]
/-- the first digit is not 0 -/
theorem trZ_head {b : Int} {l r : List UInt8} {c : UInt8} (h : allB b l = true) (he : trZ l = c :: r) : 0 < dgvR (lq8 c) b := by
  have h1 := allB_trZ h
  rw [he] at h1
  unfold allB at h1
  rw [List.all_cons, Bool.and_eq_true] at h1
  have h2 := of_decide_eq_true h1.1
  have h3 : lq8 c ≠ 48 := by
    intro h4
    clear h h1
    induction l with
    | nil => cases he
    | cons x l ih =>
      rw [trZ_cons] at he
      by_cases hx : lq8 x = 48
      · rw [if_pos hx] at he; exact ih he
      · rw [if_neg hx] at he
        cases he
        exact hx h4
  unfold dgvR at *
  split
  · omega
  · rename_i h5
    rw [if_neg h5] at h2
    split
    · omega
    · rename_i h6
      rw [if_neg h6] at h2
      omega
theorem nmB_pos {b : Int} (hb : b = 10 ∨ b = 16) {c : UInt8} {r : List UInt8} (h : 0 < dgvR (lq8 c) b) : 0 < nmB b (c :: r) := by
  have key : ∀ (r : List UInt8) (a : Nat), 0 < a → 0 < r.foldl (fun a c => a * b.toNat + (dgvR (lq8 c) b).toNat) a := by
    intro r
    induction r with
    | nil => intro a h; exact h
    | cons x r ih =>
      intro a h
      refine ih _ ?_
      exact Nat.lt_of_lt_of_le (Nat.mul_pos h (by omega)) (Nat.le_add_right _ _)
  unfold nmB
  rw [List.foldl_cons]
  exact key r _ (by rw [Nat.zero_mul]; omega)
/-! ### the whole -/
/-- the base, and what is behind its sign -/
def rdB (u : List UInt8) : Int × List UInt8 := if 1 < u.length ∧ u.take 2 = [48, 120] then (16, u.drop 2) else (10, u)
/-- of what is no word: pattern, flags, error -/
def rdQ (m : Int) (n : Bool) (b : Int) (v : List UInt8) : Int × Int × Int :=
  if (scA b v).2 = false then (0, 0, 3)
  else if trZ (sc1 b false v).1 = [] then (if n = true then 9223372036854775808 else 0, 0, 0)
  else (if n = true then 9223372036854775808 + rnP m n (dnA b (trZ (sc1 b false v).1) ((sc1 b false v).2.1 : Nat) (scA b v).1).1 (dnA b (trZ (sc1 b false v).1) ((sc1 b false v).2.1 : Nat) (scA b v).1).2 else rnP m n (dnA b (trZ (sc1 b false v).1) ((sc1 b false v).2.1 : Nat) (scA b v).1).1 (dnA b (trZ (sc1 b false v).1) ((sc1 b false v).2.1 : Nat) (scA b v).1).2, rnF m n (dnA b (trZ (sc1 b false v).1) ((sc1 b false v).2.1 : Nat) (scA b v).1).1 (dnA b (trZ (sc1 b false v).1) ((sc1 b false v).2.1 : Nat) (scA b v).1).2, 0)
/-- what a text is read as -/
def rdP (m : Int) (l : List UInt8) : Int × Int × Int :=
  if 65536 < l.length then (0, 0, 2)
  else if (sgT l).2 = [110, 97, 110] then (9221120237041090560, 0, 0)
  else if (sgT l).2 = [105, 110, 102] then (if (sgT l).1 = true then 18442240474082181120 else 9218868437227405312, 0, 0)
  else rdQ m (sgT l).1 (rdB (sgT l).2).1 (rdB (sgT l).2).2
end Go.Rd
namespace Go.Proofs.YtjlponbdflkbjaaGreatDoor
open Go.KRun Go.Rd
set_option maxRecDepth 100000
theorem okN9R : okLog [] := fun _ h => by cases h
def bR (l : List UInt8) : Value := .string ⟨⟨l⟩⟩
def byR (l : List UInt8) (i : Int) : Int := (((l.getD i.toNat 0).toNat : Nat) : Int)
def sK (F : Func) : Nat → Code
  | 0 => cBody F
  | n + 1 => cSnd (sK F n)
def sP (F : Func) (k : Nat) : Code := cFst (sK F k)
def pO (k : Nat) : Value := .pointer (some ⟨k, 0, none⟩)
theorem bs_eqR (l l' : List UInt8) : ((⟨⟨l⟩⟩ : ByteArray) == ⟨⟨l'⟩⟩) = decide (l = l') := by
  rw [beq_toListBytes, ByteArray.toList_eq, ByteArray.toList_eq]
  show (l == l') = decide (l = l')
  by_cases h : l = l'
  · rw [decide_eq_true h]; simpa using h
  · rw [decide_eq_false h]; simpa using h
theorem beqR_t {x y : Int} (h : x = y) : (x == y) = true := by simpa using h
theorem wN {n : Nat} (h : n < 1000000000) : IntKind.i64.wrap (((n : Nat) : Int) + 1) = ((n + 1 : Nat) : Int) := by rw [wrapI (by omega) (by omega)]; omega
end Go.Proofs.YtjlponbdflkbjaaGreatDoor
namespace Go.KRun
open Go.RowKit
/-- temporaries: the first, some of which nothing is known, some that are, the rest -/
def ml (front : List Value) (b : Nat) (g : Nat → Value) (mid : List Value) (n : Nat) (g' : Nat → Value) : List Value := front ++ (tl b g ++ (mid ++ tl n g'))
def GoesM (r : Option (Ex × Lf × Lg)) (a b c n : Nat) (e : Ex) (front mid : List Value) (h : Hp) (cs : Log) : Prop :=
  r.map (fun r => (r.1, r.2.1.1.take a, ((r.2.1.1.drop a).take b).length, ((r.2.1.1.drop a).drop b).take c, (((r.2.1.1.drop a).drop b).drop c).length, r.2.1.2.1, r.2.2.cs)) = some (e, front, b, mid, n, h, cs) ∧
    r.map (fun r => r.2.2.es.map Prod.fst) = r.map (fun r => r.2.2.es.map Prod.snd) ∧ r.map (fun r => r.2.2.bs.map Prod.fst) = r.map (fun r => r.2.2.bs.map Prod.snd)
theorem goesM_some {r : Option (Ex × Lf × Lg)} {a b c n : Nat} {e : Ex} {front mid : List Value} {h : Hp} {cs : Log} (hG : GoesM r a b c n e front mid h cs) (hcs : okLog cs) : ∃ g g' s L, r = some (e, (ml front b g mid n g', h, s), L) ∧ L.ok := by
  obtain ⟨h1, h5, h6⟩ := hG
  cases r with
  | none => cases h1
  | some r =>
    simp only [Option.map_some, Option.some.injEq, Prod.mk.injEq] at h1 h5 h6
    obtain ⟨e', ⟨t', h', s'⟩, L⟩ := r
    simp only at h1 h5 h6
    obtain ⟨h1, h2, h3, h4, h7, h8, h9⟩ := h1
    subst h1 h8
    obtain ⟨g, hg⟩ := tl_of h3
    obtain ⟨g', hg'⟩ := tl_of h7
    refine ⟨g, g', s', L, ?_, by rw [h9]; exact hcs, all_eq _ h5, all_eq _ h6⟩
    unfold ml
    rw [← h2, ← hg, ← h4, ← hg', List.take_append_drop, List.take_append_drop, List.take_append_drop]
theorem goesM_runs {T : Tab} (hT : TabOk T) {N : Nat} {c : Code} {t : List Value} {h h' : Hp} {s s0 : List Dec} {a b k n : Nat} {e : Ex} {front mid : List Value} {cs : Log} (hG : GoesM (evC T N false c (t, h, s) ⟨[], [], []⟩) a b k n e front mid h' cs) (hcs : okLog cs) :
    Runs T c (t, h, s0) fun e' y => e' = e ∧ (∃ g g', y.1 = ml front b g mid n g') ∧ y.2.1 = h' := by
  obtain ⟨g, g', s', L, hr, hL⟩ := goesM_some hG hcs
  refine Runs.script ((Runs.ev hT hr hL).mono fun e2 y he => ?_)
  obtain ⟨rfl, rfl⟩ := he
  exact ⟨rfl, ⟨g, g', rfl⟩, rfl⟩
theorem compact {m : Mp} {B : Nat} {t t' : List Value} {h h' : Hp} {s : List Dec} {a : Act} {w : World} (R : Rel m B (t, h, s) a w) (f : Nat → Nat) (hl : h'.l.length = h'.n)
    (hb : ∀ i x, h'.blk? i = some x → (∀ v ∈ x.1, still v = true) ∧ ∃ y r, h.blk? (f i) = some y ∧ y.2 = x.2 ∧ y.1 = x.1 ++ r)
    (hi : ∀ i j x y, h'.blk? i = some x → h'.blk? j = some y → ro x.2 = false → ro y.2 = false → f i = f j → i = j)
    (ht : t'.map (mv fun i => m (f i)) = t.map (mv m)) (hw : ∀ v ∈ t', lt h'.n v = true) : Rel (fun i => m (f i)) B (t', h', s) a w := by
  have E := R.emb
  refine ⟨by rw [R.tmps]; simp only; rw [ht], R.dfr, ?_, hw⟩
  refine ⟨hl, ?_, ?_, ?_, ?_, ?_, E.base, E.ice, ?_⟩
  · intro b x hx ht
    obtain ⟨q1, y, r, q2, q3, q4⟩ := hb b x hx
    obtain ⟨r0, z, e1, e2, e3⟩ := E.lies (f b) y q2 (by rw [q3]; exact ht)
    rw [q4, List.map_append, still_map (m' := fun i => m (f i)) q1] at e1 e2
    refine ⟨r.map (mv1 m) ++ r0, z, by rw [← e1]; simp; omega, by rw [e2, List.append_assoc], by rw [← q3]; exact e3⟩
  · intro b x hx hr
    obtain ⟨_, y, r, q2, q3, _⟩ := hb b x hx
    exact E.low (f b) y q2 (by rw [q3]; exact hr)
  · intro b x hx ht hr
    obtain ⟨_, y, r, q2, q3, _⟩ := hb b x hx
    exact E.ros (f b) y q2 (by rw [q3]; exact ht) (by rw [q3]; exact hr)
  · intro b b' x x' hx hx' hr hr' he
    obtain ⟨_, y, r, q2, q3, _⟩ := hb b x hx
    obtain ⟨_, y', r', q2', q3', _⟩ := hb b' x' hx'
    exact hi b b' x x' hx hx' hr hr' (E.inj _ _ y y' q2 q2' (by rw [q3]; exact hr) (by rw [q3']; exact hr') he)
  · intro b x hx v hv
    exact still_lt (Nat.lt_of_le_of_lt (Nat.zero_le _) (Hp.blk_lt hx)) ((hb b x hx).1 v hv)
  · intro b x hx ha
    obtain ⟨q1, y, r, q2, q3, q4⟩ := hb b x hx
    obtain ⟨e1, r0, t0, z, e2⟩ := E.abs (f b) y q2 (by rw [q3]; exact ha)
    rw [q3] at e1 e2
    rw [q4, List.map_append, still_map (m' := fun i => m (f i)) q1] at e2
    exact ⟨e1, r.map (mv1 m) ++ r0, t0, z, by rw [e2, List.append_assoc]⟩
/-- the temporaries that are needed, with their blocks' new numbers; the others as the world has them -/
theorem anew {m : Mp} (f : Nat → Nat) {front front' rest : List Value} (h : front'.map (rn f) = front) : (front' ++ rest.map (fun v => Value.iface dead (mv m v))).map (mv fun i => m (f i)) = (front ++ rest).map (mv m) := by
  rw [List.map_append, List.map_append, ← h, List.map_map, List.map_map]
  congr 1
  · exact List.map_congr_left fun v _ => (mv_rn m f v).symm
/-- the memory made small behind a piece of code -/
theorem RunsW.small {T : Tab} {c : Code} {x : Lf} {P : Ex → Lf → Prop} (hr : RunsW T c x P) {P' : Ex → Lf → Prop}
    (hp : ∀ e y, P e y → P' e y ∨ ∃ (front front' rest : List Value) (h h' : Hp) (s : List Dec) (f : Nat → Nat), y = (front ++ rest, h, s) ∧ front'.map (rn f) = front ∧ h'.l.length = h'.n ∧ 0 < h'.n ∧
      (∀ i x, h'.blk? i = some x → (∀ v ∈ x.1, still v = true) ∧ ∃ y r, h.blk? (f i) = some y ∧ y.2 = x.2 ∧ y.1 = x.1 ++ r) ∧
      (∀ i j x y, h'.blk? i = some x → h'.blk? j = some y → ro x.2 = false → ro y.2 = false → f i = f j → i = j) ∧ (∀ v ∈ front', lt h'.n v = true) ∧ ∀ g, P' e (front' ++ tl rest.length g, h', s)) : RunsW T c x P' := by
  intro m B a w R Q hQ
  refine hr m B a w R Q fun e y he m' a' w' R' hb' => ?_
  rcases hp e y he with h1 | ⟨front, front', rest, h, h', s, f, rfl, e1, e2, e3, e4, e5, e6, e7⟩
  · exact hQ e y h1 m' a' w' R' hb'
  · obtain ⟨g, hg⟩ := tl_of (J := rest.map (fun v => Value.iface dead (mv m' v))) (n := rest.length) (by simp)
    refine hQ e _ (e7 g) _ a' w' (compact R' f e2 e4 e5 (by rw [← hg]; exact anew f e1) ?_) hb'
    intro v hv
    rw [← hg] at hv
    rcases List.mem_append.1 hv with hv | hv
    · exact e6 v hv
    · obtain ⟨u, _, rfl⟩ := List.mem_map.1 hv
      simp [lt, lt2, lt1, e3, dead]
/-- a 'for', its memory made small behind each round -/
theorem RunsW.forLoop {T : Tab} {c : Code} {id : Nat} {x : Lf} {P : Lf → Prop} {R : Lf → Prop} (Inv : Nat → Lf → Prop)
    (round : ∀ n x, Inv n x → RunsW T c x fun e y => match e with | none => ∃ n', n' < n ∧ Inv n' y | some none => R y | some (some id') => id' = id ∧ P y) {n : Nat} (h0 : Inv n x) :
    RunsW T (.block id (.loop c)) x fun e y => match e with | none => P y | some none => R y | some (some _) => False := by
  refine RunsW.block (P1 := fun e y => match e with | none => False | some none => R y | some (some id') => id' = id ∧ P y) ?_ (fun y he => he.elim) (fun y he => he) (fun y he => he.2) (fun id' y hid he => absurd he.1 hid)
  refine RunsW.loop Inv (fun n x hI => (round n x hI).mono fun e y he => ?_) h0
  match e, he with
  | none, he => exact he
  | some none, he => exact he
  | some (some id'), he => exact he
theorem goesT_runsW {T : Tab} (hT : TabOk T) {N : Nat} {c : Code} {t : List Value} {h h' : Hp} {s s0 : List Dec} {k n : Nat} {e : Ex} {front : List Value} {cs : Log} (hG : GoesT (evC T N false c (t, h, s) ⟨[], [], []⟩) k n e front h' cs) (hcs : okLog cs) :
    RunsW T c (t, h, s0) fun e' y => e' = e ∧ (∃ g, y.1 = front ++ tl n g) ∧ y.2.1 = h' := (goesT_runs hT hG hcs).w
theorem tl_len (n : Nat) (g : Nat → Value) : (tl n g).length = n := by simp [tl]
/-- the first blocks of a memory kept, and another one -/
def keepK (k b : Nat) (i : Nat) : Nat := if Nat.blt i k = true then i else b
theorem blkK1 {base : List (List Value × TypeId)} {k : Nat} (hk : base.length = k) {y : List Value × TypeId} {i : Nat} {z : List Value × TypeId} (h : (⟨k + 1, y :: base⟩ : Hp).blk? i = some z) : (i < k ∧ (⟨k, base⟩ : Hp).blk? i = some z) ∨ (i = k ∧ z = y) := by
  have hi : i < k + 1 := Hp.blk_lt h
  by_cases h0 : i = k
  · subst h0
    have : (⟨i + 1, y :: base⟩ : Hp).blk? i = some y := by
      unfold Hp.blk?
      rw [if_pos (blt_iff.2 (by show i < i + 1; omega))]
      show (y :: base)[i + 1 - 1 - i]? = some y
      rw [show i + 1 - 1 - i = 0 from by omega]
      rfl
    rw [this] at h
    exact .inr ⟨rfl, (Option.some.inj h).symm⟩
  · refine .inl ⟨by omega, ?_⟩
    unfold Hp.blk? at h ⊢
    rw [if_pos (blt_iff.2 (by show i < k + 1; omega))] at h
    rw [if_pos (blt_iff.2 (by show i < k; omega))]
    have e : k + 1 - 1 - i = (k - 1 - i) + 1 := by omega
    have h' : (y :: base)[k + 1 - 1 - i]? = some z := h
    rw [e, List.getElem?_cons_succ] at h'
    exact h'
/-- behind a round: the first blocks and one more are kept -/
theorem RunsW.kept {T : Tab} {c : Code} {x0 : Lf} {ex : Ex} {front front' : List Value} {n k b : Nat} {h : Hp} {base : List (List Value × TypeId)} {y : List Value × TypeId} (hr : RunsW T c x0 fun e z => e = ex ∧ (∃ g, z.1 = front ++ tl n g) ∧ z.2.1 = h)
    (hk : base.length = k) (hf : front'.map (rn (keepK k b)) = front) (hx : ∀ i x, (⟨k, base⟩ : Hp).blk? i = some x → h.blk? i = some x ∧ ∀ v ∈ x.1, still v = true) (hy : h.blk? b = some y) (hb : k ≤ b) (sy : ∀ v ∈ y.1, still v = true) (hw : ∀ v ∈ front', lt (k + 1) v = true) :
    RunsW T c x0 fun e z => e = ex ∧ (∃ g, z.1 = front' ++ tl n g) ∧ z.2.1 = ⟨k + 1, y :: base⟩ := by
  refine hr.small fun e z he => .inr ?_
  obtain ⟨rfl, ⟨g, h1⟩, h2⟩ := he
  obtain ⟨t, h', s⟩ := z
  simp only at h1 h2
  subst h1 h2
  refine ⟨front, front', tl n g, h', ⟨k + 1, y :: base⟩, s, keepK k b, rfl, hf, by simp [hk], Nat.succ_pos _, fun i z hz => ?_, fun i j u v hi hj _ _ hij => ?_, hw, fun g' => ⟨rfl, ⟨g', by rw [tl_len]⟩, rfl⟩⟩
  · rcases blkK1 hk hz with ⟨hi, hz'⟩ | ⟨rfl, rfl⟩
    · obtain ⟨q1, q2⟩ := hx i z hz'
      exact ⟨q2, z, [], by unfold keepK; rw [if_pos (blt_iff.2 hi)]; exact q1, rfl, by simp⟩
    · exact ⟨sy, z, [], by unfold keepK; rw [if_neg (by rw [blt_iff]; omega)]; exact hy, rfl, by simp⟩
  · unfold keepK at hij
    rcases blkK1 hk hi with ⟨h1, _⟩ | ⟨rfl, _⟩ <;> rcases blkK1 hk hj with ⟨h2, _⟩ | ⟨rfl, _⟩
    · rw [if_pos (blt_iff.2 h1), if_pos (blt_iff.2 h2)] at hij; exact hij
    · rw [if_pos (blt_iff.2 h1), if_neg (by rw [blt_iff]; omega)] at hij; omega
    · rw [if_pos (blt_iff.2 h2), if_neg (by rw [blt_iff]; omega)] at hij; omega
    · rfl
/-- a call with rows whose answer holds no address, and that keeps no block -/
theorem row_calls0 {T : Tab} {f : Nat} {F : Func} {c : Code} (hF : T.P.funcs[f]? = some F) (hc : F.body = some c) {h0 : Hp} (hr : h0.rows) {vals : List Value} (hvals : ∀ v ∈ vals, lt h0.n v = true) {v : Value} (hv : lt 0 v = true)
    (hrun : RunsW T c (vals ++ List.replicate (F.ntmps - vals.length) undef, h0, []) fun e y => (e = none ∨ e = some none) ∧ resS T.P F y.1 y.2.1 = some v)
    {m : Mp} {B : Nat} {h : Hp} {w : World} (E : Emb m B h w) {s : Nat → Nat} (hf : h0.fits s h) :
    Calls T.P f ((vals.map (rn s)).map (mv m)).toArray w fun e w' => ∃ m', e = .returned (mv m' v) ∧ Came m B h w v h m' w' := by
  have E0 := E.small hr hf
  have ev : (vals.map (rn s)).map (mv m) = vals.map (mv fun i => m (s i)) := by
    rw [List.map_map]
    exact List.map_congr_left fun y _ => mv_rn m s y
  rw [ev]
  refine calls_of_wp hF hc ?_
  have R : Rel (fun i => m (s i)) w.heap.size (vals ++ List.replicate (F.ntmps - vals.length) undef, h0, []) { tmps := (vals.map (mv fun i => m (s i))).toArray ++ Array.replicate (F.ntmps - (vals.map (mv fun i => m (s i))).toArray.size) undef, defers := [] } w := by
    refine ⟨?_, rfl, E0, ?_⟩
    · simp [mv_undef]
    · intro y hy
      rcases List.mem_append.1 hy with hy | hy
      · exact hvals y hy
      · rw [List.eq_of_mem_replicate hy]; simp [undef, lt]
  refine hrun _ _ _ w R _ fun e y he m1 a' w' k2 k3 => ?_
  obtain ⟨hex, hres⟩ := he
  obtain ⟨r1, r2⟩ := resS_run k2.emb k2.wf hres
  rw [← k2.tmps, mv_still hv] at r1
  have td : Tidy w w' := ⟨k3, fun k h1 h2 => k2.emb.ice k h1 h2⟩
  obtain ⟨E', hb⟩ := clean_emb E td
  have post : a'.defers = [] ∧ ∃ v', (results F a'.tmps).run T.P w' = .ok v' w' ∧ ∃ m', Ending.returned v' = .returned (mv m' v) ∧ Came m B h w v h m' w' :=
    ⟨k2.dfr, _, r1, m, by rw [mv_still hv], ⟨Agree.refl _ _, E', hb, Nat.le_refl _, lt_mono (Nat.zero_le _) hv⟩⟩
  rcases hex with rfl | rfl <;> exact post
theorem RunsW.cut {T : Tab} {c : Code} {x0 : Lf} {ex : Ex} {f1 f2 : List Value} {u : Value} {n k N : Nat} {extra base : List (List Value × TypeId)} (hr : RunsW T c x0 fun e z => e = ex ∧ (∃ g, z.1 = (f1 ++ u :: f2) ++ tl n g) ∧ z.2.1 = ⟨N, extra ++ base⟩)
    (hk : base.length = k) (hN : N = extra.length + k) (h0 : 0 < k) (hb : ∀ x ∈ base, ∀ v ∈ x.1, lt1 k v = true) (h1 : ∀ v ∈ f1, lt k v = true) (h2 : ∀ v ∈ f2, lt k v = true) :
    RunsW T c x0 fun e z => e = ex ∧ (∃ g j, z.1 = (f1 ++ j :: f2) ++ tl n g) ∧ z.2.1 = ⟨k, base⟩ := by
  intro m B a w R Q hQ
  refine hr m B a w R Q fun e z he m' a' w' R' hb' => ?_
  obtain ⟨rfl, ⟨g, hz1⟩, hz2⟩ := he
  obtain ⟨t, h, s⟩ := z
  simp only at hz1 hz2
  subst hz1 hz2
  obtain ⟨g', hg'⟩ := tl_of (J := (tl n g).map (fun v => Value.iface dead (mv m' v))) (n := n) (by simp [tl_len])
  refine hQ e ((f1 ++ Value.iface dead (mv m' u) :: f2) ++ tl n g', ⟨k, base⟩, s) ⟨rfl, ⟨g', _, rfl⟩, rfl⟩ m' a' w' ?_ hb'
  have E := R'.emb
  have sub : ∀ i x, (⟨k, base⟩ : Hp).blk? i = some x → (⟨N, extra ++ base⟩ : Hp).blk? i = some x := fun i x hx => by
    rw [blk_base hN (Hp.blk_lt hx)]
    exact hx
  have mem : ∀ i x, (⟨k, base⟩ : Hp).blk? i = some x → x ∈ base := fun i x hx => by
    unfold Hp.blk? at hx
    split at hx
    · exact List.mem_of_getElem? hx
    · cases hx
  have ltd : ∀ v : Value, lt k (Value.iface dead v) = true := fun v => by simp [lt, lt2, lt1, h0]
  have mvd : ∀ v : Value, mv m' (Value.iface dead (mv m' v)) = mv m' v := fun v => by simp [mv, mv2, mv1]
  refine ⟨?_, R'.dfr, ⟨hk, fun b x hx ht => E.lies b x (sub b x hx) ht, fun b x hx hro => E.low b x (sub b x hx) hro, fun b x hx ht hro => E.ros b x (sub b x hx) ht hro, fun b b' x x' hx hx' hro hro' he => E.inj b b' x x' (sub b x hx) (sub b' x' hx') hro hro' he, fun b x hx v hv => hb x (mem b x hx) v hv, E.base, E.ice, fun b x hx ha => E.abs b x (sub b x hx) ha⟩, ?_⟩
  · rw [R'.tmps]
    simp only [List.map_append, List.map_cons, mvd, ← hg', List.map_map]
    congr 2
  · intro v hv
    rcases List.mem_append.1 hv with hv | hv
    · rcases List.mem_append.1 hv with hv | hv
      · exact h1 v hv
      · rcases List.mem_cons.1 hv with rfl | hv
        · exact ltd _
        · exact h2 v hv
    · rw [← hg'] at hv
      obtain ⟨y, _, rfl⟩ := List.mem_map.1 hv
      exact ltd _
/-- a call that keeps one block of its own, whichever it is -/
theorem row_calls2 {T : Tab} {f : Nat} {F : Func} {c : Code} (hF : T.P.funcs[f]? = some F) (hc : F.body = some c) {h0 : Hp} (hr : h0.rows) {vals : List Value} (hvals : ∀ v ∈ vals, lt h0.n v = true) {v : Nat → Value}
    {cs : List Value} {ty : TypeId} (hcs : ∀ u ∈ cs, lt1 0 u = true) (hty : ro ty = false)
    (hrun : RunsW T c (vals ++ List.replicate (F.ntmps - vals.length) undef, h0, []) fun e y => (e = none ∨ e = some none) ∧ ∃ k, resS T.P F y.1 y.2.1 = some (v k) ∧ ∃ r, y.2.1.blk? k = some (cs ++ r, ty))
    (hv0 : ∀ k, oc [k] (v k) = true)
    {m : Mp} {B : Nat} {h : Hp} {w : World} (E : Emb m B h w) {s : Nat → Nat} (hf : h0.fits s h) (hv1 : ∀ k, rn (fun _ => h.n) (v k) = v h.n) :
    Calls T.P f ((vals.map (rn s)).map (mv m)).toArray w fun e w' => ∃ m', e = .returned (mv m' (v h.n)) ∧ Came m B h w (v h.n) (h.push cs ty) m' w' := by
  have E0 := E.small hr hf
  have ev : (vals.map (rn s)).map (mv m) = vals.map (mv fun i => m (s i)) := by
    rw [List.map_map]
    exact List.map_congr_left fun y _ => mv_rn m s y
  rw [ev]
  refine calls_of_wp hF hc ?_
  have R : Rel (fun i => m (s i)) w.heap.size (vals ++ List.replicate (F.ntmps - vals.length) undef, h0, []) { tmps := (vals.map (mv fun i => m (s i))).toArray ++ Array.replicate (F.ntmps - (vals.map (mv fun i => m (s i))).toArray.size) undef, defers := [] } w := by
    refine ⟨?_, rfl, E0, ?_⟩
    · simp [mv_undef]
    · intro y hy
      rcases List.mem_append.1 hy with hy | hy
      · exact hvals y hy
      · rw [List.eq_of_mem_replicate hy]; simp [undef, lt]
  refine hrun _ _ _ w R _ fun e y he m1 a' w' k2 k3 => ?_
  obtain ⟨hex, k, hres, r, hblk⟩ := he
  obtain ⟨r1, r2⟩ := resS_run k2.emb k2.wf hres
  rw [← k2.tmps] at r1
  have td : Tidy w w' := ⟨k3, fun k h1 h2 => k2.emb.ice k h1 h2⟩
  obtain ⟨E', hb⟩ := clean_emb E td
  have hlow : w.heap.size ≤ (m1 k).1 := k2.emb.low k _ hblk hty
  have hlie : lie w' (m1 k) (cs.map (mv1 m)) ty := by
    obtain ⟨r', z, l0, l1, l2⟩ := k2.emb.lies k _ hblk (tomb_ro hty)
    have e : cs.map (mv1 m1) = cs.map (mv1 m) := map_still hcs
    simp only [List.map_append] at l0 l1
    refine ⟨r.map (mv1 m1) ++ r', z, ?_, ?_, l2⟩
    · simp at l0 ⊢; omega
    · rw [← e, l1, List.append_assoc]
  have Ea := E'.adopt cs ty hty (fun u hu => lt1_mono (Nat.zero_le _) (hcs u hu)) hlie (Nat.le_trans E.base hlow) (fun b x hbx hx heq => by
    have := E.here hbx (tomb_ro hx)
    omega)
  have e1 : mv m1 (v k) = mv (upd m h.n (m1 k)) (v h.n) := by
    rw [← hv1 k, mv_rn]
    refine mv_on (fun b hb => ?_) (hv0 k)
    rw [List.mem_singleton.1 hb]
    simp [upd]
  rw [e1] at r1
  have hlt : lt (h.n + 1) (v h.n) = true := by rw [← hv1 k]; exact oc_ren (bs := [k]) (fun b hb => by show h.n < h.n + 1; omega) (hv0 k)
  have post : a'.defers = [] ∧ ∃ v', (results F a'.tmps).run T.P w' = .ok v' w' ∧ ∃ m', Ending.returned v' = .returned (mv m' (v h.n)) ∧ Came m B h w (v h.n) (h.push cs ty) m' w' :=
    ⟨k2.dfr, _, r1, upd m h.n (m1 k), rfl, ⟨upd_agree _ _ _, Ea, hb, Nat.le_succ _, hlt⟩⟩
  rcases hex with rfl | rfl <;> exact post
end Go.KRun
namespace Go.Rd
open Go.Rn
/-- a quotient with more bits is rounded the same -/
theorem dvK_more {m E : Int} {n : Bool} {A B k : Nat} (j : Nat) (h : 54 ≤ bitLen (A * 2 ^ k / B)) : rnP m n (dvK A B k) (E + j) = rnP m n (dvK A B (k + j)) E ∧ rnF m n (dvK A B k) (E + j) = rnF m n (dvK A B (k + j)) E := by
  have r := stk_round (m := m) (neg := n) (A := dvK A B (k + j)) (d := j + 1) (F := E) (.inr (by rw [dvK_div]; exact h))
  rw [dvK_stk, show E + ((j + 1 : Nat) : Int) - 1 = E + (j : Int) by omega] at r
  exact r
/-- any two with bits enough -/
theorem dvK_any {m : Int} {n : Bool} {A B k j : Nat} (h : 54 ≤ bitLen (A * 2 ^ k / B)) (h' : 54 ≤ bitLen (A * 2 ^ j / B)) : rnP m n (dvK A B k) (-(k : Int) - 1) = rnP m n (dvK A B j) (-(j : Int) - 1) ∧ rnF m n (dvK A B k) (-(k : Int) - 1) = rnF m n (dvK A B j) (-(j : Int) - 1) := by
  rcases Nat.le_total k j with hk | hk
  · have r := dvK_more (m := m) (n := n) (E := -(j : Int) - 1) (j - k) h
    rw [show k + (j - k) = j by omega, show -(j : Int) - 1 + ((j - k : Nat) : Int) = -(k : Int) - 1 by omega] at r
    exact r
  · have r := dvK_more (m := m) (n := n) (E := -(k : Int) - 1) (k - j) h'
    rw [show j + (k - j) = k by omega, show -(k : Int) - 1 + ((k - j : Nat) : Int) = -(j : Int) - 1 by omega] at r
    exact ⟨r.1.symm, r.2.symm⟩
theorem upN_bits {A B : Nat} (hA : A ≠ 0) (hB : B ≠ 0) : 80 ≤ bitLen (A * 2 ^ upN A B / B) := by
  refine le_len (k := 79) ?_
  rw [Nat.le_div_iff_mul_le (by omega)]
  exact up_big hA
/-- A / B, rounded: the pattern, the flags -/
def rqP (m : Int) (n : Bool) (A B : Nat) : Int := rnP m n (dvK A B (upN A B)) (-((upN A B : Nat) : Int) - 1)
def rqF (m : Int) (n : Bool) (A B : Nat) : Int := rnF m n (dvK A B (upN A B)) (-((upN A B : Nat) : Int) - 1)
/-- any quotient with bits enough is rounded so -/
theorem rq_any {m : Int} {n : Bool} {A B k : Nat} (hA : A ≠ 0) (hB : B ≠ 0) (h : 54 ≤ bitLen (A * 2 ^ k / B)) : rnP m n (dvK A B k) (-(k : Int) - 1) = rqP m n A B ∧ rnF m n (dvK A B k) (-(k : Int) - 1) = rqF m n A B :=
  dvK_any h (Nat.le_trans (by omega) (upN_bits hA hB))
theorem dvK_scale {A B c : Nat} (hc : 0 < c) (k : Nat) : dvK (A * c) (B * c) k = dvK A B k := by
  unfold dvK
  have e : A * c * 2 ^ k = A * 2 ^ k * c := by rw [Nat.mul_assoc, Nat.mul_comm c, ← Nat.mul_assoc]
  rw [e, Nat.mul_div_mul_right _ _ hc, Nat.mul_mod_mul_right]
  by_cases h : A * 2 ^ k % B = 0
  · rw [if_pos h, if_pos (by rw [h, Nat.zero_mul])]
  · rw [if_neg h, if_neg (fun h' => h ((Nat.mul_eq_zero.1 h').resolve_right (by omega)))]
theorem rqd_scale {m : Int} {n : Bool} {A B c : Nat} (hA : A ≠ 0) (hB : B ≠ 0) (hc : 0 < c) : rqP m n (A * c) (B * c) = rqP m n A B ∧ rqF m n (A * c) (B * c) = rqF m n A B := by
  have hA' : A * c ≠ 0 := fun h => (Nat.mul_eq_zero.1 h).elim hA (by omega)
  have hB' : B * c ≠ 0 := fun h => (Nat.mul_eq_zero.1 h).elim hB (by omega)
  have h := upN_bits hA hB
  have e : A * c * 2 ^ upN A B / (B * c) = A * 2 ^ upN A B / B := by rw [Nat.mul_assoc, Nat.mul_comm c, ← Nat.mul_assoc, Nat.mul_div_mul_right _ _ hc]
  obtain ⟨r1, r2⟩ := rq_any (m := m) (n := n) (k := upN A B) hA' hB' (by rw [e]; omega)
  rw [dvK_scale hc] at r1 r2
  exact ⟨r1.symm, r2.symm⟩
/-- a whole number -/
theorem rq_one (m : Int) (n : Bool) (A : Nat) : rqP m n A 1 = rnP m n A 0 ∧ rqF m n A 1 = rnF m n A 0 := by
  have e : dvK A 1 (upN A 1) = A * 2 ^ (upN A 1 + 1) := by
    unfold dvK
    rw [Nat.div_one, Nat.mod_one, if_pos rfl, Nat.add_zero, Nat.pow_succ, Nat.mul_comm 2, Nat.mul_assoc]
  have p := rnP_scale m n A (upN A 1 + 1) 0
  have f := rnF_scale m n A (upN A 1 + 1) 0
  rw [show (0 : Int) - ((upN A 1 + 1 : Nat) : Int) = -((upN A 1 : Nat) : Int) - 1 by omega] at p f
  unfold rqP rqF
  rw [e]
  exact ⟨p, f⟩
/-- where the highest bit of a quotient is -/
theorem dv_lg {A B k : Nat} (h : A * 2 ^ k / B ≠ 0) : lgN (dvK A B k) (-(k : Int) - 1) = (bitLen (A * 2 ^ k / B) : Int) - 1 - k := by
  have e : bitLen (dvK A B k) = bitLen (A * 2 ^ k / B) + 1 := by
    have h1 := (bitLen_spec (A * 2 ^ k / B)).1
    have h2 := (bitLen_spec (A * 2 ^ k / B)).2 h
    have h3 := len_pos h
    have e1 : 2 ^ bitLen (A * 2 ^ k / B) = 2 ^ (bitLen (A * 2 ^ k / B) - 1) * 2 := by rw [← Nat.pow_succ]; congr 1; omega
    refine len_uniq (k := bitLen (A * 2 ^ k / B)) ?_ ?_
    · unfold dvK; split <;> omega
    · rw [Nat.pow_succ]; unfold dvK; split <;> omega
  unfold lgN
  rw [e]
  omega
/-- too great, whatever its bits are -/
theorem rq_big {m : Int} {n : Bool} {A B J : Nat} (hA : A ≠ 0) (hB : B ≠ 0) (hJ : 1024 ≤ J) (h : B * 2 ^ J ≤ A) : rqP m n A B = bey m n ∧ rqF m n A B = 20 := by
  have hb := upN_bits hA hB
  have hq : A * 2 ^ upN A B / B ≠ 0 := fun h0 => by rw [h0] at hb; exact absurd hb (by decide)
  have hT : dvK A B (upN A B) ≠ 0 := fun h0 => by
    unfold dvK at h0
    omega
  refine big_eq hT ?_
  rw [dv_lg hq]
  have h1 : 2 ^ (J + upN A B) ≤ A * 2 ^ upN A B / B := by
    rw [Nat.le_div_iff_mul_le (by omega), Nat.pow_add, Nat.mul_comm, ← Nat.mul_assoc]
    exact Nat.mul_le_mul_right _ h
  have := le_len h1
  omega
/-- too small, whatever its bits are -/
theorem rq_low {m : Int} {n : Bool} {A B J : Nat} (hA : A ≠ 0) (hB : B ≠ 0) (hJ : 1099 ≤ J) (h : A * 2 ^ J < B) : rqP m n A B = rnP m n 1 (-3000) ∧ rqF m n A B = rnF m n 1 (-3000) := by
  have hb := upN_bits hA hB
  have hq : A * 2 ^ upN A B / B ≠ 0 := fun h0 => by rw [h0] at hb; exact absurd hb (by decide)
  have hT : dvK A B (upN A B) ≠ 0 := fun h0 => by
    unfold dvK at h0
    omega
  have hu : J ≤ upN A B := by
    have h1 : bitLen A + J ≤ bitLen B := by
      have := le_len (T := B) (k := bitLen A - 1 + J) (by
        rw [Nat.pow_add]
        exact Nat.le_of_lt (Nat.lt_of_le_of_lt (Nat.mul_le_mul_right _ ((bitLen_spec A).2 hA)) h))
      have := len_pos hA
      omega
    unfold upN
    omega
  have h1 : A * 2 ^ upN A B / B < 2 ^ (upN A B - J) := by
    rw [Nat.div_lt_iff_lt_mul (by omega)]
    have e : 2 ^ upN A B = 2 ^ J * 2 ^ (upN A B - J) := by rw [← Nat.pow_add]; congr 1; omega
    rw [e, ← Nat.mul_assoc, Nat.mul_comm (2 ^ (upN A B - J))]
    exact Nat.mul_lt_mul_of_pos_right h (Nat.pow_pos (by omega))
  have h2 := len_le h1
  have l1 : bitLen 1 = 1 := len_uniq (k := 0) (by decide) (by decide)
  obtain ⟨a1, a2⟩ := low_eq (m := m) (neg := n) hT (by rw [dv_lg hq]; omega)
  obtain ⟨b1, b2⟩ := low_eq (m := m) (neg := n) (T := 1) (E := -3000) (by decide) (by unfold lgN; rw [l1]; decide)
  exact ⟨a1.trans b1.symm, a2.trans b2.symm⟩
/-! ### decimal -/
theorem ten_two {e J i : Nat} (h1 : 28 * i ≤ e) (h2 : J ≤ 93 * i) : 2 ^ J ≤ 10 ^ e := by
  have h : (2 : Nat) ^ 93 ≤ 10 ^ 28 := by decide
  have h3 : ((2 : Nat) ^ 93) ^ i ≤ (10 ^ 28) ^ i := Nat.pow_le_pow_left h i
  rw [← Nat.pow_mul, ← Nat.pow_mul] at h3
  exact Nat.le_trans (Nat.pow_le_pow_right (by omega) h2) (Nat.le_trans h3 (Nat.pow_le_pow_right (by omega) h1))
/-- A times ten to the power of j, rounded -/
def deP (m : Int) (n : Bool) (A : Nat) (j : Int) : Int := rqP m n (A * 10 ^ j.toNat) (10 ^ (-j).toNat)
def deF (m : Int) (n : Bool) (A : Nat) (j : Int) : Int := rqF m n (A * 10 ^ j.toNat) (10 ^ (-j).toNat)
theorem ten_ne (j : Nat) : 10 ^ j ≠ 0 := fun h => by have := Nat.pow_pos (n := j) (show 0 < 10 by omega); omega
theorem mul_ne {A B : Nat} (hA : A ≠ 0) (hB : B ≠ 0) : A * B ≠ 0 := fun h => (Nat.mul_eq_zero.1 h).elim hA hB
/-- noughts behind, and the point moved -/
theorem de_shift (m : Int) (n : Bool) {A : Nat} (hA : A ≠ 0) (c : Nat) (j : Int) : deP m n (A * 10 ^ c) (j - c) = deP m n A j ∧ deF m n (A * 10 ^ c) (j - c) = deF m n A j := by
  obtain ⟨d, hd⟩ : ∃ d : Nat, (-(j - c)).toNat = (-j).toNat + d ∧ c + (j - c).toNat = j.toNat + d := ⟨(-(j - c)).toNat - (-j).toNat, by omega, by omega⟩
  have e1 : A * 10 ^ c * 10 ^ (j - c).toNat = A * 10 ^ j.toNat * 10 ^ d := by rw [Nat.mul_assoc, ← Nat.pow_add, hd.2, Nat.pow_add, Nat.mul_assoc]
  unfold deP deF
  rw [e1, hd.1, Nat.pow_add]
  exact rqd_scale (mul_ne hA (ten_ne _)) (ten_ne _) (Nat.pow_pos (by omega))
theorem de_big (m : Int) (n : Bool) {A L : Nat} {j : Int} (h : 10 ^ L ≤ A) (hj : 309 ≤ j + (L : Int)) : deP m n A j = bey m n ∧ deF m n A j = 20 := by
  have hA : A ≠ 0 := fun h0 => by rw [h0] at h; exact ten_ne L (Nat.le_zero.1 h)
  obtain ⟨e, he⟩ : ∃ e : Nat, e + (-j).toNat = L + j.toNat ∧ 309 ≤ e := ⟨L + j.toNat - (-j).toNat, by omega, by omega⟩
  obtain ⟨J, hJ⟩ : ∃ J, J = 1023 := ⟨_, rfl⟩
  obtain ⟨E, hE⟩ : ∃ E, E = 308 := ⟨_, rfl⟩
  have h2 : 2 ^ (J + 1) ≤ 10 ^ e := by
    have h3 := ten_two (e := E) (J := J) (i := 11) (by omega) (by omega)
    refine Nat.le_trans ?_ (Nat.pow_le_pow_right (by omega) (show E + 1 ≤ e by omega))
    rw [Nat.pow_succ, Nat.pow_succ]
    omega
  refine rq_big (J := J + 1) (mul_ne hA (ten_ne _)) (ten_ne _) (by omega) ?_
  refine Nat.le_trans (Nat.mul_le_mul_left _ h2) ?_
  rw [← Nat.pow_add, Nat.add_comm, he.1, Nat.pow_add]
  exact Nat.mul_le_mul_right _ h
theorem de_low (m : Int) (n : Bool) {A L : Nat} {j : Int} (hA : A ≠ 0) (h : A < 10 ^ L) (hj : j + (L : Int) ≤ -336) : deP m n A j = rnP m n 1 (-3000) ∧ deF m n A j = rnF m n 1 (-3000) := by
  obtain ⟨e, he⟩ : ∃ e : Nat, L + e = (-j).toNat ∧ 336 ≤ e := ⟨(-j).toNat - L, by omega, by omega⟩
  obtain ⟨J, hJ⟩ : ∃ J, J = 1099 := ⟨_, rfl⟩
  have h2 : 2 ^ J ≤ 10 ^ e := ten_two (i := 12) (by omega) (by omega)
  have hz : j.toNat = 0 := by omega
  unfold deP deF
  rw [hz, Nat.pow_zero, Nat.mul_one]
  refine rq_low (J := J) hA (ten_ne _) (by omega) ?_
  rw [← he.1, Nat.pow_add]
  exact Nat.lt_of_lt_of_le (Nat.mul_lt_mul_of_pos_right h (Nat.pow_pos (by omega))) (Nat.mul_le_mul_left _ h2)
theorem nmB_ge {b : Int} {c : UInt8} {r : List UInt8} (h : 0 < dgvR (lq8 c) b) : b.toNat ^ r.length ≤ nmB b (c :: r) := by
  have key : ∀ (r : List UInt8) (a : Nat), a * b.toNat ^ r.length ≤ r.foldl (fun a c => a * b.toNat + (dgvR (lq8 c) b).toNat) a := by
    intro r
    induction r with
    | nil => intro a; simp
    | cons x r ih =>
      intro a
      rw [List.length_cons, Nat.pow_succ, Nat.mul_comm (b.toNat ^ r.length), ← Nat.mul_assoc, List.foldl_cons]
      exact Nat.le_trans (Nat.mul_le_mul_right _ (Nat.le_add_right _ _)) (ih _)
  unfold nmB
  rw [List.foldl_cons]
  refine Nat.le_trans ?_ (key r _)
  exact Nat.le_mul_of_pos_left _ (by rw [Nat.zero_mul]; omega)
/-- what a decimal text denotes is rounded as A times ten to the power of j -/
theorem dn_de (m : Int) (n : Bool) {c : UInt8} {r : List UInt8} {k P : Int} (h : 0 < dgvR (lq8 c) 10) : rnP m n (dnA 10 (c :: r) k P).1 (dnA 10 (c :: r) k P).2 = deP m n (nmB 10 (c :: r)) (P - k) ∧ rnF m n (dnA 10 (c :: r) k P).1 (dnA 10 (c :: r) k P).2 = deF m n (nmB 10 (c :: r)) (P - k) := by
  have hp := nmB_pos (b := 10) (.inl rfl) (r := r) h
  have hg := nmB_ge (b := 10) (r := r) h
  have hl := nmB_lt (b := 10) (.inl rfl) (c :: r)
  have e10 : (10 : Int).toNat = 10 := rfl
  rw [e10] at hg hl
  have l1 : bitLen 1 = 1 := len_uniq (k := 0) (by decide) (by decide)
  unfold dnA
  rw [if_neg (by decide)]
  split
  · rename_i h1
    rw [List.length_cons] at h1
    obtain ⟨d1, d2⟩ := de_big m n (j := P - k) hg (by omega)
    obtain ⟨b1, b2⟩ := big_eq (m := m) (neg := n) (T := 1) (E := 3000) (by decide) (by unfold lgN; rw [l1]; decide)
    exact ⟨b1.trans d1.symm, b2.trans d2.symm⟩
  split
  · rename_i h1 h2
    obtain ⟨d1, d2⟩ := de_low m n (j := P - k) (by omega) hl (by omega)
    exact ⟨d1.symm, d2.symm⟩
  split
  · rename_i h3
    have hz : (-(P - k)).toNat = 0 := by omega
    obtain ⟨q1, q2⟩ := rq_one m n (nmB 10 (c :: r) * 10 ^ (P - k).toNat)
    unfold deP deF
    rw [hz, Nat.pow_zero]
    exact ⟨q1.symm, q2.symm⟩
  · rename_i h3
    have hz : (P - k).toNat = 0 := by omega
    have e : (-(P - k)).toNat = (k - P).toNat := by omega
    unfold deP deF rqP rqF
    rw [hz, e, Nat.pow_zero, Nat.mul_one]
    exact ⟨rfl, rfl⟩
/-- the low bits cut where the least pattern's half is above them -/
theorem stk_lowR {m : Int} {neg : Bool} {A d : Nat} {F : Int} (hA : A ≠ 0) (h1 : F + d + 1 ≤ -1074) (h2 : lgN A F ≤ -1024) : rnP m neg (stk A d) (F + d - 1) = rnP m neg A F ∧ rnF m neg (stk A d) (F + d - 1) = rnF m neg A F := by
  have hp : 0 < 2 ^ d := Nat.pow_pos (by omega)
  have hdm := Nat.div_add_mod A (2 ^ d)
  have hs : stk A d ≠ 0 := by
    unfold stk
    intro h
    have hq : A / 2 ^ d = 0 := by omega
    rw [hq, Nat.mul_zero, Nat.zero_add] at hdm
    rw [hdm, if_neg hA] at h
    omega
  have hl : lgN (stk A d) (F + d - 1) ≤ -1024 := by
    by_cases hq : A / 2 ^ d = 0
    · have h3 : stk A d < 2 ^ 1 := by unfold stk; rw [hq]; split <;> omega
      have := len_le h3
      unfold lgN
      omega
    · rw [stk_lgN hq]; exact h2
  have l1 : lowE (stk A d) (F + d - 1) = -1074 := by unfold lowE; rw [if_pos (by omega)]
  have l2 : lowE A F = -1074 := by unfold lowE; rw [if_pos (by omega)]
  have e1 : p0 m neg (stk A d) (F + d - 1) = p0 m neg A F := by unfold p0; rw [l1, l2, stk_toQ m neg A d h1]
  have e2 : tiny m neg (stk A d) (F + d - 1) = tiny m neg A F := by
    unfold tiny
    rw [if_neg (by omega), if_neg (by omega), decide_eq_true (show lgN (stk A d) (F + d - 1) < -1022 by omega), decide_eq_true (show lgN A F < -1022 by omega)]
  unfold rnP rnF
  rw [if_neg hs, if_neg hA, if_neg hs, if_neg hA, e1, l1, l2, stk_toL A d h1, e2]
  exact ⟨rfl, rfl⟩
theorem up_low {A B J : Nat} (hA : A ≠ 0) (h : A * 2 ^ J < B) : J + 80 ≤ upN A B := by
  have h1 : bitLen A + J ≤ bitLen B := by
    have := le_len (T := B) (k := bitLen A - 1 + J) (by
      rw [Nat.pow_add]
      exact Nat.le_of_lt (Nat.lt_of_le_of_lt (Nat.mul_le_mul_right _ ((bitLen_spec A).2 hA)) h))
    have := len_pos hA
    omega
  unfold upN
  omega
/-- a small quotient, by as many bits as the least pattern's half asks for -/
theorem rq_lowK {m : Int} {n : Bool} {A B J K : Nat} (hA : A ≠ 0) (hB : B ≠ 0) (hJ : J = 1023) (hK : K = 1075) (h : A * 2 ^ J < B) : rnP m n (dvK A B K) (-(K : Int) - 1) = rqP m n A B ∧ rnF m n (dvK A B K) (-(K : Int) - 1) = rqF m n A B := by
  have hu := up_low hA h
  have hb := upN_bits hA hB
  have hq : A * 2 ^ upN A B / B ≠ 0 := fun h0 => by rw [h0] at hb; exact absurd hb (by decide)
  have hT : dvK A B (upN A B) ≠ 0 := fun h0 => by
    unfold dvK at h0
    omega
  have h1 : A * 2 ^ upN A B / B < 2 ^ (upN A B - J) := by
    rw [Nat.div_lt_iff_lt_mul (by omega)]
    have e : 2 ^ upN A B = 2 ^ J * 2 ^ (upN A B - J) := by rw [← Nat.pow_add]; congr 1; omega
    rw [e, ← Nat.mul_assoc, Nat.mul_comm (2 ^ (upN A B - J))]
    exact Nat.mul_lt_mul_of_pos_right h (Nat.pow_pos (by omega))
  have h2 := len_le h1
  have h3 := dv_lg hq
  obtain ⟨j, hj⟩ : ∃ j, upN A B = K + j := ⟨upN A B - K, by omega⟩
  unfold rqP rqF
  rw [hj] at hT h3 h2 ⊢
  have r := stk_lowR (m := m) (neg := n) (A := dvK A B (K + j)) (d := j + 1) (F := -((K + j : Nat) : Int) - 1) hT (by omega) (by omega)
  rw [dvK_stk, show -((K + j : Nat) : Int) - 1 + ((j + 1 : Nat) : Int) - 1 = -(K : Int) - 1 by omega] at r
  exact r
/-- what lies between two neighbours of so many digits is parted so -/
theorem cut_dv {q C r G k : Nat} (h0 : 0 < r) (h1 : r < C) (hk : k ≤ G) : dvK (q * C + r) (10 ^ G * C) k = 2 * (q * 2 ^ k / 10 ^ G) + 1 := by
  have hC : 0 < C := by omega
  have h2 : 0 < 2 ^ k := Nat.pow_pos (by omega)
  obtain ⟨H, hH⟩ : ∃ H, 10 ^ G = H * 2 ^ k := ⟨2 ^ (G - k) * 5 ^ G, by
    rw [show (10 : Nat) = 2 * 5 from rfl, Nat.mul_pow, Nat.mul_assoc, Nat.mul_comm (5 ^ G), ← Nat.mul_assoc, ← Nat.pow_add, show G - k + k = G by omega]⟩
  have e1 : 10 ^ G * C = C * H * 2 ^ k := by rw [hH, Nat.mul_comm, Nat.mul_assoc]
  have e2 : (q * C + r) / C = q := by rw [Nat.mul_comm, Nat.mul_add_div hC, Nat.div_eq_of_lt h1, Nat.add_zero]
  have e3 : (q * C + r) % C = r := by rw [Nat.mul_comm, Nat.mul_add_mod, Nat.mod_eq_of_lt h1]
  have e4 : (q * C + r) % (C * H) ≠ 0 := fun h => by
    have h3 : C ∣ q * C + r := Nat.dvd_trans ⟨H, rfl⟩ (Nat.dvd_of_mod_eq_zero h)
    have := Nat.mod_eq_zero_of_dvd h3
    omega
  unfold dvK
  rw [e1, Nat.mul_div_mul_right _ _ h2, Nat.mul_mod_mul_right, ← Nat.div_div_eq_div_mul, e2, hH, Nat.mul_div_mul_right _ _ h2, if_neg (fun h => (Nat.mul_eq_zero.1 h).elim e4 (by omega))]
theorem cut_rq {m : Int} {n : Bool} {q C r C' r' G k : Nat} (hr : 0 < r) (hC : r < C) (hr' : 0 < r') (hC' : r' < C') (hk : k ≤ G) (hb : 54 ≤ bitLen (q * 2 ^ k / 10 ^ G)) : rqP m n (q * C + r) (10 ^ G * C) = rqP m n (q * C' + r') (10 ^ G * C') ∧ rqF m n (q * C + r) (10 ^ G * C) = rqF m n (q * C' + r') (10 ^ G * C') := by
  have key : ∀ {C r : Nat}, 0 < r → r < C → rnP m n (2 * (q * 2 ^ k / 10 ^ G) + 1) (-(k : Int) - 1) = rqP m n (q * C + r) (10 ^ G * C) ∧ rnF m n (2 * (q * 2 ^ k / 10 ^ G) + 1) (-(k : Int) - 1) = rqF m n (q * C + r) (10 ^ G * C) := fun {C r} h0 h1 => by
    have e := cut_dv (q := q) (G := G) h0 h1 hk
    have ed : (q * C + r) * 2 ^ k / (10 ^ G * C) = q * 2 ^ k / 10 ^ G := by unfold dvK at e; split at e <;> omega
    have := rq_any (m := m) (n := n) (A := q * C + r) (B := 10 ^ G * C) (k := k) (by omega) (mul_ne (ten_ne _) (by omega)) (by rw [ed]; exact hb)
    rw [e] at this
    exact this
  obtain ⟨a1, a2⟩ := key hr hC
  obtain ⟨b1, b2⟩ := key hr' hC'
  exact ⟨a1.symm.trans b1, a2.symm.trans b2⟩
theorem cut_rqL {m : Int} {n : Bool} {q C r C' r' G J K : Nat} (hr : 0 < r) (hC : r < C) (hr' : 0 < r') (hC' : r' < C') (hJ : J = 1023) (hK : K = 1075) (hk : K ≤ G) (hb : (q + 1) * 2 ^ J ≤ 10 ^ G) : rqP m n (q * C + r) (10 ^ G * C) = rqP m n (q * C' + r') (10 ^ G * C') ∧ rqF m n (q * C + r) (10 ^ G * C) = rqF m n (q * C' + r') (10 ^ G * C') := by
  have key : ∀ {C r : Nat}, 0 < r → r < C → rnP m n (2 * (q * 2 ^ K / 10 ^ G) + 1) (-(K : Int) - 1) = rqP m n (q * C + r) (10 ^ G * C) ∧ rnF m n (2 * (q * 2 ^ K / 10 ^ G) + 1) (-(K : Int) - 1) = rqF m n (q * C + r) (10 ^ G * C) := fun {C r} h0 h1 => by
    have e := cut_dv (q := q) (G := G) h0 h1 hk
    have h3 : (q * C + r) * 2 ^ J < 10 ^ G * C := by
      have h4 : q * C + r < (q + 1) * C := by rw [Nat.add_mul, Nat.one_mul]; omega
      refine Nat.lt_of_lt_of_le (Nat.mul_lt_mul_of_pos_right h4 (Nat.pow_pos (by omega))) ?_
      rw [Nat.mul_right_comm]
      exact Nat.mul_le_mul_right _ hb
    have := rq_lowK (m := m) (n := n) (A := q * C + r) (B := 10 ^ G * C) (by omega) (mul_ne (ten_ne _) (by omega)) hJ hK h3
    rw [e] at this
    exact this
  obtain ⟨a1, a2⟩ := key hr hC
  obtain ⟨b1, b2⟩ := key hr' hC'
  exact ⟨a1.symm.trans b1, a2.symm.trans b2⟩
theorem ten_up {j i : Nat} (h : j ≤ 3 * i) : (10 : Nat) ^ j ≤ 2 ^ (10 * i) := by
  refine Nat.le_trans (Nat.pow_le_pow_right (by omega) h) ?_
  rw [Nat.pow_mul, Nat.pow_mul]
  exact Nat.pow_le_pow_left (by decide) i
/-- eight hundred digits and a bit for the rest are enough -/
theorem cut_text {m : Int} {n : Bool} {q C r C' r' M G : Nat} {a : Int} (hM : M = 799) (hG : (G : Int) = 800 - a) (ha : a ≤ 400) (hq : 10 ^ M ≤ q) (hq' : q < 10 ^ (M + 1)) (hr : 0 < r) (hC : r < C) (hr' : 0 < r') (hC' : r' < C') : rqP m n (q * C + r) (10 ^ G * C) = rqP m n (q * C' + r') (10 ^ G * C') ∧ rqF m n (q * C + r) (10 ^ G * C) = rqF m n (q * C' + r') (10 ^ G * C') := by
  by_cases h1 : 1 ≤ a
  · refine cut_rq (k := 53) hr hC hr' hC' (by omega) (le_len (k := 53) ?_)
    rw [Nat.le_div_iff_mul_le (Nat.pow_pos (by omega)), Nat.mul_comm]
    exact Nat.mul_le_mul_right _ (Nat.le_trans (Nat.pow_le_pow_right (by omega) (by omega)) hq)
  obtain ⟨b, hb⟩ : ∃ b : Nat, a = -(b : Int) := ⟨(-a).toNat, by omega⟩
  have eG : G = M + (b + 1) := by omega
  by_cases h2 : b ≤ 315
  · refine cut_rq (k := 53 + 10 * ((b + 3) / 3)) hr hC hr' hC' (by omega) (le_len (k := 53) ?_)
    rw [Nat.le_div_iff_mul_le (Nat.pow_pos (by omega)), eG, Nat.pow_add, Nat.pow_add 2, Nat.mul_left_comm, Nat.mul_left_comm q]
    rw [Nat.mul_left_comm]
    refine Nat.mul_le_mul_left _ (Nat.mul_le_mul hq ?_)
    exact ten_up (by omega)
  · obtain ⟨J, hJ⟩ : ∃ J, J = 1023 := ⟨_, rfl⟩
    obtain ⟨K, hK⟩ : ∃ K, K = 1075 := ⟨_, rfl⟩
    refine cut_rqL (J := J) (K := K) hr hC hr' hC' hJ hK (by omega) ?_
    rw [show G = (M + 1) + b by omega, Nat.pow_add]
    exact Nat.mul_le_mul hq' (ten_two (i := 11) (by omega) (by omega))
end Go.Rd
