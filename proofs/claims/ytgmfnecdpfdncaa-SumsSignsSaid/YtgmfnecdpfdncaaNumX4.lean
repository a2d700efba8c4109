/-
  PLAIN ARITHMETIC: words moved, told by one number; what is beyond a multiple, bit by bit.
-/
import Derived.Test.YtgmfnecdpfdncaaNum2
import Derived.Test.YtgmfnecdpfdncaaNumY
namespace Go.Wd
open Go.Rn

/-- a number of four words, as a whole number -/
def W4.nat (x : W4) : Nat := x.val.toNat
theorem W4.nat_val {x : W4} (h : x.ok) : x.val = (x.nat : Int) := by
  have := (W4.val_bd h).1
  unfold W4.nat
  omega
theorem W4.nat_lt {x : W4} (h : x.ok) : x.nat < 2 ^ 256 := by
  have := W4.val_bd h
  have e : (2 : Nat) ^ 256 = 115792089237316195423570985008687907853269984665640564039457584007913129639936 := rfl
  unfold W4.nat
  omega
def ofN (n : Nat) : W4 := W4.of (n : Int)
theorem ofN_ok (n : Nat) : (ofN n).ok := W4.ok_of _
theorem ofN_nat {n : Nat} (h : n < 2 ^ 256) : (ofN n).nat = n := by
  have e : (2 : Nat) ^ 256 = 115792089237316195423570985008687907853269984665640564039457584007913129639936 := rfl
  unfold W4.nat ofN
  rw [W4.val_of]
  omega
theorem ofN_self {x : W4} (h : x.ok) : ofN x.nat = x := by
  unfold ofN
  rw [← W4.nat_val h, W4.of_val h]
theorem of_mod (n : Int) : W4.of (n % 115792089237316195423570985008687907853269984665640564039457584007913129639936) = W4.of n := by
  unfold W4.of
  refine W4.ext' ?_ ?_ ?_ ?_ <;> dsimp only <;> omega
theorem ofN_mod (n : Nat) : ofN (n % 2 ^ 256) = ofN n := by
  have e : (2 : Nat) ^ 256 = 115792089237316195423570985008687907853269984665640564039457584007913129639936 := rfl
  unfold ofN
  rw [← of_mod (n : Int), e]
  congr 1
theorem ofN_zero : ofN 0 = ⟨0, 0, 0, 0⟩ := by rfl
theorem ofN_big {n k : Nat} (h : 256 ≤ k) : ofN (n * 2 ^ k) = ⟨0, 0, 0, 0⟩ := by
  rw [← ofN_mod]
  have : n * 2 ^ k % 2 ^ 256 = 0 := by
    obtain ⟨j, rfl⟩ : ∃ j, k = j + 256 := ⟨k - 256, by omega⟩
    rw [Nat.pow_add, ← Nat.mul_assoc, Nat.mul_mod_left]
  rw [this, ofN_zero]
theorem ofN_mul_mod (n k : Nat) : ofN (n % 2 ^ 256 * k) = ofN (n * k) := by
  rw [← ofN_mod (n % 2 ^ 256 * k), ← ofN_mod (n * k), Nat.mod_mul_mod]
theorem small_div {n k : Nat} (h : n < 2 ^ 256) (hk : 256 ≤ k) : n / 2 ^ k = 0 := by
  have := Nat.pow_le_pow_right (show 0 < 2 by omega) hk
  exact Nat.div_eq_of_lt (by omega)
theorem small_mod {n k : Nat} (h : n < 2 ^ 256) (hk : 256 ≤ k) : n % 2 ^ k = n := by
  have := Nat.pow_le_pow_right (show 0 < 2 by omega) hk
  exact Nat.mod_eq_of_lt (by omega)
theorem cast_pow (k : Nat) : ((2 : Int) ^ k) = ((2 ^ k : Nat) : Int) := by simp
/-- the size: a half more, if so -/
def tw (x : W4) (b : Bool) : Nat := 2 * x.nat + (match b with | true => 1 | false => 0)
theorem tw_div (x : W4) (b : Bool) (d : Nat) : tw x b / 2 ^ (d + 1) = x.nat / 2 ^ d := by
  unfold tw
  rw [Nat.pow_succ, Nat.mul_comm (2 ^ d) 2, ← Nat.div_div_eq_div_mul]
  congr 1
  cases b <;> simp only <;> omega
theorem tw_mod (x : W4) (b : Bool) (d : Nat) : tw x b % 2 ^ (d + 1) = 2 * (x.nat % 2 ^ d) + (match b with | true => 1 | false => 0) := by
  unfold tw
  rw [Nat.pow_succ, Nat.mul_comm (2 ^ d) 2, Nat.mod_mul]
  have e : (2 * x.nat + (match b with | true => 1 | false => 0)) / 2 = x.nat := by cases b <;> simp only <;> omega
  rw [e]
  cases b <;> simp only <;> omega
theorem tw_zero {x : W4} {b : Bool} (h : x.ok) : tw x b = 0 ↔ (eqW x ⟨0, 0, 0, 0⟩ && !b) = true := by
  have e : x.nat = 0 ↔ x = ⟨0, 0, 0, 0⟩ := by
    constructor
    · intro h0
      rw [← ofN_self h, h0, ofN_zero]
    · intro h0; rw [h0]; rfl
  rw [Bool.and_eq_true, eqW_iff, ← e]
  unfold tw
  cases b <;> simp <;> omega
/-- what is beyond, by bits: d: one bit fewer than the multiple has -/
theorem rc_none {x : W4} {d : Nat} (h : x.nat % 2 ^ d = 0) : restC (tw x false % 2 ^ (d + 1)) (2 ^ (d + 1)) = 0 := by
  rw [tw_mod, h]
  simp [restC]
theorem rc_zero {x : W4} : restC (tw x true % 2 ^ (0 + 1)) (2 ^ (0 + 1)) = 2 := by
  rw [tw_mod]
  simp [restC, Nat.mod_one]
theorem mod_bit (V j : Nat) : V % 2 ^ (j + 1) = V % 2 ^ j + 2 ^ j * (V / 2 ^ j % 2) := by rw [Nat.pow_succ, Nat.mod_mul]
theorem rc_below {x : W4} {b : Bool} {j : Nat} (h : x.nat / 2 ^ j % 2 = 0) (h0 : x.nat % 2 ^ (j + 1) ≠ 0 ∨ b = true) : restC (tw x b % 2 ^ (j + 1 + 1)) (2 ^ (j + 1 + 1)) = 1 := by
  have hp : 0 < 2 ^ j := Nat.pow_pos (by omega)
  have hm := mod_bit x.nat j
  rw [h, Nat.mul_zero, Nat.add_zero] at hm
  have hl := Nat.mod_lt x.nat hp
  rw [hm] at h0
  rw [tw_mod, hm, Nat.pow_succ, Nat.pow_succ]
  unfold restC
  cases b
  · simp only [Bool.false_eq_true, or_false] at *
    rw [if_neg (by omega), if_pos (by omega)]
  · simp only
    rw [if_neg (by omega), if_pos (by omega)]
theorem rc_above {x : W4} {b : Bool} {j : Nat} (h : x.nat / 2 ^ j % 2 = 1) (h0 : x.nat % 2 ^ j ≠ 0 ∨ b = true) : restC (tw x b % 2 ^ (j + 1 + 1)) (2 ^ (j + 1 + 1)) = 3 := by
  have hp : 0 < 2 ^ j := Nat.pow_pos (by omega)
  have hm := mod_bit x.nat j
  rw [h, Nat.mul_one] at hm
  rw [tw_mod, hm, Nat.pow_succ, Nat.pow_succ]
  unfold restC
  cases b
  · simp only [Bool.false_eq_true, or_false] at *
    rw [if_neg (by omega), if_neg (by omega), if_neg (by omega)]
  · simp only
    rw [if_neg (by omega), if_neg (by omega), if_neg (by omega)]
theorem rc_half {x : W4} {j : Nat} (h : x.nat / 2 ^ j % 2 = 1) (h0 : x.nat % 2 ^ j = 0) : restC (tw x false % 2 ^ (j + 1 + 1)) (2 ^ (j + 1 + 1)) = 2 := by
  have hp : 0 < 2 ^ j := Nat.pow_pos (by omega)
  have hm := mod_bit x.nat j
  rw [h, h0, Nat.mul_one] at hm
  rw [tw_mod, hm, Nat.pow_succ, Nat.pow_succ]
  unfold restC
  simp only
  rw [if_neg (by omega), if_neg (by omega), if_pos (by omega)]
/-- all below the first bit is nothing: then the number is told by what is above it -/
theorem back_iff {x : W4} (hx : x.ok) {j : Nat} (h : x.nat / 2 ^ j % 2 = 1) : eqW x (ofN ((2 * (x.nat / 2 ^ (j + 1)) + 1) * 2 ^ j)) = decide (x.nat % 2 ^ j = 0) := by
  have hl := W4.nat_lt hx
  have hm := mod_bit x.nat j
  rw [h, Nat.mul_one] at hm
  have hd := Nat.div_add_mod x.nat (2 ^ (j + 1))
  have e : (2 * (x.nat / 2 ^ (j + 1)) + 1) * 2 ^ j = x.nat - x.nat % 2 ^ j := by
    rw [Nat.pow_succ] at hd hm ⊢
    rw [Nat.add_mul, Nat.one_mul, Nat.mul_comm 2, Nat.mul_assoc, Nat.mul_comm 2, Nat.mul_comm]
    omega
  rw [e, Bool.eq_iff_iff, eqW_iff, decide_eq_true_eq]
  have hle : x.nat % 2 ^ j ≤ x.nat := Nat.mod_le _ _
  constructor
  · intro hh
    have := congrArg W4.nat hh
    rw [ofN_nat (by omega)] at this
    omega
  · intro hh
    rw [hh, Nat.sub_zero, ofN_self hx]
end Go.Wd
