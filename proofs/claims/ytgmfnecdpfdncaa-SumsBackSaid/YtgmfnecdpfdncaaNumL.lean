/-
  PLAIN ARITHMETIC: how many bits a number has; of digits to the base 65536.
-/
import Derived.Test.YtgmfnecdpfdncaaNumW
namespace Go.Nt

/-- how many bits -/
def bl (V : Nat) : Nat := if _h : V = 0 then 0 else bl (V / 2) + 1
  termination_by V
  decreasing_by omega
theorem bl_zero : bl 0 = 0 := by rw [bl]; simp
theorem bl_pos {V : Nat} (h : V ≠ 0) : bl V = bl (V / 2) + 1 := by rw [bl]; rw [dif_neg h]
theorem bl_lt (V : Nat) : V < 2 ^ bl V := by
  induction V using Nat.strongRecOn with
  | ind V ih =>
    by_cases h : V = 0
    · subst h; rw [bl_zero]; decide
    · rw [bl_pos h, Nat.pow_succ]
      have := ih (V / 2) (by omega)
      omega
theorem bl_le {V : Nat} (h : V ≠ 0) : 2 ^ (bl V - 1) ≤ V := by
  induction V using Nat.strongRecOn with
  | ind V ih =>
    rw [bl_pos h, Nat.add_sub_cancel]
    by_cases h2 : V / 2 = 0
    · rw [h2, bl_zero]; omega
    · have i := ih (V / 2) (by omega) h2
      have e : bl (V / 2) = (bl (V / 2) - 1) + 1 := by
        have := bl_pos h2
        omega
      rw [e, Nat.pow_succ]
      omega
theorem bl_uniq {V k : Nat} (h0 : 2 ^ k ≤ V) (h1 : V < 2 ^ (k + 1)) : bl V = k + 1 := by
  have hp : 0 < 2 ^ k := Nat.pow_pos (by omega)
  have hV : V ≠ 0 := by omega
  have a1 := bl_lt V
  have a2 := bl_le hV
  have a3 : bl V ≠ 0 := by have := bl_pos hV; omega
  rcases Nat.lt_or_ge (bl V) (k + 1) with h | h
  · have := Nat.pow_le_pow_right (show 0 < 2 by omega) (show bl V ≤ k by omega)
    omega
  · rcases Nat.lt_or_ge (k + 1) (bl V) with h' | h'
    · have := Nat.pow_le_pow_right (show 0 < 2 by omega) (show k + 1 ≤ bl V - 1 by omega)
      omega
    · omega
theorem bl_le_of {V k : Nat} (h : V < 2 ^ k) : bl V ≤ k := by
  by_cases hV : V = 0
  · subst hV; rw [bl_zero]; omega
  · have a := bl_le hV
    rcases Nat.lt_or_ge k (bl V) with h' | h'
    · have := Nat.pow_le_pow_right (show 0 < 2 by omega) (show k ≤ bl V - 1 by omega)
      omega
    · exact h'
theorem pow16 (k : Nat) : 65536 ^ k = 2 ^ (16 * k) := by rw [show (65536 : Nat) = 2 ^ 16 from rfl, ← Nat.pow_mul]
/-- the bits of a number by its highest part -/
theorem bl_top {t lo k : Nat} (ht : t ≠ 0) (hlo : lo < 65536 ^ k) : bl (lo + 65536 ^ k * t) = 16 * k + bl t := by
  have a1 := bl_lt t
  have a2 := bl_le ht
  have a3 : bl t ≠ 0 := by have := bl_pos ht; omega
  rw [pow16] at *
  have e : 16 * k + bl t = (16 * k + (bl t - 1)) + 1 := by omega
  rw [e]
  refine bl_uniq ?_ ?_
  · rw [Nat.pow_add]
    have := Nat.mul_le_mul_left (2 ^ (16 * k)) a2
    omega
  · rw [Nat.add_assoc, show bl t - 1 + 1 = bl t by omega, Nat.pow_add]
    have := Nat.mul_le_mul_left (2 ^ (16 * k)) (show t + 1 ≤ 2 ^ bl t by omega)
    rw [Nat.mul_add, Nat.mul_one] at this
    omega
end Go.Nt
