/-
  PLAIN ARITHMETIC: square roots of whole numbers; the steps that go down to one.
-/
namespace Go.Wd

theorem sq_nonneg' (x : Int) : 0 ≤ x * x := by
  rcases Int.le_total 0 x with h | h
  · exact Int.mul_nonneg h h
  · exact Int.mul_nonneg_of_nonpos_of_nonpos h h
theorem four_le (x z : Int) : 4 * (x * z) ≤ (x + z) * (x + z) := by
  have h := sq_nonneg' (x - z)
  rw [Int.sub_mul, Int.mul_sub, Int.mul_sub, Int.mul_comm z x] at h
  rw [Int.add_mul, Int.mul_add, Int.mul_add, Int.mul_comm z x]
  omega
theorem sq_mono {x y : Int} (h0 : 0 ≤ x) (h : x ≤ y) : x * x ≤ y * y := Int.mul_le_mul h h h0 (by omega)
theorem sq_dbl (x : Int) : 2 * x * (2 * x) = 4 * (x * x) := by
  rw [Int.mul_assoc, Int.mul_left_comm x 2 x]
  omega
theorem sq_suc (x : Int) : (x + 1) * (x + 1) = x * x + 2 * x + 1 := by
  rw [Int.add_mul, Int.mul_add]
  omega
/-- a step is never below the root -/
theorem mid_up {x a : Int} (hx : 1 ≤ x) (ha : 0 ≤ a) : a < ((x + a / x) / 2 + 1) * ((x + a / x) / 2 + 1) := by
  have y0 : 0 ≤ a / x := Int.ediv_nonneg ha (by omega)
  have e := Int.mul_ediv_add_emod a x
  have l := Int.emod_lt_of_pos a (show 0 < x by omega)
  have f := four_le x (a / x + 1)
  have s := sq_mono (x := x + (a / x + 1)) (y := 2 * ((x + a / x) / 2 + 1)) (by omega) (by omega)
  rw [sq_dbl] at s
  rw [Int.mul_add, Int.mul_one] at f
  omega
theorem mid_lim {x a : Int} (hx : 1 ≤ x) (h : a < (x + 1) * (x + 1)) : a / x < x + 3 := by
  apply Int.ediv_lt_of_lt_mul (by omega)
  rw [sq_suc] at h
  rw [Int.add_mul]
  omega
theorem mid_one {x a : Int} (hx : 1 ≤ x) (ha : 1 ≤ a) : 1 ≤ (x + a / x) / 2 := by
  have y0 : 0 ≤ a / x := Int.ediv_nonneg (by omega) (by omega)
  by_cases h : x = 1
  · subst h
    rw [Int.ediv_one]
    omega
  · omega
/-- a step that does not go down: the root is reached -/
theorem mid_end {x a : Int} (hx : 1 ≤ x) (h : x ≤ (x + a / x) / 2) : x * x ≤ a := by
  have e := Int.mul_ediv_add_emod a x
  have l := Int.emod_nonneg a (show x ≠ 0 by omega)
  have m : x * x ≤ x * (a / x) := Int.mul_le_mul_of_nonneg_left (by omega) (by omega)
  omega
def isq : Nat → Nat
  | 0 => 0
  | n + 1 => if (isq n + 1) * (isq n + 1) ≤ n + 1 then isq n + 1 else isq n
theorem isq_spec (n : Nat) : isq n * isq n ≤ n ∧ n < (isq n + 1) * (isq n + 1) := by
  induction n with
  | zero => simp [isq]
  | succ n ih =>
    unfold isq
    split
    · rename_i h
      refine ⟨h, ?_⟩
      have e : (isq n + 1 + 1) * (isq n + 1 + 1) = (isq n + 1) * (isq n + 1) + 2 * (isq n + 1) + 1 := by
        rw [Nat.add_mul (isq n + 1) 1, Nat.mul_add (isq n + 1)]
        omega
      omega
    · omega
theorem isq_one {n : Nat} {x : Int} (h0 : 0 ≤ x) (h1 : x * x ≤ n) (h2 : (n : Int) < (x + 1) * (x + 1)) : x = (isq n : Nat) := by
  obtain ⟨s1, s2⟩ := isq_spec n
  have s1 : ((isq n : Nat) : Int) * (isq n : Nat) ≤ n := by exact_mod_cast s1
  have s2 : (n : Int) < ((isq n : Nat) + 1) * ((isq n : Nat) + 1) := by exact_mod_cast s2
  rcases Int.lt_trichotomy x (isq n : Nat) with h | h | h
  · have := sq_mono (x := x + 1) (y := (isq n : Nat)) (by omega) (by omega)
    omega
  · exact h
  · have := sq_mono (x := ((isq n : Nat) : Int) + 1) (y := x) (by omega) (by omega)
    omega
end Go.Wd
