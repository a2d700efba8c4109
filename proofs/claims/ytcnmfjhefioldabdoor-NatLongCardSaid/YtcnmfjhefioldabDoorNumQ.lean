/-
  PLAIN ARITHMETIC: words moved up.
-/
import Derived.Test.YtcnmfjhefioldabDoorNumP
namespace Go.Nt

theorem dg_mod : ∀ (m : Nat) (V c : Int), dg m (V + 4294967296 ^ m * c) = dg m V
  | 0, _, _ => rfl
  | m + 1, V, c => by
    simp only [dg]
    rw [pw, Int.mul_assoc]
    generalize hZ : (4294967296 : Int) ^ m * c = Z
    have e1 : (V + 4294967296 * Z) % 4294967296 = V % 4294967296 := by omega
    have e2 : (V + 4294967296 * Z) / 4294967296 = V / 4294967296 + Z := by omega
    rw [e1, e2, ← hZ, dg_mod m]
/-- the two powers of a move by less than a word -/
theorem two_parts {k : Nat} (h : k ≤ 32) : (2 : Int) ^ k * 2 ^ (32 - k) = 4294967296 := by
  rw [← Int.pow_add, show k + (32 - k) = 32 from by omega]
  rfl
theorem or_add {k : Nat} {z y : Int} (z0 : 0 ≤ z) (y0 : 0 ≤ y) (y1 : y < 2 ^ k) (hs : 2 ^ k * z + y < 4294967296) : (((BitVec.ofInt 32 (2 ^ k * z) ||| BitVec.ofInt 32 y).toNat : Nat) : Int) = 2 ^ k * z + y := by
  obtain ⟨Z, rfl⟩ := Int.eq_ofNat_of_zero_le z0
  obtain ⟨Y, rfl⟩ := Int.eq_ofNat_of_zero_le y0
  have ex : (2 : Int) ^ k * (Z : Nat) = ((2 ^ k * Z : Nat) : Int) := by simp
  have hY : Y < 2 ^ k := by
    have : ((Y : Nat) : Int) < ((2 ^ k : Nat) : Int) := by simpa using y1
    exact Int.ofNat_lt.1 this
  rw [ex] at hs ⊢
  have hX : 2 ^ k * Z + Y < 4294967296 := by omega
  have e1 : ∀ m : Nat, m < 4294967296 → (BitVec.ofInt 32 (m : Int)).toNat = m := fun m hm => by
    simp
    omega
  rw [BitVec.toNat_or, e1 _ (by omega), e1 _ (by omega), ← Nat.two_pow_add_eq_or_of_lt hY]
  omega
/-- one word moved up -/
theorem up_word {x l q r : Int} (hq : 1 ≤ q) (hr : 1 ≤ r) (hqr : q * r = 4294967296) (hx : 0 ≤ x ∧ x < 4294967296) (hl : 0 ≤ l ∧ l < q) :
    x * q = 4294967296 * (x / r) + q * (x % r) ∧ 0 ≤ q * (x % r) ∧ q * (x % r) + l < 4294967296 ∧ 0 ≤ x / r ∧ x / r < q := by
  have h1 := Int.mul_ediv_add_emod x r
  have h2 := Int.emod_nonneg x (show r ≠ 0 by omega)
  have h3 := Int.emod_lt_of_pos x (show 0 < r by omega)
  have h4 : 0 ≤ x / r := Int.ediv_nonneg hx.1 (by omega)
  generalize x / r = hi at *
  generalize x % r = lo at *
  have e1 : x * q = 4294967296 * hi + q * lo := by
    rw [← h1, ← hqr, Int.add_mul, Int.mul_assoc q r hi, Int.mul_comm (r * hi) q, Int.mul_comm lo q]
  have e2 : q * lo + q ≤ 4294967296 := by
    have := Int.mul_le_mul_of_nonneg_left (show lo + 1 ≤ r by omega) (show 0 ≤ q by omega)
    rw [Int.mul_add, Int.mul_one, hqr] at this
    exact this
  refine ⟨e1, Int.mul_nonneg (by omega) h2, by omega, h4, ?_⟩
  rcases Int.lt_or_le hi q with h | h
  · exact h
  · exfalso
    have := Int.mul_le_mul_of_nonneg_left h (show 0 ≤ r by omega)
    rw [Int.mul_comm r q, hqr] at this
    omega
/-- one word more of a number moved up -/
theorem up_step {P a b q x l d e A : Int} (he : x * q + l = d + 4294967296 * e) (h : a + P * ((x + 4294967296 * A) * q + l) = b) : a + P * d + 4294967296 * P * (A * q + e) = b := by
  rw [← h]
  have e1 : (x + 4294967296 * A) * q + l = d + 4294967296 * (A * q + e) := by
    rw [Int.add_mul, Int.mul_assoc]
    omega
  rw [e1]
  generalize A * q + e = Z
  rw [Int.mul_add P d, ← Int.mul_assoc P 4294967296 Z, Int.mul_comm P 4294967296]
  omega
end Go.Nt
