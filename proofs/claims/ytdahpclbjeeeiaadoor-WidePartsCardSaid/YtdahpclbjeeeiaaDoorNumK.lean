/-
  PLAIN ARITHMETIC: a digit of a quotient, guessed by the highest words alone, is never too small, and too great by 2 at most. No program is named here.
-/
import Derived.Test.YtdahpclbjeeeiaaDoorNum2
namespace Go.Wd

/-- B: the base; D = dt R + d0 the divisor, dt its highest word; P = N R + p0 what is divided, N its two highest words -/
theorem guess_low {B R dt d0 N p0 : Int} (hR : 0 < R) (hd : 0 < dt) (h0 : 0 ≤ d0) (hp : p0 < R) (hq0 : 0 ≤ (N * R + p0) / (dt * R + d0)) (hP : N * R + p0 < B * (dt * R + d0)) :
    (N * R + p0) / (dt * R + d0) ≤ N / dt ∧ (N * R + p0) / (dt * R + d0) ≤ B - 1 := by
  have hD : 0 < dt * R + d0 := by have := Int.mul_pos hd hR; omega
  have e := Int.mul_ediv_add_emod (N * R + p0) (dt * R + d0)
  have m := Int.emod_nonneg (N * R + p0) (show dt * R + d0 ≠ 0 by omega)
  generalize hq : (N * R + p0) / (dt * R + d0) = q at *
  refine ⟨?_, ?_⟩
  · refine Int.le_ediv_of_mul_le hd ?_
    have h1 : q * dt * R ≤ N * R + p0 := by
      have : (dt * R + d0) * q = q * dt * R + d0 * q := by rw [Int.add_mul, Int.mul_right_comm, Int.mul_comm dt q]
      have h2 : 0 ≤ d0 * q := Int.mul_nonneg h0 hq0
      omega
    have h3 : q * dt * R < (N + 1) * R := by rw [Int.add_mul]; omega
    have := Int.lt_of_mul_lt_mul_right h3 (Int.le_of_lt hR)
    omega
  · have h1 : q * (dt * R + d0) < B * (dt * R + d0) := by rw [Int.mul_comm q]; omega
    have := Int.lt_of_mul_lt_mul_right h1 (Int.le_of_lt hD)
    omega
theorem guess_high {B R dt d0 N p0 g : Int} (hR : 0 < R) (hd : 0 < dt) (hB : B ≤ 2 * dt) (h1 : d0 < R) (hp0 : 0 ≤ p0) (hP : N * R + p0 < B * (dt * R + d0)) (h0 : 0 ≤ d0) (hg : g ≤ N / dt) :
    g ≤ (N * R + p0) / (dt * R + d0) + 2 := by
  have hD : 0 < dt * R + d0 := by have := Int.mul_pos hd hR; omega
  have e := Int.lt_mul_ediv_self_add hD (x := N * R + p0)
  have hqB : (N * R + p0) / (dt * R + d0) < B := Int.ediv_lt_of_lt_mul hD hP
  generalize (N * R + p0) / (dt * R + d0) = q at *
  have a1 : g * dt ≤ N := Int.le_trans (Int.mul_le_mul_of_nonneg_right hg (Int.le_of_lt hd)) (Int.ediv_mul_le N (by omega))
  have a2 : g * dt * R ≤ N * R := Int.mul_le_mul_of_nonneg_right a1 (Int.le_of_lt hR)
  rcases Int.lt_or_le g (q + 3) with hc | hc
  · omega
  · exfalso
    by_cases hq : 0 ≤ q + 1
    · have a3 : (dt * R + d0) * (q + 1) ≤ (dt * R + R) * (q + 1) := Int.mul_le_mul_of_nonneg_right (by omega) hq
      have a4 : (dt * R + d0) * q + (dt * R + d0) = (dt * R + d0) * (q + 1) := by rw [Int.mul_add, Int.mul_one]
      have a5 : (dt * R + R) * (q + 1) = (dt + 1) * (q + 1) * R := by rw [show dt * R + R = (dt + 1) * R from by rw [Int.add_mul, Int.one_mul], Int.mul_right_comm]
      have a6 : g * dt * R < (dt + 1) * (q + 1) * R := by omega
      have a7 := Int.lt_of_mul_lt_mul_right a6 (Int.le_of_lt hR)
      have a8 : (q + 3) * dt ≤ g * dt := Int.mul_le_mul_of_nonneg_right hc (Int.le_of_lt hd)
      have a9 : (q + 3) * dt = q * dt + 3 * dt := Int.add_mul ..
      have b1 : (dt + 1) * (q + 1) = q * dt + dt + q + 1 := by rw [Int.add_mul, Int.mul_add, Int.mul_comm dt q]; omega
      omega
    · have c1 : g * dt * R + p0 < (dt * R + d0) * (q + 1) := by
        have a4 : (dt * R + d0) * q + (dt * R + d0) = (dt * R + d0) * (q + 1) := by rw [Int.mul_add, Int.mul_one]
        omega
      have c2 : (q + 3) * dt ≤ g * dt := Int.mul_le_mul_of_nonneg_right hc (Int.le_of_lt hd)
      have c3 : (q + 3) * dt * R ≤ g * dt * R := Int.mul_le_mul_of_nonneg_right c2 (Int.le_of_lt hR)
      have c4 : (dt * R + d0) * (q + 1) ≤ dt * R * (q + 1) := by
        rw [Int.add_mul]
        have : d0 * (q + 1) ≤ 0 := Int.mul_nonpos_of_nonneg_of_nonpos h0 (by omega)
        omega
      have c5 : (q + 3) * dt * R = dt * R * (q + 1) + 2 * (dt * R) := by
        rw [Int.mul_assoc, Int.mul_comm (q + 3), show q + 3 = (q + 1) + 2 from by omega, Int.mul_add, Int.mul_comm (dt * R) 2]
      have c6 := Int.mul_pos hd hR
      omega
end Go.Wd
