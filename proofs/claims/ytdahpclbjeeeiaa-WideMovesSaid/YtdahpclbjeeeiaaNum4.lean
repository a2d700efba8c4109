/-
  PLAIN ARITHMETIC: lists of bits moved up and down. No program is named here.
-/
import Derived.Test.YtdahpclbjeeeiaaNum3
namespace Go.Wd

theorem valB_zeros : ∀ n : Nat, valB (List.replicate n 0) = 0
  | 0 => rfl
  | n + 1 => by simp only [List.replicate_succ, valB, valB_zeros n]; omega
theorem zeros01 (n : Nat) : bits01 (List.replicate n 0) := fun _ hd => .inl (List.eq_of_mem_replicate hd)
theorem app01 {l m : List Int} (hl : bits01 l) (hm : bits01 m) : bits01 (l ++ m) := fun d hd => by
  rcases List.mem_append.1 hd with h | h
  · exact hl d h
  · exact hm d h
theorem bitL_take {j n : Nat} (h : j ≤ n) (v : Int) : (bitL n v).take j = bitL j v := by
  unfold bitL
  rw [← List.map_take, List.take_range, Nat.min_eq_left h]
theorem pow_parts {j n : Nat} (h : j ≤ n) : (2 : Int) ^ n = 2 ^ j * 2 ^ (n - j) := by rw [← Int.pow_add]; congr 1; omega
theorem of_small {V : Int} (h0 : 0 ≤ V) (h1 : V < 115792089237316195423570985008687907853269984665640564039457584007913129639936) {N k : Int} (h : N = V + 115792089237316195423570985008687907853269984665640564039457584007913129639936 * k) : W4.of N = W4.of V :=
  W4.of_eq (k := k) (W4.ok_of V) (by rw [W4.val_of, Int.emod_eq_of_lt h0 h1]; exact h)
theorem up_bits {v : Int} {j : Nat} (hj : j ≤ 256) : w4L (List.replicate j 0 ++ (bitL 256 v).take (256 - j)) = W4.of (v * 2 ^ j) := by
  have e : (bitL 256 v).take (256 - j) = bitL (256 - j) v := bitL_take (by omega) v
  rw [e]
  have l : (List.replicate j 0 ++ bitL (256 - j) v).length = 256 := by rw [List.length_append, List.length_replicate, bitL_len]; omega
  have b := app01 (zeros01 j) (bitL_01 (256 - j) v)
  have bd := valB_bd _ b
  rw [l, p256] at bd
  rw [w4L_eq b l]
  refine (of_small bd.1 bd.2 (k := v / 2 ^ (256 - j)) ?_).symm
  rw [valB_append, valB_zeros, List.length_replicate, valB_bits, ← p256, pow_parts hj]
  have h := Int.mul_ediv_add_emod v (2 ^ (256 - j))
  generalize v / 2 ^ (256 - j) = q at *
  generalize v % 2 ^ (256 - j) = r at *
  rw [← h, Int.add_mul, Int.mul_assoc, Int.mul_comm (2 ^ (256 - j)) (q * 2 ^ j), Int.mul_comm q, Int.mul_assoc, Int.mul_assoc, Int.mul_comm q, Int.mul_comm r]
  omega
theorem bits_parts {v : Int} (h0 : 0 ≤ v) (h1 : v < 2 ^ 256) {j : Nat} (hj : j ≤ 256) : valB ((bitL 256 v).take j) = v % 2 ^ j ∧ valB ((bitL 256 v).drop j) = v / 2 ^ j := by
  have e1 : valB ((bitL 256 v).take j) = v % 2 ^ j := by rw [bitL_take hj, valB_bits]
  refine ⟨e1, ?_⟩
  have e2 : valB (bitL 256 v) = v := by rw [valB_bits, Int.emod_eq_of_lt h0 h1]
  have e3 := valB_append ((bitL 256 v).take j) ((bitL 256 v).drop j)
  rw [List.take_append_drop, e2, e1, List.length_take, bitL_len, Nat.min_eq_left hj] at e3
  have e4 := Int.mul_ediv_add_emod v (2 ^ j)
  have hp : (2 : Int) ^ j ≠ 0 := by have := pow_pos2 j; omega
  exact (Int.eq_of_mul_eq_mul_left hp (by omega)).symm
theorem down_bits {v : Int} (h0 : 0 ≤ v) (h1 : v < 2 ^ 256) {j : Nat} (hj : j ≤ 256) : w4L ((bitL 256 v).drop j ++ List.replicate j 0) = W4.of (v / 2 ^ j) := by
  have b := app01 (bits01_drop (bitL_01 256 v) j) (zeros01 j)
  have l : ((bitL 256 v).drop j ++ List.replicate j 0).length = 256 := by rw [List.length_append, List.length_replicate, List.length_drop, bitL_len]; omega
  rw [w4L_eq b l, valB_append, valB_zeros, (bits_parts h0 h1 hj).2]
  congr 1
  omega
def any1 (l : List Int) : Bool := l.any fun d => d == 1
theorem any1_eq : ∀ l : List Int, bits01 l → any1 l = decide (valB l ≠ 0)
  | [], _ => rfl
  | d :: ds, h => by
    have h0 : bits01 ds := fun x hx => h x (List.mem_cons_of_mem _ hx)
    have h1 := valB_bd ds h0
    have h2 := h d List.mem_cons_self
    have ih := any1_eq ds h0
    have key : (d + 2 * valB ds ≠ 0) ↔ (d = 1 ∨ valB ds ≠ 0) := by
      generalize valB ds = V at *
      omega
    have e : any1 (d :: ds) = ((d == 1) || any1 ds) := rfl
    have ev : valB (d :: ds) = d + 2 * valB ds := rfl
    rw [e, ih, ev, Bool.eq_iff_iff, Bool.or_eq_true, beq_iff_eq, decide_eq_true_eq, decide_eq_true_eq]
    exact key.symm
theorem any1_snoc (l : List Int) (p : Int) : any1 (l ++ [p]) = (any1 l || (p == 1)) := by simp [any1]
end Go.Wd
