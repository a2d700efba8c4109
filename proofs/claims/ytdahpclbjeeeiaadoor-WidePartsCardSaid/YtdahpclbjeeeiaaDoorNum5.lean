/-
  PLAIN ARITHMETIC: lists of parts of 16 bits and the numbers that they are. No program is named here.
-/
import Derived.Test.YtdahpclbjeeeiaaDoorNum3
namespace Go.Wd

def vR : List Int → Int
  | [] => 0
  | d :: ds => d + 65536 * vR ds
theorem vR_append : ∀ (l m : List Int), vR (l ++ m) = vR l + 65536 ^ l.length * vR m
  | [], m => by simp [vR]
  | d :: ds, m => by
    simp only [List.cons_append, vR, List.length_cons, Int.pow_succ]
    rw [vR_append ds m, Int.mul_add, Int.mul_comm (65536 ^ ds.length) 65536, Int.mul_assoc]
    omega
theorem vR_set (a : List Int) (d e : Int) (b : List Int) : vR (a ++ e :: b) = vR (a ++ d :: b) + 65536 ^ a.length * (e - d) := by
  rw [vR_append, vR_append]
  simp only [vR]
  rw [Int.mul_add, Int.mul_add, Int.mul_sub]
  omega
theorem vR_zeros : ∀ n : Nat, vR (List.replicate n 0) = 0
  | 0 => rfl
  | n + 1 => by simp only [List.replicate_succ, vR, vR_zeros n]; omega
theorem vR_nonneg : ∀ l : List Int, (∀ d ∈ l, 0 ≤ d) → 0 ≤ vR l
  | [], _ => by simp [vR]
  | d :: ds, h => by
    have h1 := vR_nonneg ds fun x hx => h x (List.mem_cons_of_mem _ hx)
    have h2 := h d List.mem_cons_self
    simp only [vR]
    omega
theorem pow_pos16 (n : Nat) : (0 : Int) < 65536 ^ n := Int.pow_pos (by omega)
theorem p512 : (65536 : Int) ^ 32 = 13407807929942597099574024998205846127479365820592393377723561443721764030073546976801874298166903427690031858186486050853753882811946569946433649006084096 := rfl
end Go.Wd
