/-
  PLAIN ARITHMETIC: words moved up by whole words.
-/
import Derived.Test.YtcnmfjhefioldabDoorNumQ
namespace Go.Nt

theorem dg_skip : ∀ (s m : Nat) (V : Int), dg (s + m) (4294967296 ^ s * V) = List.replicate s 0 ++ dg m V
  | 0, m, V => by simp
  | s + 1, m, V => by
    rw [show s + 1 + m = (s + m) + 1 from by omega]
    simp only [dg]
    rw [pw, Int.mul_assoc]
    generalize hZ : (4294967296 : Int) ^ s * V = Z
    have e1 : (4294967296 * Z) % 4294967296 = 0 := by omega
    have e2 : (4294967296 * Z) / 4294967296 = Z := by omega
    rw [e1, e2, ← hZ, dg_skip s m V, List.replicate_succ, List.cons_append]
theorem two_split (K : Nat) : (2 : Int) ^ K = 4294967296 ^ (K / 32) * 2 ^ (K % 32) := by
  have e : (4294967296 : Int) = 2 ^ 32 := rfl
  rw [e, ← Int.pow_mul, ← Int.pow_add, show 32 * (K / 32) + K % 32 = K from by omega]
/-- words moved up by K bits -/
def shlR (L : List Int) (K : Nat) : List Int := dg (K / 32 + (L.length + 1)) (vN L * 2 ^ K)
theorem shlR_eq (L : List Int) (K : Nat) : shlR L K = List.replicate (K / 32) 0 ++ dg (L.length + 1) (vN L * 2 ^ (K % 32)) := by
  unfold shlR
  rw [two_split K, ← Int.mul_assoc, Int.mul_comm (vN L), Int.mul_assoc, dg_skip]
theorem shlR_len (L : List Int) (K : Nat) : (shlR L K).length = K / 32 + (L.length + 1) := dg_len _ _
end Go.Nt
