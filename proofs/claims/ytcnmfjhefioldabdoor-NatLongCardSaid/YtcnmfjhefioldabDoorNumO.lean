/-
  PLAIN ARITHMETIC: numbers of words of 32 bits, the lowest first.
-/
import Derived.Test.YtcnmfjhefioldabDoorNumN
namespace Go.Nt

def vN : List Int → Int
  | [] => 0
  | x :: r => x + 4294967296 * vN r
/-- the lowest m words of a number -/
def dg : Nat → Int → List Int
  | 0, _ => []
  | m + 1, V => V % 4294967296 :: dg m (V / 4294967296)
def wds (L : List Int) : Prop := ∀ x ∈ L, 0 ≤ x ∧ x < 4294967296
theorem dg_len : ∀ (m : Nat) (V : Int), (dg m V).length = m
  | 0, _ => rfl
  | m + 1, V => by simp [dg, dg_len m]
theorem dg_wds : ∀ (m : Nat) (V : Int), wds (dg m V)
  | 0, _ => fun x hx => by cases hx
  | m + 1, V => fun x hx => by
    simp only [dg, List.mem_cons] at hx
    rcases hx with rfl | hx
    · omega
    · exact dg_wds m _ x hx
theorem wds_tail {x : Int} {L : List Int} (h : wds (x :: L)) : (0 ≤ x ∧ x < 4294967296) ∧ wds L := ⟨h x List.mem_cons_self, fun y hy => h y (List.mem_cons_of_mem _ hy)⟩
theorem dg_vN : ∀ L : List Int, wds L → dg L.length (vN L) = L
  | [], _ => rfl
  | x :: r, h => by
    obtain ⟨h1, h2⟩ := wds_tail h
    have ih := dg_vN r h2
    simp only [List.length_cons, dg, vN]
    have e1 : (x + 4294967296 * vN r) % 4294967296 = x := by omega
    have e2 : (x + 4294967296 * vN r) / 4294967296 = vN r := by omega
    rw [e1, e2, ih]
theorem pw (k : Nat) : (4294967296 : Int) ^ (k + 1) = 4294967296 * 4294967296 ^ k := by rw [Int.pow_succ, Int.mul_comm]
theorem pw_pos (k : Nat) : (0 : Int) < 4294967296 ^ k := Int.pow_pos (by omega)
theorem pw_le {i j : Nat} (h : i ≤ j) : (4294967296 : Int) ^ i ≤ 4294967296 ^ j := by
  have h1 : ∀ k : Nat, ((4294967296 ^ k : Nat) : Int) = 4294967296 ^ k := fun k => by simp
  rw [← h1, ← h1]
  have := Nat.pow_le_pow_right (n := 4294967296) (by omega) h
  omega
theorem vN_bd : ∀ L : List Int, wds L → 0 ≤ vN L ∧ vN L < 4294967296 ^ L.length
  | [], _ => by simp [vN]
  | x :: r, h => by
    obtain ⟨h1, h2⟩ := wds_tail h
    have ih := vN_bd r h2
    simp only [List.length_cons, vN]
    rw [pw]
    omega
theorem vN_snoc : ∀ (L : List Int) (d : Int), vN (L ++ [d]) = vN L + 4294967296 ^ L.length * d
  | [], d => by simp [vN]
  | x :: r, d => by
    have ih := vN_snoc r d
    simp only [List.cons_append, vN, List.length_cons]
    rw [ih, pw, Int.mul_assoc, Int.mul_add]
    omega
theorem vN_app : ∀ (L M : List Int), vN (L ++ M) = vN L + 4294967296 ^ L.length * vN M
  | [], M => by simp [vN]
  | x :: r, M => by
    have ih := vN_app r M
    simp only [List.cons_append, vN, List.length_cons]
    rw [ih, pw, Int.mul_assoc, Int.mul_add]
    omega
theorem wds_app {L M : List Int} (h1 : wds L) (h2 : wds M) : wds (L ++ M) := fun x hx => by
  rcases List.mem_append.1 hx with hx | hx
  · exact h1 x hx
  · exact h2 x hx
/-- one word more of a sum -/
theorem sum_step {P a b c x y d e A B : Int} (he : x + y + c = d + 4294967296 * e) (h : a + P * (x + 4294967296 * A + (y + 4294967296 * B) + c) = b) : a + P * d + 4294967296 * P * (A + B + e) = b := by
  rw [← h]
  have e1 : x + 4294967296 * A + (y + 4294967296 * B) + c = d + 4294967296 * (A + B + e) := by omega
  rw [e1]
  generalize A + B + e = Z
  rw [Int.mul_add P d, ← Int.mul_assoc P 4294967296 Z, Int.mul_comm P 4294967296]
  omega
end Go.Nt
