/-
  PLAIN ARITHMETIC: which of two numbers of words is less; a difference, word by word.
-/
import Derived.Test.YtcnmfjhefioldabDoorNumO
namespace Go.Nt

theorem dif_step {P a b c x y d e A B : Int} (he : x - y - c = d - 4294967296 * e) (h : a + P * (x + 4294967296 * A - (y + 4294967296 * B) - c) = b) : a + P * d + 4294967296 * P * (A - B - e) = b := by
  rw [← h]
  have e1 : x + 4294967296 * A - (y + 4294967296 * B) - c = d + 4294967296 * (A - B - e) := by omega
  rw [e1]
  generalize A - B - e = Z
  rw [Int.mul_add P d, ← Int.mul_assoc P 4294967296 Z, Int.mul_comm P 4294967296]
  omega
/-- a highest word that is not 0 -/
theorem vN_low {L : List Int} (h : wds L) (h0 : 0 < L.length) (ht : L.getD (L.length - 1) 0 ≠ 0) : 4294967296 ^ (L.length - 1) ≤ vN L := by
  induction L with
  | nil => simp at h0
  | cons x r ih =>
    obtain ⟨h1, h2⟩ := wds_tail h
    cases r with
    | nil =>
      simp at ht ⊢
      simp [vN]
      omega
    | cons y r =>
      have := ih h2 (by simp) (by simpa using ht)
      simp only [List.length_cons, Nat.add_sub_cancel] at this ⊢
      rw [pw]
      have e : vN (x :: y :: r) = x + 4294967296 * vN (y :: r) := rfl
      rw [e]
      omega
theorem take_succ {L : List Int} {k : Nat} (h : k < L.length) : L.take (k + 1) = L.take k ++ [L.getD k 0] := by
  rw [List.take_add_one, List.getElem?_eq_getElem h]
  simp [List.getD, List.getElem?_eq_getElem h]
theorem wds_take {L : List Int} (h : wds L) (k : Nat) : wds (L.take k) := fun x hx => h x (List.mem_of_mem_take hx)
theorem topCmp_val {L M : List Int} (hL : wds L) (hM : wds M) : ∀ k, k ≤ L.length → k ≤ M.length → (topCmp L M k < 0 ↔ vN (L.take k) < vN (M.take k)) ∧ (topCmp L M k = 0 ↔ vN (L.take k) = vN (M.take k))
  | 0, _, _ => by simp [topCmp, vN]
  | k + 1, h1, h2 => by
    have ih := topCmp_val hL hM k (by omega) (by omega)
    have bL := vN_bd (L.take k) (wds_take hL k)
    have bM := vN_bd (M.take k) (wds_take hM k)
    have lL : (L.take k).length = k := by simp; omega
    have lM : (M.take k).length = k := by simp; omega
    rw [lL] at bL
    rw [lM] at bM
    rw [take_succ (by omega : k < L.length), take_succ (by omega : k < M.length), vN_snoc, vN_snoc, lL, lM]
    simp only [topCmp]
    generalize L.getD k 0 = x
    generalize M.getD k 0 = y
    have hp := pw_pos k
    by_cases hxy : x = y
    · subst hxy
      rw [if_pos rfl]
      omega
    · rw [if_neg hxy]
      by_cases hlt : x < y
      · rw [if_pos hlt]
        have : 4294967296 ^ k * x + 4294967296 ^ k ≤ 4294967296 ^ k * y := by
          have := Int.mul_le_mul_of_nonneg_left (show x + 1 ≤ y by omega) (Int.le_of_lt hp)
          rw [Int.mul_add, Int.mul_one] at this
          exact this
        omega
      · rw [if_neg hlt]
        have : 4294967296 ^ k * y + 4294967296 ^ k ≤ 4294967296 ^ k * x := by
          have := Int.mul_le_mul_of_nonneg_left (show y + 1 ≤ x by omega) (Int.le_of_lt hp)
          rw [Int.mul_add, Int.mul_one] at this
          exact this
        omega
/-- words that are a number: the highest is not 0 -/
def canon (L : List Int) : Prop := wds L ∧ (L.length = 0 ∨ L.getD (L.length - 1) 0 ≠ 0)
theorem cmpL_val {L M : List Int} (hL : canon L) (hM : canon M) : (cmpL L M < 0 ↔ vN L < vN M) ∧ (cmpL L M = 0 ↔ vN L = vN M) := by
  obtain ⟨wL, tL⟩ := hL
  obtain ⟨wM, tM⟩ := hM
  unfold cmpL
  by_cases hl : L.length = M.length
  · rw [if_pos hl]
    have := topCmp_val wL wM L.length (Nat.le_refl _) (by omega)
    rw [List.take_length, hl, List.take_length] at this
    rw [hl]
    exact this
  · rw [if_neg hl]
    have bL := vN_bd L wL
    have bM := vN_bd M wM
    by_cases hlt : L.length < M.length
    · rw [if_pos hlt]
      have h1 := vN_low wM (by omega) (by rcases tM with h | h; omega; exact h)
      have h2 := pw_le (show L.length ≤ M.length - 1 by omega)
      omega
    · rw [if_neg hlt]
      have h1 := vN_low wL (by omega) (by rcases tL with h | h; omega; exact h)
      have h2 := pw_le (show M.length ≤ L.length - 1 by omega)
      omega
end Go.Nt
