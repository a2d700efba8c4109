/-
  PLAIN ARITHMETIC: words without the noughts on top.
-/
import Derived.Test.YtcnmfjhefioldabDoorNumR
namespace Go.Nt

theorem vN_zero : ∀ L : List Int, (∀ i, L.getD i 0 = 0) → vN L = 0
  | [], _ => rfl
  | x :: r, h => by
    have h0 := h 0
    have h1 := vN_zero r (fun i => by simpa using h (i + 1))
    simp only [List.getD_cons_zero] at h0
    simp only [vN]
    omega
theorem trim_val (W : List Int) : vN (W.take (trimN W)) = vN W := by
  have e := List.take_append_drop (trimN W) W
  have h : vN (W.drop (trimN W)) = 0 := vN_zero _ (fun i => by
    have := trimN_high W (trimN W + i) (by omega)
    simpa [List.getD, List.getElem?_drop] using this)
  have := vN_app (W.take (trimN W)) (W.drop (trimN W))
  rw [e, h, Int.mul_zero, Int.add_zero] at this
  exact this.symm
theorem trim_len (W : List Int) : (W.take (trimN W)).length = trimN W := by
  have := trimN_le W
  simp
  omega
theorem trim_canon {W : List Int} (h : wds W) : canon (W.take (trimN W)) := by
  refine ⟨wds_take h _, ?_⟩
  rw [trim_len]
  rcases trimN_top W with h0 | h0
  · exact .inl h0
  · by_cases h1 : trimN W = 0
    · exact .inl h1
    · refine .inr ?_
      have : (W.take (trimN W)).getD (trimN W - 1) 0 = W.getD (trimN W - 1) 0 := by
        simp only [List.getD, List.getElem?_take]
        rw [if_pos (by omega)]
      rw [this]
      exact h0
theorem canon_zero {L : List Int} (h : canon L) (h0 : vN L = 0) : L.length = 0 := by
  rcases h.2 with h1 | h1
  · exact h1
  · by_cases h2 : L.length = 0
    · exact h2
    · have := vN_low h.1 (by omega) h1
      have := pw_pos (L.length - 1)
      omega
theorem canon_short {L M : List Int} (hL : canon L) (hM : canon M) (h : vN M ≤ vN L) : M.length ≤ L.length := by
  rcases Nat.lt_or_ge L.length M.length with hlt | hge
  · exfalso
    have h1 := vN_low hM.1 (by omega) (by rcases hM.2 with h | h; omega; exact h)
    have h2 := pw_le (show L.length ≤ M.length - 1 by omega)
    have := vN_bd L hL.1
    omega
  · exact hge
theorem canon_uniq {L M : List Int} (hL : canon L) (hM : canon M) (h : vN L = vN M) : L = M := by
  have e1 := canon_short hL hM (by omega)
  have e2 := canon_short hM hL (by omega)
  have e3 : L.length = M.length := by omega
  rw [← dg_vN L hL.1, ← dg_vN M hM.1, h, e3]
theorem dg_val : ∀ (m : Nat) (V : Int), 0 ≤ V → V < 4294967296 ^ m → vN (dg m V) = V
  | 0, V, h0, h1 => by simp [dg, vN] at *; omega
  | m + 1, V, h0, h1 => by
    simp only [dg, vN]
    rw [pw] at h1
    rw [dg_val m (V / 4294967296) (by omega) (by omega)]
    omega
theorem trim_zero : ∀ m : Nat, trimN (dg m 0) = 0
  | 0 => rfl
  | m + 1 => by
    have := trim_zero m
    simp [dg, trimN, this]
end Go.Nt
