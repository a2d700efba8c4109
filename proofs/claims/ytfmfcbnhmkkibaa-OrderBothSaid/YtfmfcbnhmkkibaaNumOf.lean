/-
  PLAIN ARITHMETIC: the less and the greater one of two patterns are these two; the order of all.
-/
import Derived.Test.YtfmfcbnhmkkibaaNumOd
namespace Go.Pt

theorem coF_comm (a b : Int) : coF a b = coF b a := by
  unfold coF
  rw [ldF_comm a b]
  simp only [nn_comm a b]
theorem mi_comm {a b : Int} (ha : U a) (hb : U b) : miP a b = miP b a := by
  unfold miP
  rw [ls_comm ha hb]
  simp only [nn_comm a b]
theorem both_nn {a b : Int} (h : 3 < cl a ∨ 3 < cl b) : miP a b = 9221120237041090560 ∧ maP a b = 9221120237041090560 ∧ msP a b = 9221120237041090560 ∧ mtP a b = 9221120237041090560 ∧ mnP a b = onP a b ∧ mxP a b = onP a b := by
  unfold miP maP msP mtP mnP mxP
  simp only [if_pos h, and_self]
theorem two_of {x y a b : Int} (h : (x = a ∧ y = b) ∨ (x = b ∧ y = a)) : (x = a ∧ y = b) ∨ (x ≠ a ∧ x = b ∧ y = a) := by omega
theorem both_num {a b : Int} (h : ¬ (3 < cl a ∨ 3 < cl b)) : mnP a b = miP a b ∧ mxP a b = maP a b ∧ ((miP a b = a ∧ maP a b = b) ∨ (miP a b ≠ a ∧ miP a b = b ∧ maP a b = a)) ∧ ((msP a b = a ∧ mtP a b = b) ∨ (msP a b ≠ a ∧ msP a b = b ∧ mtP a b = a)) ∧ mag (msP a b) ≤ mag (mtP a b) := by
  have g := ls_gr a b
  unfold miP maP msP mtP mnP mxP
  simp only [if_neg h]
  refine ⟨trivial, trivial, two_of g, ?_, ?_⟩
  · apply two_of
    by_cases e : mag a = mag b
    · simp only [if_pos e]; exact g
    · simp only [if_neg e]
      by_cases l : mag a ≤ mag b
      · rw [if_pos l, if_pos l]; exact .inl ⟨rfl, rfl⟩
      · rw [if_neg l, if_neg l]; exact .inr ⟨rfl, rfl⟩
  · by_cases e : mag a = mag b
    · simp only [if_pos e]
      rcases g with g | g <;> rw [g.1, g.2] <;> omega
    · simp only [if_neg e]
      by_cases l : mag a ≤ mag b
      · simp only [if_pos l]; exact l
      · simp only [if_neg l]; omega
theorem U_pick {a b : Int} (ha : U a) (hb : U b) : U (msP a b) ∧ U (mtP a b) := by
  have g := ls_gr a b
  have g1 : U (lsP a b) ∧ U (grP a b) := by
    rcases g with g | g <;> rw [g.1, g.2]
    · exact ⟨ha, hb⟩
    · exact ⟨hb, ha⟩
  unfold msP mtP
  split
  · exact ⟨by decide, by decide⟩
  · split
    · exact g1
    · split
      · exact ⟨ha, hb⟩
      · exact ⟨hb, ha⟩
end Go.Pt
