/-
  Logs, entry by entry.
-/
import Derived.Test.YtfmfcbnhmkkibaaRunB
namespace Go.Proofs.Ytfmfcbnhmkkibaa
open Go.KRun

theorem okL1 {a b : Bool} (h : a = b) : okLog [(a, b)] := fun p hp => by rw [List.mem_singleton.1 hp]; exact h
theorem okCons {a b : Bool} {l : Log} (h : a = b) (hl : okLog l) : okLog ((a, b) :: l) := fun p hp => by
  rcases List.mem_cons.1 hp with rfl | hp
  · exact h
  · exact hl p hp
theorem okCs {a b : Bool} {l : Log} : okLog ((a, b) :: l) ↔ a = b ∧ okLog l := ⟨fun h => ⟨h _ (List.mem_cons_self), fun x hx => h x (List.mem_cons_of_mem _ hx)⟩, fun h => okCons h.1 h.2⟩
theorem okNl : okLog [] := fun x hx => by cases hx
end Go.Proofs.Ytfmfcbnhmkkibaa
