/-
  Layer 3's own 'sure'; what is known of calls, for the laws of patterns.
-/
import Derived.Test.YtnmabjhnjdeekaaDoorPatA
namespace Go.Proofs.YtnmabjhnjdeekaaDoor
open Go.KRun Go.Pt
set_option maxRecDepth 100000

theorem sure_fits : Fits (reckon (tabOf Tryd.prog extC conN false) 4000 9 [] []) (.bool true) [] := ⟨by kernel_rfl, by kernel_rfl, by kernel_rfl, by kernel_rfl⟩
def gSure : Ans := fun vals s => match vals with | [] => some (.bool true, s, []) | _ => none
theorem gSure_ok : AnsOk 9 gSure := by
  intro vals s v s' lg h hl w
  unfold gSure at h
  split at h
  · cases h
    exact fits_calls (tabC_ok conN_ok) sure_fits (fun x hx => by cases hx) (by rfl) (by rfl) w
  · cases h
def conP : Con := alt 9 gSure (alt 12 (gU vT) conB)
theorem conP_ok : ConOk conP := alt_ok Tryd.func9 rfl gSure_ok (alt_ok Tryd.func12 rfl take_ok conB_ok)
end Go.Proofs.YtnmabjhnjdeekaaDoor
