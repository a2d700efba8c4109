/-
  Layer 4's own 'sure'; what is known of calls, for the laws of rounding.
-/
import Derived.Test.YtckbkjjigejeiaaDoorRnE
namespace Go.Proofs.YtckbkjjigejeiaaDoor
open Go.KRun Go.Wd Go.Pt Go.Rn
set_option maxRecDepth 100000

theorem sure_fits : Fits (reckon (tabOf Tryd.prog extC conN false) 4000 8 [] []) (.bool true) [] := ⟨by kernel_rfl, by kernel_rfl, by kernel_rfl, by kernel_rfl⟩
def gSure : Ans := fun vals s => match vals with | [] => some (.bool true, s, []) | _ => none
theorem gSure_ok : AnsOk 8 gSure := by
  intro vals s v s' lg h hl w
  unfold gSure at h
  split at h
  · cases h
    exact fits_calls (tabC_ok conN_ok) sure_fits (fun x hx => by cases hx) (by rfl) (by rfl) w
  · cases h
def conR : Con := alt 10 gRd (alt 8 gSure conN)
theorem conR_ok : ConOk conR := alt_ok Tryd.func10 rfl gRd_ok (alt_ok Tryd.func8 rfl gSure_ok conN_ok)
end Go.Proofs.YtckbkjjigejeiaaDoor
