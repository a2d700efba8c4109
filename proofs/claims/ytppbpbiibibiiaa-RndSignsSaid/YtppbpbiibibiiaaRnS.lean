/-
  Layer 4's own 'sure'; what is known of calls, for the laws of rounding.
-/
import Derived.Test.YtppbpbiibibiiaaRnE
namespace Go.Proofs.Ytppbpbiibibiiaa
open Go.KRun Go.Wd Go.Pt Go.Rn
set_option maxRecDepth 100000

theorem sure_fits : Fits (reckon (tabOf Try.prog extC conN false) 4000 12 [] []) (.bool true) [] := ⟨by kernel_rfl, by kernel_rfl, by kernel_rfl, by kernel_rfl⟩
def gSure : Ans := fun vals s => match vals with | [] => some (.bool true, s, []) | _ => none
theorem gSure_ok : AnsOk 12 gSure := by
  intro vals s v s' lg h hl w
  unfold gSure at h
  split at h
  · cases h
    exact fits_calls (tabC_ok conN_ok) sure_fits (fun x hx => by cases hx) (by rfl) (by rfl) w
  · cases h
def conR : Con := alt 8 gRd (alt 12 gSure conN)
theorem conR_ok : ConOk conR := alt_ok Try.func8 rfl gRd_ok (alt_ok Try.func12 rfl gSure_ok conN_ok)
end Go.Proofs.Ytppbpbiibibiiaa
