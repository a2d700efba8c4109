/-
  Layer 3's own 'sure'; what is known of calls, for the laws of patterns.
-/
import Derived.Test.YtkpmljcpjeeioaaPatA
namespace Go.Proofs.Ytkpmljcpjeeioaa
open Go.KRun Go.Pt
set_option maxRecDepth 100000

theorem sure_fits : Fits (reckon (tabOf Try.prog extC conN false) 4000 14 [] []) (.bool true) [] := ⟨by kernel_rfl, by kernel_rfl, by kernel_rfl, by kernel_rfl⟩
def gSure : Ans := fun vals s => match vals with | [] => some (.bool true, s, []) | _ => none
theorem gSure_ok : AnsOk 14 gSure := by
  intro vals s v s' lg h hl w
  unfold gSure at h
  split at h
  · cases h
    exact fits_calls (tabC_ok conN_ok) sure_fits (fun x hx => by cases hx) (by rfl) (by rfl) w
  · cases h
def conP : Con := alt 14 gSure (alt 7 (gU vT) conB)
theorem conP_ok : ConOk conP := alt_ok Try.func14 rfl gSure_ok (alt_ok Try.func7 rfl take_ok conB_ok)
def conR : Con := alt 8 (gU vT) conP
theorem conR_ok : ConOk conR := alt_ok Try.func8 rfl ref_ok conP_ok
end Go.Proofs.Ytkpmljcpjeeioaa
