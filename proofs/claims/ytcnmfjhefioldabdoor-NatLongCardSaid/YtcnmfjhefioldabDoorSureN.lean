/-
  What the second layer's 'sure' answers, in every world: true: one closed run, reckoned by the kernel.
-/
import Derived.Test.YtcnmfjhefioldabDoorTab
namespace Go.Proofs.YtcnmfjhefioldabDoor
open Go.KRun
set_option maxRecDepth 100000

theorem sure_fits : Fits (reckon (tabOf Tryd.prog extC conN false) 600 8 [] []) (.bool true) [] := ⟨by kernel_rfl, by kernel_rfl, by kernel_rfl, by kernel_rfl⟩
theorem sure_calls (w : World) : Calls Tryd.prog 8 #[] w fun e w' => e = .returned (.bool true) ∧ Tidy w w' :=
  fits_calls (tabC_ok conN_ok) sure_fits (fun x hx => by cases hx) (by rfl) (by rfl) w
end Go.Proofs.YtcnmfjhefioldabDoor
