/-
  DERIVED. GIVEN WITH THE SEED: THE CARDS: each row of YtgmfnecdpfdncaaDoorRows.lean that lists a variable, with what it lists TIED to the program's text (the seventh form; the later family's looks); each row that meets fmt, with fmt's text TOLD by the authors' own Lean function (tested against real Go, not proved from fmt's source: count such statements apart). THE CARD IS WHAT COUNTS. Prove the row's statement (the work); the ties are given (YtgmfnecdpfdncaaDoorTie.lean); close each card by the builder's one call (the guide's Derived/Test/ToyasCard.lean, 'card_holds'). Laid BY PROGRAM, IN A SANDBOX (cutbox-door.mjs). By AI agents, Wed Nov 11 2026. No macro, syntax, notation, axiom, sorry.
-/
import Derived.Test.YtgmfnecdpfdncaaDoorRows
import GoSem.ClaimSeven
namespace Go.Proofs.YtgmfnecdpfdncaaDoor
namespace Rows

/-- THE TIED CARD OF 'tillerlaw05.SumsExact'. -/
def sumsExactCard : Claim7 := { stood := { row := sumsExactRow, standIns := [], harness := (true, "fe0584397bd4fd685834e475b3908e3cb1e399660d2af367cf77939f4d10dd6e"), looks := true }, kinds := [], alts := [], laidByText := true, laidKinds := [.handle], laidTests := true, laidLooks := .later }
def SumsExactCardSaid : Prop := Claim7.holds Tryd.pinned (.plain (OpenSpec.ofChange sumsExactSpec)) sumsExactCard

/-- THE SECOND FORM's CARD OF 'tillerlaw05.SumsExact'. -/
def sumsExactUptoCard : Claim7 := { stood := { row := sumsExactUptoRow, standIns := [], harness := (true, "fe0584397bd4fd685834e475b3908e3cb1e399660d2af367cf77939f4d10dd6e"), looks := true }, kinds := [], alts := [], laidByText := true, laidKinds := [.handle], laidTests := true, laidLooks := .later }
def SumsExactUptoCardSaid : Prop := Claim7.holds Tryd.pinned (.plain (OpenSpec.upto sumsExactSpec)) sumsExactUptoCard
end Rows
end Go.Proofs.YtgmfnecdpfdncaaDoor
