/-
  DERIVED. GIVEN WITH THE SEED: THE CARDS: each row of YtdlpffgekmidnabDoorRows.lean that lists a variable, with what it lists TIED to the program's text (the seventh form; the later family's looks); each row that meets fmt, with fmt's text TOLD by the authors' own Lean function (tested against real Go, not proved from fmt's source: count such statements apart). THE CARD IS WHAT COUNTS. Prove the row's statement (the work); the ties are given (YtdlpffgekmidnabDoorTie.lean); close each card by the builder's one call (the guide's Derived/Test/ToyasCard.lean, 'card_holds'). Laid BY PROGRAM, IN A SANDBOX (cutbox-door.mjs). By AI agents, Wed Nov 11 2026. No macro, syntax, notation, axiom, sorry.
-/
import Derived.Test.YtdlpffgekmidnabDoorRows
import GoSem.ClaimSeven
namespace Go.Proofs.YtdlpffgekmidnabDoor
namespace Rows

/-- THE TIED CARD OF 'tillerlaw16.TurnKeeps'. -/
def turnKeepsCard : Claim7 := { stood := { row := turnKeepsRow, standIns := [], harness := (true, "f6d87ed22a3b2be0717e45ceb4d4386c345abd1353732fb319433a730a466f3c"), looks := true }, kinds := [], alts := [], laidByText := true, laidKinds := [.handle], laidTests := true, laidLooks := .later }
def TurnKeepsCardSaid : Prop := Claim7.holds Tryd.pinned (.plain (OpenSpec.ofChange turnKeepsSpec)) turnKeepsCard

/-- THE SECOND FORM's CARD OF 'tillerlaw16.TurnKeeps'. -/
def turnKeepsUptoCard : Claim7 := { stood := { row := turnKeepsUptoRow, standIns := [], harness := (true, "f6d87ed22a3b2be0717e45ceb4d4386c345abd1353732fb319433a730a466f3c"), looks := true }, kinds := [], alts := [], laidByText := true, laidKinds := [.handle], laidTests := true, laidLooks := .later }
def TurnKeepsUptoCardSaid : Prop := Claim7.holds Tryd.pinned (.plain (OpenSpec.upto turnKeepsSpec)) turnKeepsUptoCard
end Rows
end Go.Proofs.YtdlpffgekmidnabDoor
