/-
  DERIVED. GIVEN WITH THE SEED: THE CARDS: each row of YtnmabjhnjdeekaaDoorRows.lean that lists a variable, with what it lists TIED to the program's text (the seventh form; the later family's looks); each row that meets fmt, with fmt's text TOLD by the authors' own Lean function (tested against real Go, not proved from fmt's source: count such statements apart). THE CARD IS WHAT COUNTS. Prove the row's statement (the work); the ties are given (YtnmabjhnjdeekaaDoorTie.lean); close each card by the builder's one call (the guide's Derived/Test/ToyasCard.lean, 'card_holds'). Laid BY PROGRAM, IN A SANDBOX (cutbox-door.mjs). By AI agents, Wed Nov 11 2026. No macro, syntax, notation, axiom, sorry.
-/
import Derived.Test.YtnmabjhnjdeekaaDoorRows
import GoSem.ClaimSeven
namespace Go.Proofs.YtnmabjhnjdeekaaDoor
namespace Rows

/-- THE TIED CARD OF 'tillerlaw03.PatHex'. -/
def patHexCard : Claim7 := { stood := { row := patHexRow, standIns := [], harness := (true, "0d258061f6a6291468e717149cc0a612782f53b346bfbce53ceced500a92bb2e"), looks := true }, kinds := [], alts := [], laidByText := true, laidKinds := [.handle], laidTests := true, laidLooks := .later }
def PatHexCardSaid : Prop := Claim7.holds Tryd.pinned (.plain (OpenSpec.ofChange patHexSpec)) patHexCard

/-- THE SECOND FORM's CARD OF 'tillerlaw03.PatHex'. -/
def patHexUptoCard : Claim7 := { stood := { row := patHexUptoRow, standIns := [], harness := (true, "0d258061f6a6291468e717149cc0a612782f53b346bfbce53ceced500a92bb2e"), looks := true }, kinds := [], alts := [], laidByText := true, laidKinds := [.handle], laidTests := true, laidLooks := .later }
def PatHexUptoCardSaid : Prop := Claim7.holds Tryd.pinned (.plain (OpenSpec.upto patHexSpec)) patHexUptoCard
end Rows
end Go.Proofs.YtnmabjhnjdeekaaDoor
