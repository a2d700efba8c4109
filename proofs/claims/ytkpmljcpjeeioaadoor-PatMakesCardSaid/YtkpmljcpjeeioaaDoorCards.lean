/-
  DERIVED. GIVEN WITH THE SEED: THE CARDS: each row of YtkpmljcpjeeioaaDoorRows.lean that lists a variable, with what it lists TIED to the program's text (the seventh form; the later family's looks); each row that meets fmt, with fmt's text TOLD by the authors' own Lean function (tested against real Go, not proved from fmt's source: count such statements apart). THE CARD IS WHAT COUNTS. Prove the row's statement (the work); the ties are given (YtkpmljcpjeeioaaDoorTie.lean); close each card by the builder's one call (the guide's Derived/Test/ToyasCard.lean, 'card_holds'). Laid BY PROGRAM, IN A SANDBOX (cutbox-door.mjs). By AI agents, Wed Nov 11 2026. No macro, syntax, notation, axiom, sorry.
-/
import Derived.Test.YtkpmljcpjeeioaaDoorRows
import GoSem.ClaimSeven
namespace Go.Proofs.YtkpmljcpjeeioaaDoor
namespace Rows

/-- THE TIED CARD OF 'tillerlaw03.PatMakes'. -/
def patMakesCard : Claim7 := { stood := { row := patMakesRow, standIns := [], harness := (true, "9768ae6d528031006e565f52678c13c970639f3390f2a7619b95bf9f76cd8c1c"), looks := true }, kinds := [], alts := [], laidByText := true, laidKinds := [.handle], laidTests := true, laidLooks := .later }
def PatMakesCardSaid : Prop := Claim7.holds Tryd.pinned (.plain (OpenSpec.ofChange patMakesSpec)) patMakesCard

/-- THE TIED CARD OF 'tillerlaw03.PatHex'. -/
def patHexCard : Claim7 := { stood := { row := patHexRow, standIns := [], harness := (true, "9768ae6d528031006e565f52678c13c970639f3390f2a7619b95bf9f76cd8c1c"), looks := true }, kinds := [], alts := [], laidByText := true, laidKinds := [.handle], laidTests := true, laidLooks := .later }
def PatHexCardSaid : Prop := Claim7.holds Tryd.pinned (.plain (OpenSpec.ofChange patHexSpec)) patHexCard

/-- THE SECOND FORM's CARD OF 'tillerlaw03.PatMakes'. -/
def patMakesUptoCard : Claim7 := { stood := { row := patMakesUptoRow, standIns := [], harness := (true, "9768ae6d528031006e565f52678c13c970639f3390f2a7619b95bf9f76cd8c1c"), looks := true }, kinds := [], alts := [], laidByText := true, laidKinds := [.handle], laidTests := true, laidLooks := .later }
def PatMakesUptoCardSaid : Prop := Claim7.holds Tryd.pinned (.plain (OpenSpec.upto patMakesSpec)) patMakesUptoCard

/-- THE SECOND FORM's CARD OF 'tillerlaw03.PatHex'. -/
def patHexUptoCard : Claim7 := { stood := { row := patHexUptoRow, standIns := [], harness := (true, "9768ae6d528031006e565f52678c13c970639f3390f2a7619b95bf9f76cd8c1c"), looks := true }, kinds := [], alts := [], laidByText := true, laidKinds := [.handle], laidTests := true, laidLooks := .later }
def PatHexUptoCardSaid : Prop := Claim7.holds Tryd.pinned (.plain (OpenSpec.upto patHexSpec)) patHexUptoCard
end Rows
end Go.Proofs.YtkpmljcpjeeioaaDoor
