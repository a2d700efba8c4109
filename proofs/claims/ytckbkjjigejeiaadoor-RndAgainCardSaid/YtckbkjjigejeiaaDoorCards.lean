/-
  DERIVED. GIVEN WITH THE SEED: THE CARDS: each row of YtckbkjjigejeiaaDoorRows.lean that lists a variable, with what it lists TIED to the program's text (the seventh form; the later family's looks); each row that meets fmt, with fmt's text TOLD by the authors' own Lean function (tested against real Go, not proved from fmt's source: count such statements apart). THE CARD IS WHAT COUNTS. Prove the row's statement (the work); the ties are given (YtckbkjjigejeiaaDoorTie.lean); close each card by the builder's one call (the guide's Derived/Test/ToyasCard.lean, 'card_holds'). Laid BY PROGRAM, IN A SANDBOX (cutbox-door.mjs). By AI agents, Wed Nov 11 2026. No macro, syntax, notation, axiom, sorry.
-/
import Derived.Test.YtckbkjjigejeiaaDoorRows
import GoSem.ClaimSeven
namespace Go.Proofs.YtckbkjjigejeiaaDoor
namespace Rows

/-- THE TIED CARD OF 'tillerlaw04.RndOf'. -/
def rndOfCard : Claim7 := { stood := { row := rndOfRow, standIns := [], harness := (true, "d0c80d1068ebf749d39faf3ad3849c4d5fabd4f8b85f3943f1ed4bec3245ffb7"), looks := true }, kinds := [], alts := [], laidByText := true, laidKinds := [.handle], laidTests := true, laidLooks := .later }
def RndOfCardSaid : Prop := Claim7.holds Tryd.pinned (.plain (OpenSpec.ofChange rndOfSpec)) rndOfCard

/-- THE TIED CARD OF 'tillerlaw04.RndAgain'. -/
def rndAgainCard : Claim7 := { stood := { row := rndAgainRow, standIns := [], harness := (true, "d0c80d1068ebf749d39faf3ad3849c4d5fabd4f8b85f3943f1ed4bec3245ffb7"), looks := true }, kinds := [], alts := [], laidByText := true, laidKinds := [.handle], laidTests := true, laidLooks := .later }
def RndAgainCardSaid : Prop := Claim7.holds Tryd.pinned (.plain (OpenSpec.ofChange rndAgainSpec)) rndAgainCard

/-- THE SECOND FORM's CARD OF 'tillerlaw04.RndOf'. -/
def rndOfUptoCard : Claim7 := { stood := { row := rndOfUptoRow, standIns := [], harness := (true, "d0c80d1068ebf749d39faf3ad3849c4d5fabd4f8b85f3943f1ed4bec3245ffb7"), looks := true }, kinds := [], alts := [], laidByText := true, laidKinds := [.handle], laidTests := true, laidLooks := .later }
def RndOfUptoCardSaid : Prop := Claim7.holds Tryd.pinned (.plain (OpenSpec.upto rndOfSpec)) rndOfUptoCard

/-- THE SECOND FORM's CARD OF 'tillerlaw04.RndAgain'. -/
def rndAgainUptoCard : Claim7 := { stood := { row := rndAgainUptoRow, standIns := [], harness := (true, "d0c80d1068ebf749d39faf3ad3849c4d5fabd4f8b85f3943f1ed4bec3245ffb7"), looks := true }, kinds := [], alts := [], laidByText := true, laidKinds := [.handle], laidTests := true, laidLooks := .later }
def RndAgainUptoCardSaid : Prop := Claim7.holds Tryd.pinned (.plain (OpenSpec.upto rndAgainSpec)) rndAgainUptoCard
end Rows
end Go.Proofs.YtckbkjjigejeiaaDoor
