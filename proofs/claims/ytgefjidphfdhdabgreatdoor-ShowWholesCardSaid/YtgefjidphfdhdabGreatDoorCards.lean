/-
  DERIVED. GIVEN WITH THE SEED: THE CARDS: each row of YtgefjidphfdhdabGreatDoorRows.lean that lists a variable, with what it lists TIED to the program's text (the seventh form; the later family's looks); each row that meets fmt, with fmt's text TOLD by the authors' own Lean function (tested against real Go, not proved from fmt's source: count such statements apart). THE CARD IS WHAT COUNTS. Prove the row's statement (the work); the ties are given (YtgefjidphfdhdabGreatDoorTie.lean); close each card by the builder's one call (the guide's Derived/Test/ToyasCard.lean, 'card_holds'). Laid BY PROGRAM, IN A SANDBOX (cutbox-door.mjs). By AI agents, Wed Nov 11 2026. No macro, syntax, notation, axiom, sorry.
-/
import Derived.Test.YtgefjidphfdhdabGreatDoorRows
import GoSem.ClaimSeven
namespace Go.Proofs.YtgefjidphfdhdabGreatDoor
namespace Rows

/-- THE TIED CARD OF 'tillerlaw14.ShowWholes'. -/
def showWholesCard : Claim7 := { stood := { row := showWholesRow, standIns := [], harness := (true, "af8a9eabb5a9bc072ef1681f33ec74cf3864ceaa3c2130fb95d730c51d05c993"), looks := false }, kinds := [], alts := [], laidByText := true, laidKinds := [.data, .data, .data, .data, .pinned], laidTests := true, laidLooks := .later }
def ShowWholesCardSaid : Prop := Claim7.holds Tryz.pinned (.plain (OpenSpec.ofChange showWholesSpec)) showWholesCard

/-- THE SECOND FORM's CARD OF 'tillerlaw14.ShowWholes'. -/
def showWholesUptoCard : Claim7 := { stood := { row := showWholesUptoRow, standIns := [], harness := (true, "af8a9eabb5a9bc072ef1681f33ec74cf3864ceaa3c2130fb95d730c51d05c993"), looks := false }, kinds := [], alts := [], laidByText := true, laidKinds := [.data, .data, .data, .data, .pinned], laidTests := true, laidLooks := .later }
def ShowWholesUptoCardSaid : Prop := Claim7.holds Tryz.pinned (.plain (OpenSpec.upto showWholesSpec)) showWholesUptoCard
end Rows
end Go.Proofs.YtgefjidphfdhdabGreatDoor
