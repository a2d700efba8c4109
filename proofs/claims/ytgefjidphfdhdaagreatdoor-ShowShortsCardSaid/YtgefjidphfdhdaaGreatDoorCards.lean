/-
  DERIVED. GIVEN WITH THE SEED: THE CARDS: each row of YtgefjidphfdhdaaGreatDoorRows.lean that lists a variable, with what it lists TIED to the program's text (the seventh form; the later family's looks); each row that meets fmt, with fmt's text TOLD by the authors' own Lean function (tested against real Go, not proved from fmt's source: count such statements apart). THE CARD IS WHAT COUNTS. Prove the row's statement (the work); the ties are given (YtgefjidphfdhdaaGreatDoorTie.lean); close each card by the builder's one call (the guide's Derived/Test/ToyasCard.lean, 'card_holds'). Laid BY PROGRAM, IN A SANDBOX (cutbox-door.mjs). By AI agents, Wed Nov 11 2026. No macro, syntax, notation, axiom, sorry.
-/
import Derived.Test.YtgefjidphfdhdaaGreatDoorRows
import GoSem.ClaimSeven
namespace Go.Proofs.YtgefjidphfdhdaaGreatDoor
namespace Rows

/-- THE TIED CARD OF 'tillerlaw14.ShowShorts'. -/
def showShortsCard : Claim7 := { stood := { row := showShortsRow, standIns := [], harness := (true, "b2308db712d87b9f5fbc650312506420aa9c9e793eaee373ee474e84c5fb15fd"), looks := true }, kinds := [], alts := [], laidByText := true, laidKinds := [.data, .data, .data, .data, .pinned], laidTests := true, laidLooks := .later }
def ShowShortsCardSaid : Prop := Claim7.holds Tryz.pinned (.plain (OpenSpec.ofChange showShortsSpec)) showShortsCard

/-- THE TIED CARD OF 'tillerlaw14.ShowDigits'. -/
def showDigitsCard : Claim7 := { stood := { row := showDigitsRow, standIns := [], harness := (true, "b2308db712d87b9f5fbc650312506420aa9c9e793eaee373ee474e84c5fb15fd"), looks := true }, kinds := [], alts := [], laidByText := true, laidKinds := [.data, .data, .data, .data, .handle, .pinned], laidTests := true, laidLooks := .later }
def ShowDigitsCardSaid : Prop := Claim7.holds Tryz.pinned (.plain (OpenSpec.ofChange showDigitsSpec)) showDigitsCard

/-- THE TIED CARD OF 'tillerlaw14.ShowHex'. -/
def showHexCard : Claim7 := { stood := { row := showHexRow, standIns := [], harness := (true, "b2308db712d87b9f5fbc650312506420aa9c9e793eaee373ee474e84c5fb15fd"), looks := true }, kinds := [], alts := [], laidByText := true, laidKinds := [.data, .data, .data, .data, .pinned], laidTests := true, laidLooks := .later }
def ShowHexCardSaid : Prop := Claim7.holds Tryz.pinned (.plain (OpenSpec.ofChange showHexSpec)) showHexCard

/-- THE TIED CARD OF 'tillerlaw14.ShowBack'. -/
def showBackCard : Claim7 := { stood := { row := showBackRow, standIns := [], harness := (true, "b2308db712d87b9f5fbc650312506420aa9c9e793eaee373ee474e84c5fb15fd"), looks := true }, kinds := [], alts := [], laidByText := true, laidKinds := [.data, .data, .data, .data, .pinned], laidTests := true, laidLooks := .later }
def ShowBackCardSaid : Prop := Claim7.holds Tryz.pinned (.plain (OpenSpec.ofChange showBackSpec)) showBackCard

/-- THE TIED CARD OF 'tillerlaw14.ShowFewest'. -/
def showFewestCard : Claim7 := { stood := { row := showFewestRow, standIns := [], harness := (true, "b2308db712d87b9f5fbc650312506420aa9c9e793eaee373ee474e84c5fb15fd"), looks := true }, kinds := [], alts := [], laidByText := true, laidKinds := [.data, .data, .data, .data, .pinned], laidTests := true, laidLooks := .later }
def ShowFewestCardSaid : Prop := Claim7.holds Tryz.pinned (.plain (OpenSpec.ofChange showFewestSpec)) showFewestCard

/-- THE TIED CARD OF 'tillerlaw14.ShowSigns'. -/
def showSignsCard : Claim7 := { stood := { row := showSignsRow, standIns := [], harness := (true, "b2308db712d87b9f5fbc650312506420aa9c9e793eaee373ee474e84c5fb15fd"), looks := true }, kinds := [], alts := [], laidByText := true, laidKinds := [.data, .data, .data, .data, .pinned], laidTests := true, laidLooks := .later }
def ShowSignsCardSaid : Prop := Claim7.holds Tryz.pinned (.plain (OpenSpec.ofChange showSignsSpec)) showSignsCard

/-- THE SECOND FORM's CARD OF 'tillerlaw14.ShowShorts'. -/
def showShortsUptoCard : Claim7 := { stood := { row := showShortsUptoRow, standIns := [], harness := (true, "b2308db712d87b9f5fbc650312506420aa9c9e793eaee373ee474e84c5fb15fd"), looks := true }, kinds := [], alts := [], laidByText := true, laidKinds := [.data, .data, .data, .data, .pinned], laidTests := true, laidLooks := .later }
def ShowShortsUptoCardSaid : Prop := Claim7.holds Tryz.pinned (.plain (OpenSpec.upto showShortsSpec)) showShortsUptoCard

/-- THE SECOND FORM's CARD OF 'tillerlaw14.ShowDigits'. -/
def showDigitsUptoCard : Claim7 := { stood := { row := showDigitsUptoRow, standIns := [], harness := (true, "b2308db712d87b9f5fbc650312506420aa9c9e793eaee373ee474e84c5fb15fd"), looks := true }, kinds := [], alts := [], laidByText := true, laidKinds := [.data, .data, .data, .data, .handle, .pinned], laidTests := true, laidLooks := .later }
def ShowDigitsUptoCardSaid : Prop := Claim7.holds Tryz.pinned (.plain (OpenSpec.upto showDigitsSpec)) showDigitsUptoCard

/-- THE SECOND FORM's CARD OF 'tillerlaw14.ShowHex'. -/
def showHexUptoCard : Claim7 := { stood := { row := showHexUptoRow, standIns := [], harness := (true, "b2308db712d87b9f5fbc650312506420aa9c9e793eaee373ee474e84c5fb15fd"), looks := true }, kinds := [], alts := [], laidByText := true, laidKinds := [.data, .data, .data, .data, .pinned], laidTests := true, laidLooks := .later }
def ShowHexUptoCardSaid : Prop := Claim7.holds Tryz.pinned (.plain (OpenSpec.upto showHexSpec)) showHexUptoCard

/-- THE SECOND FORM's CARD OF 'tillerlaw14.ShowBack'. -/
def showBackUptoCard : Claim7 := { stood := { row := showBackUptoRow, standIns := [], harness := (true, "b2308db712d87b9f5fbc650312506420aa9c9e793eaee373ee474e84c5fb15fd"), looks := true }, kinds := [], alts := [], laidByText := true, laidKinds := [.data, .data, .data, .data, .pinned], laidTests := true, laidLooks := .later }
def ShowBackUptoCardSaid : Prop := Claim7.holds Tryz.pinned (.plain (OpenSpec.upto showBackSpec)) showBackUptoCard

/-- THE SECOND FORM's CARD OF 'tillerlaw14.ShowFewest'. -/
def showFewestUptoCard : Claim7 := { stood := { row := showFewestUptoRow, standIns := [], harness := (true, "b2308db712d87b9f5fbc650312506420aa9c9e793eaee373ee474e84c5fb15fd"), looks := true }, kinds := [], alts := [], laidByText := true, laidKinds := [.data, .data, .data, .data, .pinned], laidTests := true, laidLooks := .later }
def ShowFewestUptoCardSaid : Prop := Claim7.holds Tryz.pinned (.plain (OpenSpec.upto showFewestSpec)) showFewestUptoCard

/-- THE SECOND FORM's CARD OF 'tillerlaw14.ShowSigns'. -/
def showSignsUptoCard : Claim7 := { stood := { row := showSignsUptoRow, standIns := [], harness := (true, "b2308db712d87b9f5fbc650312506420aa9c9e793eaee373ee474e84c5fb15fd"), looks := true }, kinds := [], alts := [], laidByText := true, laidKinds := [.data, .data, .data, .data, .pinned], laidTests := true, laidLooks := .later }
def ShowSignsUptoCardSaid : Prop := Claim7.holds Tryz.pinned (.plain (OpenSpec.upto showSignsSpec)) showSignsUptoCard
end Rows
end Go.Proofs.YtgefjidphfdhdaaGreatDoor
