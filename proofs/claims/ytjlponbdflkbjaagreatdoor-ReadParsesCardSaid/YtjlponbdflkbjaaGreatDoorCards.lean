/-
  DERIVED. GIVEN WITH THE SEED: THE CARDS: each row of YtjlponbdflkbjaaGreatDoorRows.lean that lists a variable, with what it lists TIED to the program's text (the seventh form; the later family's looks); each row that meets fmt, with fmt's text TOLD by the authors' own Lean function (tested against real Go, not proved from fmt's source: count such statements apart). THE CARD IS WHAT COUNTS. Prove the row's statement (the work); the ties are given (YtjlponbdflkbjaaGreatDoorTie.lean); close each card by the builder's one call (the guide's Derived/Test/ToyasCard.lean, 'card_holds'). Laid BY PROGRAM, IN A SANDBOX (cutbox-door.mjs). By AI agents, Wed Nov 11 2026. No macro, syntax, notation, axiom, sorry.
-/
import Derived.Test.YtjlponbdflkbjaaGreatDoorRows
import GoSem.ClaimSeven
namespace Go.Proofs.YtjlponbdflkbjaaGreatDoor
namespace Rows

/-- THE TIED CARD OF 'tillerlaw13.ReadParses'. -/
def readParsesCard : Claim7 := { stood := { row := readParsesRow, standIns := [], harness := (true, "31ac09f26eb46653997bf7b1a25a1b963717dca66fe8b1d69e71ac9434e90ef4"), looks := true }, kinds := [], alts := [], laidByText := true, laidKinds := [.data, .handle, .pinned], laidTests := true, laidLooks := .later }
def ReadParsesCardSaid : Prop := Claim7.holds Tryz.pinned (.plain (OpenSpec.ofChange readParsesSpec)) readParsesCard

/-- THE TIED CARD OF 'tillerlaw13.ReadNear'. -/
def readNearCard : Claim7 := { stood := { row := readNearRow, standIns := [], harness := (true, "31ac09f26eb46653997bf7b1a25a1b963717dca66fe8b1d69e71ac9434e90ef4"), looks := true }, kinds := [], alts := [], laidByText := true, laidKinds := [.data, .pinned], laidTests := true, laidLooks := .later }
def ReadNearCardSaid : Prop := Claim7.holds Tryz.pinned (.plain (OpenSpec.ofChange readNearSpec)) readNearCard

/-- THE TIED CARD OF 'tillerlaw13.ReadNoughts'. -/
def readNoughtsCard : Claim7 := { stood := { row := readNoughtsRow, standIns := [], harness := (true, "31ac09f26eb46653997bf7b1a25a1b963717dca66fe8b1d69e71ac9434e90ef4"), looks := true }, kinds := [], alts := [], laidByText := true, laidKinds := [.data, .pinned], laidTests := true, laidLooks := .later }
def ReadNoughtsCardSaid : Prop := Claim7.holds Tryz.pinned (.plain (OpenSpec.ofChange readNoughtsSpec)) readNoughtsCard

/-- THE TIED CARD OF 'tillerlaw13.ReadSigns'. -/
def readSignsCard : Claim7 := { stood := { row := readSignsRow, standIns := [], harness := (true, "31ac09f26eb46653997bf7b1a25a1b963717dca66fe8b1d69e71ac9434e90ef4"), looks := true }, kinds := [], alts := [], laidByText := true, laidKinds := [.data, .handle, .pinned], laidTests := true, laidLooks := .later }
def ReadSignsCardSaid : Prop := Claim7.holds Tryz.pinned (.plain (OpenSpec.ofChange readSignsSpec)) readSignsCard

/-- THE TIED CARD OF 'tillerlaw13.ReadWholes'. -/
def readWholesCard : Claim7 := { stood := { row := readWholesRow, standIns := [], harness := (true, "31ac09f26eb46653997bf7b1a25a1b963717dca66fe8b1d69e71ac9434e90ef4"), looks := true }, kinds := [], alts := [], laidByText := true, laidKinds := [.data, .pinned], laidTests := true, laidLooks := .later }
def ReadWholesCardSaid : Prop := Claim7.holds Tryz.pinned (.plain (OpenSpec.ofChange readWholesSpec)) readWholesCard

/-- THE SECOND FORM's CARD OF 'tillerlaw13.ReadParses'. -/
def readParsesUptoCard : Claim7 := { stood := { row := readParsesUptoRow, standIns := [], harness := (true, "31ac09f26eb46653997bf7b1a25a1b963717dca66fe8b1d69e71ac9434e90ef4"), looks := true }, kinds := [], alts := [], laidByText := true, laidKinds := [.data, .handle, .pinned], laidTests := true, laidLooks := .later }
def ReadParsesUptoCardSaid : Prop := Claim7.holds Tryz.pinned (.plain (OpenSpec.upto readParsesSpec)) readParsesUptoCard

/-- THE SECOND FORM's CARD OF 'tillerlaw13.ReadNear'. -/
def readNearUptoCard : Claim7 := { stood := { row := readNearUptoRow, standIns := [], harness := (true, "31ac09f26eb46653997bf7b1a25a1b963717dca66fe8b1d69e71ac9434e90ef4"), looks := true }, kinds := [], alts := [], laidByText := true, laidKinds := [.data, .pinned], laidTests := true, laidLooks := .later }
def ReadNearUptoCardSaid : Prop := Claim7.holds Tryz.pinned (.plain (OpenSpec.upto readNearSpec)) readNearUptoCard

/-- THE SECOND FORM's CARD OF 'tillerlaw13.ReadNoughts'. -/
def readNoughtsUptoCard : Claim7 := { stood := { row := readNoughtsUptoRow, standIns := [], harness := (true, "31ac09f26eb46653997bf7b1a25a1b963717dca66fe8b1d69e71ac9434e90ef4"), looks := true }, kinds := [], alts := [], laidByText := true, laidKinds := [.data, .pinned], laidTests := true, laidLooks := .later }
def ReadNoughtsUptoCardSaid : Prop := Claim7.holds Tryz.pinned (.plain (OpenSpec.upto readNoughtsSpec)) readNoughtsUptoCard

/-- THE SECOND FORM's CARD OF 'tillerlaw13.ReadSigns'. -/
def readSignsUptoCard : Claim7 := { stood := { row := readSignsUptoRow, standIns := [], harness := (true, "31ac09f26eb46653997bf7b1a25a1b963717dca66fe8b1d69e71ac9434e90ef4"), looks := true }, kinds := [], alts := [], laidByText := true, laidKinds := [.data, .handle, .pinned], laidTests := true, laidLooks := .later }
def ReadSignsUptoCardSaid : Prop := Claim7.holds Tryz.pinned (.plain (OpenSpec.upto readSignsSpec)) readSignsUptoCard

/-- THE SECOND FORM's CARD OF 'tillerlaw13.ReadWholes'. -/
def readWholesUptoCard : Claim7 := { stood := { row := readWholesUptoRow, standIns := [], harness := (true, "31ac09f26eb46653997bf7b1a25a1b963717dca66fe8b1d69e71ac9434e90ef4"), looks := true }, kinds := [], alts := [], laidByText := true, laidKinds := [.data, .pinned], laidTests := true, laidLooks := .later }
def ReadWholesUptoCardSaid : Prop := Claim7.holds Tryz.pinned (.plain (OpenSpec.upto readWholesSpec)) readWholesUptoCard
end Rows
end Go.Proofs.YtjlponbdflkbjaaGreatDoor
