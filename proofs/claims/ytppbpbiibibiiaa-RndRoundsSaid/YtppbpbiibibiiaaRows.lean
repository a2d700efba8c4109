/-
  No cell of these rows narrows 'for every input' (looked for: loops, veiled, ifaces, maps, wideKeys, modest, calm, conditions, laid).
  DERIVED. THE GIVEN ROWS OF THIS SEAT. 5 by the template 'for every input the law returns true; each argument reads behind the call as it read before'; 0 by the template 'total and deterministic' (their statements: YtppbpbiibibiiaaTotals.lean).
  GIVEN WITH THE SEED: the statements are not yours to turn. If you find one false, say at which input.
  Laid BY PROGRAM, IN A SANDBOX (cutbox-rows.mjs): the forced cells as the released guide's own fill.sh prints them over the translation dbce28ce5ac55ceb… (all of the seat's roots in one cut). By AI agents, Wed Nov 11 2026. No macro, syntax, notation, axiom, sorry.
-/
import Derived.Test.YtppbpbiibibiiaaChecked
import GoSem.Claim
import GoSem.ClaimJoined
import GoSem.ClaimMapViews
import Derived.JoinedTies
import Derived.KernelRfl
namespace Go.Proofs.Ytppbpbiibibiiaa
/- THE CELL 'sum', in the pinned program and in every row, IS THE sha256 OF THE DUMP (.gsa) THAT YtppbpbiibibiiaaProg.lean LOADS. Nothing in Lean hashes anything: it is a label: what it is worth is what the hold of that sum in a sandbox is worth. -/
noncomputable def Try.pinned : Pinned := { name := "ytppbpbiibibiiaa", sum := "dbce28ce5ac55ceb2965c1547e6326c3ed04ca896a426fb071976f16cba643d2", checked := Try.checked }
namespace Rows
def none {H : Type} : Left H := { results := [], args := [] }

/-- 'tillerlaw04.RndRounds': WHATEVER THE INPUT: true; the input reads as it did. -/
def rndRoundsSpec : ChangeSpec := { name := "rndRounds", fn := fun _ => fun
  | [d1, d2] => { results := [.lit (.bool true)], args := [d1, d2] }
  | _ => none }
def rndRoundsRow : OpenClaim := { program := "ytppbpbiibibiiaa", sum := "dbce28ce5ac55ceb2965c1547e6326c3ed04ca896a426fb071976f16cba643d2", func := "tiller/tillerlaw04.RndRounds", spec := "rndRounds", inPlace := ["math/bits.Add64"], apart := false }
def RndRoundsSaid : Prop := rndRoundsRow.holds Try.pinned (OpenSpec.ofChange rndRoundsSpec)

/-- ITS FALSE NEIGHBOUR: 'it returns false'. Refute it at one input. -/
def rndRoundsWrong : ChangeSpec := { name := "rndRounds", fn := fun _ => fun
  | [d1, d2] => { results := [.lit (.bool false)], args := [d1, d2] }
  | _ => none }
def RndRoundsWrongFalsely : Prop := rndRoundsRow.holds Try.pinned (OpenSpec.ofChange rndRoundsWrong)

/-- 'tillerlaw04.RndWholes': WHATEVER THE INPUT: true; the input reads as it did. -/
def rndWholesSpec : ChangeSpec := { name := "rndWholes", fn := fun _ => fun
  | [d1, d2] => { results := [.lit (.bool true)], args := [d1, d2] }
  | _ => none }
def rndWholesRow : OpenClaim := { program := "ytppbpbiibibiiaa", sum := "dbce28ce5ac55ceb2965c1547e6326c3ed04ca896a426fb071976f16cba643d2", func := "tiller/tillerlaw04.RndWholes", spec := "rndWholes", inPlace := ["math/bits.Add64"], apart := false }
def RndWholesSaid : Prop := rndWholesRow.holds Try.pinned (OpenSpec.ofChange rndWholesSpec)

/-- ITS FALSE NEIGHBOUR: 'it returns false'. Refute it at one input. -/
def rndWholesWrong : ChangeSpec := { name := "rndWholes", fn := fun _ => fun
  | [d1, d2] => { results := [.lit (.bool false)], args := [d1, d2] }
  | _ => none }
def RndWholesWrongFalsely : Prop := rndWholesRow.holds Try.pinned (OpenSpec.ofChange rndWholesWrong)

/-- 'tillerlaw04.RndOrder': WHATEVER THE INPUT: true; the input reads as it did. -/
def rndOrderSpec : ChangeSpec := { name := "rndOrder", fn := fun _ => fun
  | [d1, d2, d3] => { results := [.lit (.bool true)], args := [d1, d2, d3] }
  | _ => none }
def rndOrderRow : OpenClaim := { program := "ytppbpbiibibiiaa", sum := "dbce28ce5ac55ceb2965c1547e6326c3ed04ca896a426fb071976f16cba643d2", func := "tiller/tillerlaw04.RndOrder", spec := "rndOrder", inPlace := ["math/bits.Add64"], apart := false }
def RndOrderSaid : Prop := rndOrderRow.holds Try.pinned (OpenSpec.ofChange rndOrderSpec)

/-- ITS FALSE NEIGHBOUR: 'it returns false'. Refute it at one input. -/
def rndOrderWrong : ChangeSpec := { name := "rndOrder", fn := fun _ => fun
  | [d1, d2, d3] => { results := [.lit (.bool false)], args := [d1, d2, d3] }
  | _ => none }
def RndOrderWrongFalsely : Prop := rndOrderRow.holds Try.pinned (OpenSpec.ofChange rndOrderWrong)

/-- 'tillerlaw04.RndBetween': WHATEVER THE INPUT: true; the input reads as it did. -/
def rndBetweenSpec : ChangeSpec := { name := "rndBetween", fn := fun _ => fun
  | [d1, d2] => { results := [.lit (.bool true)], args := [d1, d2] }
  | _ => none }
def rndBetweenRow : OpenClaim := { program := "ytppbpbiibibiiaa", sum := "dbce28ce5ac55ceb2965c1547e6326c3ed04ca896a426fb071976f16cba643d2", func := "tiller/tillerlaw04.RndBetween", spec := "rndBetween", inPlace := ["math/bits.Add64"], apart := false }
def RndBetweenSaid : Prop := rndBetweenRow.holds Try.pinned (OpenSpec.ofChange rndBetweenSpec)

/-- ITS FALSE NEIGHBOUR: 'it returns false'. Refute it at one input. -/
def rndBetweenWrong : ChangeSpec := { name := "rndBetween", fn := fun _ => fun
  | [d1, d2] => { results := [.lit (.bool false)], args := [d1, d2] }
  | _ => none }
def RndBetweenWrongFalsely : Prop := rndBetweenRow.holds Try.pinned (OpenSpec.ofChange rndBetweenWrong)

/-- 'tillerlaw04.RndSigns': WHATEVER THE INPUT: true; the input reads as it did. -/
def rndSignsSpec : ChangeSpec := { name := "rndSigns", fn := fun _ => fun
  | [d1, d2] => { results := [.lit (.bool true)], args := [d1, d2] }
  | _ => none }
def rndSignsRow : OpenClaim := { program := "ytppbpbiibibiiaa", sum := "dbce28ce5ac55ceb2965c1547e6326c3ed04ca896a426fb071976f16cba643d2", func := "tiller/tillerlaw04.RndSigns", spec := "rndSigns", inPlace := ["math/bits.Add64"], apart := false }
def RndSignsSaid : Prop := rndSignsRow.holds Try.pinned (OpenSpec.ofChange rndSignsSpec)

/-- ITS FALSE NEIGHBOUR: 'it returns false'. Refute it at one input. -/
def rndSignsWrong : ChangeSpec := { name := "rndSigns", fn := fun _ => fun
  | [d1, d2] => { results := [.lit (.bool false)], args := [d1, d2] }
  | _ => none }
def RndSignsWrongFalsely : Prop := rndSignsRow.holds Try.pinned (OpenSpec.ofChange rndSignsWrong)

/- THE SECOND FORM. 'bulk': how many values and letters a reading holds, each counted each time it is reached (what is shared counts as often as it is met; a slice's spare places count too). A statement '..UptoSaid' is the law's where the arguments, and the package variables that the reading takes, are together of bulk at most 1048576: NARROWER than '..Said'. Prove '..Said' where nothing that the law and all that it calls make is longer than what came in: it says more and counts as full. Else prove '..UptoSaid'. A law counts once. -/
mutual
def uptoBulk {H : Type} : DataW H → Nat
  | .lit (.string bytes) => bytes.length + 1
  | .lit _ => 1
  | .nil => 1
  | .ptr d => uptoBulk d + 1
  | .slice elems spare => uptoBulkAll elems + uptoBulkAll spare + 1
  | .agg parts => uptoBulkAll parts + 1
  | .iface _ d => uptoBulk d + 1
  | .map entries => uptoBulkEntries entries + 1
  | .held _ => 1
def uptoBulkAll {H : Type} : List (DataW H) → Nat
  | [] => 0
  | d :: r => uptoBulk d + uptoBulkAll r
def uptoBulkEntries {H : Type} : List (Lit × DataW H) → Nat
  | [] => 0
  | x :: r => uptoBulkEntry x + uptoBulkEntries r
def uptoBulkEntry {H : Type} : Lit × DataW H → Nat
  | (.string bytes, d) => bytes.length + uptoBulk d + 1
  | (_, d) => uptoBulk d + 1
 end
def uptoSmall : (H : Type) → List (DataW H) → Bool := fun _ ds => decide (uptoBulkAll ds ≤ 1048576)
def OpenSpec.upto (s : _root_.Go.ChangeSpec) : _root_.Go.OpenSpec := { _root_.Go.OpenSpec.ofChange s with cond := some uptoSmall }

/-- 'tillerlaw04.RndRounds', WHERE WHAT IT READS IS OF BULK AT MOST 1048576: true; the input reads as it did. -/
def rndRoundsUptoRow : OpenClaim := { program := "ytppbpbiibibiiaa", sum := "dbce28ce5ac55ceb2965c1547e6326c3ed04ca896a426fb071976f16cba643d2", func := "tiller/tillerlaw04.RndRounds", spec := "rndRounds", inPlace := ["math/bits.Add64"], apart := false, narrowed := true }
def RndRoundsUptoSaid : Prop := rndRoundsUptoRow.holds Try.pinned (OpenSpec.upto rndRoundsSpec)

/-- 'tillerlaw04.RndWholes', WHERE WHAT IT READS IS OF BULK AT MOST 1048576: true; the input reads as it did. -/
def rndWholesUptoRow : OpenClaim := { program := "ytppbpbiibibiiaa", sum := "dbce28ce5ac55ceb2965c1547e6326c3ed04ca896a426fb071976f16cba643d2", func := "tiller/tillerlaw04.RndWholes", spec := "rndWholes", inPlace := ["math/bits.Add64"], apart := false, narrowed := true }
def RndWholesUptoSaid : Prop := rndWholesUptoRow.holds Try.pinned (OpenSpec.upto rndWholesSpec)

/-- 'tillerlaw04.RndOrder', WHERE WHAT IT READS IS OF BULK AT MOST 1048576: true; the input reads as it did. -/
def rndOrderUptoRow : OpenClaim := { program := "ytppbpbiibibiiaa", sum := "dbce28ce5ac55ceb2965c1547e6326c3ed04ca896a426fb071976f16cba643d2", func := "tiller/tillerlaw04.RndOrder", spec := "rndOrder", inPlace := ["math/bits.Add64"], apart := false, narrowed := true }
def RndOrderUptoSaid : Prop := rndOrderUptoRow.holds Try.pinned (OpenSpec.upto rndOrderSpec)

/-- 'tillerlaw04.RndBetween', WHERE WHAT IT READS IS OF BULK AT MOST 1048576: true; the input reads as it did. -/
def rndBetweenUptoRow : OpenClaim := { program := "ytppbpbiibibiiaa", sum := "dbce28ce5ac55ceb2965c1547e6326c3ed04ca896a426fb071976f16cba643d2", func := "tiller/tillerlaw04.RndBetween", spec := "rndBetween", inPlace := ["math/bits.Add64"], apart := false, narrowed := true }
def RndBetweenUptoSaid : Prop := rndBetweenUptoRow.holds Try.pinned (OpenSpec.upto rndBetweenSpec)

/-- 'tillerlaw04.RndSigns', WHERE WHAT IT READS IS OF BULK AT MOST 1048576: true; the input reads as it did. -/
def rndSignsUptoRow : OpenClaim := { program := "ytppbpbiibibiiaa", sum := "dbce28ce5ac55ceb2965c1547e6326c3ed04ca896a426fb071976f16cba643d2", func := "tiller/tillerlaw04.RndSigns", spec := "rndSigns", inPlace := ["math/bits.Add64"], apart := false, narrowed := true }
def RndSignsUptoSaid : Prop := rndSignsUptoRow.holds Try.pinned (OpenSpec.upto rndSignsSpec)

end Rows
end Go.Proofs.Ytppbpbiibibiiaa
