/-
  No cell of these rows narrows 'for every input' (looked for: loops, veiled, ifaces, maps, wideKeys, modest, calm, conditions, laid).
  DERIVED. THE GIVEN ROWS OF THIS SEAT. 5 by the template 'for every input the law returns true; each argument reads behind the call as it read before'; 0 by the template 'total and deterministic' (their statements: YtehfjljnaencjaaTotals.lean).
  GIVEN WITH THE SEED: the statements are not yours to turn. If you find one false, say at which input.
  Laid BY PROGRAM, IN A SANDBOX (cutbox-rows.mjs): the forced cells as the released guide's own fill.sh prints them over the translation 9476234b7cb18916… (all of the seat's roots in one cut). By AI agents, Wed Nov 11 2026. No macro, syntax, notation, axiom, sorry.
-/
import Derived.Test.YtehfjljnaencjaaChecked
import GoSem.Claim
import GoSem.ClaimJoined
import GoSem.ClaimMapViews
import Derived.JoinedTies
import Derived.KernelRfl
namespace Go.Proofs.Ytehfjljnaencjaa
/- THE CELL 'sum', in the pinned program and in every row, IS THE sha256 OF THE DUMP (.gsa) THAT YtehfjljnaencjaaProg.lean LOADS. Nothing in Lean hashes anything: it is a label: what it is worth is what the hold of that sum in a sandbox is worth. -/
noncomputable def Try.pinned : Pinned := { name := "ytehfjljnaencjaa", sum := "9476234b7cb18916041f1680711dfbbecd8d61335125423e9915336b3607cd53", checked := Try.checked }
namespace Rows
def none {H : Type} : Left H := { results := [], args := [] }

/-- 'tillerlaw09.ScaleScales': WHATEVER THE INPUT: true; the input reads as it did. -/
def scaleScalesSpec : ChangeSpec := { name := "scaleScales", fn := fun _ => fun
  | [d1, d2, d3] => { results := [.lit (.bool true)], args := [d1, d2, d3] }
  | _ => none }
def scaleScalesRow : OpenClaim := { program := "ytehfjljnaencjaa", sum := "9476234b7cb18916041f1680711dfbbecd8d61335125423e9915336b3607cd53", func := "tiller/tillerlaw09.ScaleScales", spec := "scaleScales", inPlace := ["math/bits.Add64"], apart := false }
def ScaleScalesSaid : Prop := scaleScalesRow.holds Try.pinned (OpenSpec.ofChange scaleScalesSpec)

/-- ITS FALSE NEIGHBOUR: 'it returns false'. Refute it at one input. -/
def scaleScalesWrong : ChangeSpec := { name := "scaleScales", fn := fun _ => fun
  | [d1, d2, d3] => { results := [.lit (.bool false)], args := [d1, d2, d3] }
  | _ => none }
def ScaleScalesWrongFalsely : Prop := scaleScalesRow.holds Try.pinned (OpenSpec.ofChange scaleScalesWrong)

/-- 'tillerlaw09.ScaleLogs': WHATEVER THE INPUT: true; the input reads as it did. -/
def scaleLogsSpec : ChangeSpec := { name := "scaleLogs", fn := fun _ => fun
  | [d] => { results := [.lit (.bool true)], args := [d] }
  | _ => none }
def scaleLogsRow : OpenClaim := { program := "ytehfjljnaencjaa", sum := "9476234b7cb18916041f1680711dfbbecd8d61335125423e9915336b3607cd53", func := "tiller/tillerlaw09.ScaleLogs", spec := "scaleLogs", inPlace := ["math/bits.Add64"], apart := false }
def ScaleLogsSaid : Prop := scaleLogsRow.holds Try.pinned (OpenSpec.ofChange scaleLogsSpec)

/-- ITS FALSE NEIGHBOUR: 'it returns false'. Refute it at one input. -/
def scaleLogsWrong : ChangeSpec := { name := "scaleLogs", fn := fun _ => fun
  | [d] => { results := [.lit (.bool false)], args := [d] }
  | _ => none }
def ScaleLogsWrongFalsely : Prop := scaleLogsRow.holds Try.pinned (OpenSpec.ofChange scaleLogsWrong)

/-- 'tillerlaw09.ScaleNexts': WHATEVER THE INPUT: true; the input reads as it did. -/
def scaleNextsSpec : ChangeSpec := { name := "scaleNexts", fn := fun _ => fun
  | [d] => { results := [.lit (.bool true)], args := [d] }
  | _ => none }
def scaleNextsRow : OpenClaim := { program := "ytehfjljnaencjaa", sum := "9476234b7cb18916041f1680711dfbbecd8d61335125423e9915336b3607cd53", func := "tiller/tillerlaw09.ScaleNexts", spec := "scaleNexts", inPlace := ["math/bits.Add64"], apart := false }
def ScaleNextsSaid : Prop := scaleNextsRow.holds Try.pinned (OpenSpec.ofChange scaleNextsSpec)

/-- ITS FALSE NEIGHBOUR: 'it returns false'. Refute it at one input. -/
def scaleNextsWrong : ChangeSpec := { name := "scaleNexts", fn := fun _ => fun
  | [d] => { results := [.lit (.bool false)], args := [d] }
  | _ => none }
def ScaleNextsWrongFalsely : Prop := scaleNextsRow.holds Try.pinned (OpenSpec.ofChange scaleNextsWrong)

/-- 'tillerlaw09.ScaleBack': WHATEVER THE INPUT: true; the input reads as it did. -/
def scaleBackSpec : ChangeSpec := { name := "scaleBack", fn := fun _ => fun
  | [d1, d2] => { results := [.lit (.bool true)], args := [d1, d2] }
  | _ => none }
def scaleBackRow : OpenClaim := { program := "ytehfjljnaencjaa", sum := "9476234b7cb18916041f1680711dfbbecd8d61335125423e9915336b3607cd53", func := "tiller/tillerlaw09.ScaleBack", spec := "scaleBack", inPlace := ["math/bits.Add64"], apart := false }
def ScaleBackSaid : Prop := scaleBackRow.holds Try.pinned (OpenSpec.ofChange scaleBackSpec)

/-- ITS FALSE NEIGHBOUR: 'it returns false'. Refute it at one input. -/
def scaleBackWrong : ChangeSpec := { name := "scaleBack", fn := fun _ => fun
  | [d1, d2] => { results := [.lit (.bool false)], args := [d1, d2] }
  | _ => none }
def ScaleBackWrongFalsely : Prop := scaleBackRow.holds Try.pinned (OpenSpec.ofChange scaleBackWrong)

/-- 'tillerlaw09.ScaleSteps': WHATEVER THE INPUT: true; the input reads as it did. -/
def scaleStepsSpec : ChangeSpec := { name := "scaleSteps", fn := fun _ => fun
  | [d] => { results := [.lit (.bool true)], args := [d] }
  | _ => none }
def scaleStepsRow : OpenClaim := { program := "ytehfjljnaencjaa", sum := "9476234b7cb18916041f1680711dfbbecd8d61335125423e9915336b3607cd53", func := "tiller/tillerlaw09.ScaleSteps", spec := "scaleSteps", inPlace := ["math/bits.Add64", "math/bits.Sub64"], apart := false }
def ScaleStepsSaid : Prop := scaleStepsRow.holds Try.pinned (OpenSpec.ofChange scaleStepsSpec)

/-- ITS FALSE NEIGHBOUR: 'it returns false'. Refute it at one input. -/
def scaleStepsWrong : ChangeSpec := { name := "scaleSteps", fn := fun _ => fun
  | [d] => { results := [.lit (.bool false)], args := [d] }
  | _ => none }
def ScaleStepsWrongFalsely : Prop := scaleStepsRow.holds Try.pinned (OpenSpec.ofChange scaleStepsWrong)

/- THE SECOND FORM. 'bulk': how many values and letters a reading holds, each counted each time it is reached (what is shared counts as often as it is met; a slice's spare places count too). A statement '..UptoSaid' is the law's where the arguments, and the package variables that the reading takes, are together of bulk at most 1048576: NARROWER than '..Said'. Prove '..Said' where nothing that the law and all that it calls make is longer than what came in: it says more and counts as full. Else prove '..UptoSaid'. A law counts once. -/
mutual
def uptoBulk {H : Type} : DataW H → Nat
  | .lit (.string bytes) => bytes.length + 1
  | .lit _ => 1
  | .nil => 1
  | .ptr d => uptoBulk d + 1
  | .slice elems spare => uptoBulkAll elems + uptoBulkAll spare + 1
  | .agg parts => uptoBulkAll parts + 1
  | .iface _ d => uptoBulk d + 1
  | .map entries => uptoBulkEntries entries + 1
  | .held _ => 1
def uptoBulkAll {H : Type} : List (DataW H) → Nat
  | [] => 0
  | d :: r => uptoBulk d + uptoBulkAll r
def uptoBulkEntries {H : Type} : List (Lit × DataW H) → Nat
  | [] => 0
  | x :: r => uptoBulkEntry x + uptoBulkEntries r
def uptoBulkEntry {H : Type} : Lit × DataW H → Nat
  | (.string bytes, d) => bytes.length + uptoBulk d + 1
  | (_, d) => uptoBulk d + 1
 end
def uptoSmall : (H : Type) → List (DataW H) → Bool := fun _ ds => decide (uptoBulkAll ds ≤ 1048576)
def OpenSpec.upto (s : _root_.Go.ChangeSpec) : _root_.Go.OpenSpec := { _root_.Go.OpenSpec.ofChange s with cond := some uptoSmall }

/-- 'tillerlaw09.ScaleScales', WHERE WHAT IT READS IS OF BULK AT MOST 1048576: true; the input reads as it did. -/
def scaleScalesUptoRow : OpenClaim := { program := "ytehfjljnaencjaa", sum := "9476234b7cb18916041f1680711dfbbecd8d61335125423e9915336b3607cd53", func := "tiller/tillerlaw09.ScaleScales", spec := "scaleScales", inPlace := ["math/bits.Add64"], apart := false, narrowed := true }
def ScaleScalesUptoSaid : Prop := scaleScalesUptoRow.holds Try.pinned (OpenSpec.upto scaleScalesSpec)

/-- 'tillerlaw09.ScaleLogs', WHERE WHAT IT READS IS OF BULK AT MOST 1048576: true; the input reads as it did. -/
def scaleLogsUptoRow : OpenClaim := { program := "ytehfjljnaencjaa", sum := "9476234b7cb18916041f1680711dfbbecd8d61335125423e9915336b3607cd53", func := "tiller/tillerlaw09.ScaleLogs", spec := "scaleLogs", inPlace := ["math/bits.Add64"], apart := false, narrowed := true }
def ScaleLogsUptoSaid : Prop := scaleLogsUptoRow.holds Try.pinned (OpenSpec.upto scaleLogsSpec)

/-- 'tillerlaw09.ScaleNexts', WHERE WHAT IT READS IS OF BULK AT MOST 1048576: true; the input reads as it did. -/
def scaleNextsUptoRow : OpenClaim := { program := "ytehfjljnaencjaa", sum := "9476234b7cb18916041f1680711dfbbecd8d61335125423e9915336b3607cd53", func := "tiller/tillerlaw09.ScaleNexts", spec := "scaleNexts", inPlace := ["math/bits.Add64"], apart := false, narrowed := true }
def ScaleNextsUptoSaid : Prop := scaleNextsUptoRow.holds Try.pinned (OpenSpec.upto scaleNextsSpec)

/-- 'tillerlaw09.ScaleBack', WHERE WHAT IT READS IS OF BULK AT MOST 1048576: true; the input reads as it did. -/
def scaleBackUptoRow : OpenClaim := { program := "ytehfjljnaencjaa", sum := "9476234b7cb18916041f1680711dfbbecd8d61335125423e9915336b3607cd53", func := "tiller/tillerlaw09.ScaleBack", spec := "scaleBack", inPlace := ["math/bits.Add64"], apart := false, narrowed := true }
def ScaleBackUptoSaid : Prop := scaleBackUptoRow.holds Try.pinned (OpenSpec.upto scaleBackSpec)

/-- 'tillerlaw09.ScaleSteps', WHERE WHAT IT READS IS OF BULK AT MOST 1048576: true; the input reads as it did. -/
def scaleStepsUptoRow : OpenClaim := { program := "ytehfjljnaencjaa", sum := "9476234b7cb18916041f1680711dfbbecd8d61335125423e9915336b3607cd53", func := "tiller/tillerlaw09.ScaleSteps", spec := "scaleSteps", inPlace := ["math/bits.Add64", "math/bits.Sub64"], apart := false, narrowed := true }
def ScaleStepsUptoSaid : Prop := scaleStepsUptoRow.holds Try.pinned (OpenSpec.upto scaleStepsSpec)

end Rows
end Go.Proofs.Ytehfjljnaencjaa
