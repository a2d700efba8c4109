/-
  No cell of these rows narrows 'for every input' (looked for: loops, veiled, ifaces, maps, wideKeys, modest, calm, conditions, laid).
  DERIVED. THE GIVEN ROWS OF THIS SEAT. 5 by the template 'for every input the law returns true; each argument reads behind the call as it read before'; 0 by the template 'total and deterministic' (their statements: YtgmfnecdpfdncaaTotals.lean).
  GIVEN WITH THE SEED: the statements are not yours to turn. If you find one false, say at which input.
  Laid BY PROGRAM, IN A SANDBOX (cutbox-rows.mjs): the forced cells as the released guide's own fill.sh prints them over the translation 4a082a1c3f12f17b… (all of the seat's roots in one cut). By AI agents, Wed Nov 11 2026. No macro, syntax, notation, axiom, sorry.
-/
import Derived.Test.YtgmfnecdpfdncaaChecked
import GoSem.Claim
import GoSem.ClaimJoined
import GoSem.ClaimMapViews
import Derived.JoinedTies
import Derived.KernelRfl
namespace Go.Proofs.Ytgmfnecdpfdncaa
/- THE CELL 'sum', in the pinned program and in every row, IS THE sha256 OF THE DUMP (.gsa) THAT YtgmfnecdpfdncaaProg.lean LOADS. Nothing in Lean hashes anything: it is a label: what it is worth is what the hold of that sum in a sandbox is worth. -/
noncomputable def Try.pinned : Pinned := { name := "ytgmfnecdpfdncaa", sum := "4a082a1c3f12f17be4d154d90b55869aeb3963784d98b6c5e2e7915e4b9392b2", checked := Try.checked }
namespace Rows
def none {H : Type} : Left H := { results := [], args := [] }

/-- 'tillerlaw05.SumsAdds': WHATEVER THE INPUT: true; the input reads as it did. -/
def sumsAddsSpec : ChangeSpec := { name := "sumsAdds", fn := fun _ => fun
  | [d1, d2, d3] => { results := [.lit (.bool true)], args := [d1, d2, d3] }
  | _ => none }
def sumsAddsRow : OpenClaim := { program := "ytgmfnecdpfdncaa", sum := "4a082a1c3f12f17be4d154d90b55869aeb3963784d98b6c5e2e7915e4b9392b2", func := "tiller/tillerlaw05.SumsAdds", spec := "sumsAdds", inPlace := ["math/bits.Add64", "math/bits.Sub64"], apart := false }
def SumsAddsSaid : Prop := sumsAddsRow.holds Try.pinned (OpenSpec.ofChange sumsAddsSpec)

/-- ITS FALSE NEIGHBOUR: 'it returns false'. Refute it at one input. -/
def sumsAddsWrong : ChangeSpec := { name := "sumsAdds", fn := fun _ => fun
  | [d1, d2, d3] => { results := [.lit (.bool false)], args := [d1, d2, d3] }
  | _ => none }
def SumsAddsWrongFalsely : Prop := sumsAddsRow.holds Try.pinned (OpenSpec.ofChange sumsAddsWrong)

/-- 'tillerlaw05.SumsSubs': WHATEVER THE INPUT: true; the input reads as it did. -/
def sumsSubsSpec : ChangeSpec := { name := "sumsSubs", fn := fun _ => fun
  | [d1, d2, d3] => { results := [.lit (.bool true)], args := [d1, d2, d3] }
  | _ => none }
def sumsSubsRow : OpenClaim := { program := "ytgmfnecdpfdncaa", sum := "4a082a1c3f12f17be4d154d90b55869aeb3963784d98b6c5e2e7915e4b9392b2", func := "tiller/tillerlaw05.SumsSubs", spec := "sumsSubs", inPlace := ["math/bits.Add64", "math/bits.Sub64"], apart := false }
def SumsSubsSaid : Prop := sumsSubsRow.holds Try.pinned (OpenSpec.ofChange sumsSubsSpec)

/-- ITS FALSE NEIGHBOUR: 'it returns false'. Refute it at one input. -/
def sumsSubsWrong : ChangeSpec := { name := "sumsSubs", fn := fun _ => fun
  | [d1, d2, d3] => { results := [.lit (.bool false)], args := [d1, d2, d3] }
  | _ => none }
def SumsSubsWrongFalsely : Prop := sumsSubsRow.holds Try.pinned (OpenSpec.ofChange sumsSubsWrong)

/-- 'tillerlaw05.SumsBack': WHATEVER THE INPUT: true; the input reads as it did. -/
def sumsBackSpec : ChangeSpec := { name := "sumsBack", fn := fun _ => fun
  | [d1, d2, d3] => { results := [.lit (.bool true)], args := [d1, d2, d3] }
  | _ => none }
def sumsBackRow : OpenClaim := { program := "ytgmfnecdpfdncaa", sum := "4a082a1c3f12f17be4d154d90b55869aeb3963784d98b6c5e2e7915e4b9392b2", func := "tiller/tillerlaw05.SumsBack", spec := "sumsBack", inPlace := ["math/bits.Add64", "math/bits.Sub64"], apart := false }
def SumsBackSaid : Prop := sumsBackRow.holds Try.pinned (OpenSpec.ofChange sumsBackSpec)

/-- ITS FALSE NEIGHBOUR: 'it returns false'. Refute it at one input. -/
def sumsBackWrong : ChangeSpec := { name := "sumsBack", fn := fun _ => fun
  | [d1, d2, d3] => { results := [.lit (.bool false)], args := [d1, d2, d3] }
  | _ => none }
def SumsBackWrongFalsely : Prop := sumsBackRow.holds Try.pinned (OpenSpec.ofChange sumsBackWrong)

/-- 'tillerlaw05.SumsTwo': WHATEVER THE INPUT: true; the input reads as it did. -/
def sumsTwoSpec : ChangeSpec := { name := "sumsTwo", fn := fun _ => fun
  | [d1, d2] => { results := [.lit (.bool true)], args := [d1, d2] }
  | _ => none }
def sumsTwoRow : OpenClaim := { program := "ytgmfnecdpfdncaa", sum := "4a082a1c3f12f17be4d154d90b55869aeb3963784d98b6c5e2e7915e4b9392b2", func := "tiller/tillerlaw05.SumsTwo", spec := "sumsTwo", inPlace := ["math/bits.Add64", "math/bits.Sub64"], apart := false }
def SumsTwoSaid : Prop := sumsTwoRow.holds Try.pinned (OpenSpec.ofChange sumsTwoSpec)

/-- ITS FALSE NEIGHBOUR: 'it returns false'. Refute it at one input. -/
def sumsTwoWrong : ChangeSpec := { name := "sumsTwo", fn := fun _ => fun
  | [d1, d2] => { results := [.lit (.bool false)], args := [d1, d2] }
  | _ => none }
def SumsTwoWrongFalsely : Prop := sumsTwoRow.holds Try.pinned (OpenSpec.ofChange sumsTwoWrong)

/-- 'tillerlaw05.SumsSigns': WHATEVER THE INPUT: true; the input reads as it did. -/
def sumsSignsSpec : ChangeSpec := { name := "sumsSigns", fn := fun _ => fun
  | [d1, d2, d3] => { results := [.lit (.bool true)], args := [d1, d2, d3] }
  | _ => none }
def sumsSignsRow : OpenClaim := { program := "ytgmfnecdpfdncaa", sum := "4a082a1c3f12f17be4d154d90b55869aeb3963784d98b6c5e2e7915e4b9392b2", func := "tiller/tillerlaw05.SumsSigns", spec := "sumsSigns", inPlace := ["math/bits.Add64", "math/bits.Sub64"], apart := false }
def SumsSignsSaid : Prop := sumsSignsRow.holds Try.pinned (OpenSpec.ofChange sumsSignsSpec)

/-- ITS FALSE NEIGHBOUR: 'it returns false'. Refute it at one input. -/
def sumsSignsWrong : ChangeSpec := { name := "sumsSigns", fn := fun _ => fun
  | [d1, d2, d3] => { results := [.lit (.bool false)], args := [d1, d2, d3] }
  | _ => none }
def SumsSignsWrongFalsely : Prop := sumsSignsRow.holds Try.pinned (OpenSpec.ofChange sumsSignsWrong)

/- THE SECOND FORM. 'bulk': how many values and letters a reading holds, each counted each time it is reached (what is shared counts as often as it is met; a slice's spare places count too). A statement '..UptoSaid' is the law's where the arguments, and the package variables that the reading takes, are together of bulk at most 1048576: NARROWER than '..Said'. Prove '..Said' where nothing that the law and all that it calls make is longer than what came in: it says more and counts as full. Else prove '..UptoSaid'. A law counts once. -/
mutual
def uptoBulk {H : Type} : DataW H → Nat
  | .lit (.string bytes) => bytes.length + 1
  | .lit _ => 1
  | .nil => 1
  | .ptr d => uptoBulk d + 1
  | .slice elems spare => uptoBulkAll elems + uptoBulkAll spare + 1
  | .agg parts => uptoBulkAll parts + 1
  | .iface _ d => uptoBulk d + 1
  | .map entries => uptoBulkEntries entries + 1
  | .held _ => 1
def uptoBulkAll {H : Type} : List (DataW H) → Nat
  | [] => 0
  | d :: r => uptoBulk d + uptoBulkAll r
def uptoBulkEntries {H : Type} : List (Lit × DataW H) → Nat
  | [] => 0
  | x :: r => uptoBulkEntry x + uptoBulkEntries r
def uptoBulkEntry {H : Type} : Lit × DataW H → Nat
  | (.string bytes, d) => bytes.length + uptoBulk d + 1
  | (_, d) => uptoBulk d + 1
 end
def uptoSmall : (H : Type) → List (DataW H) → Bool := fun _ ds => decide (uptoBulkAll ds ≤ 1048576)
def OpenSpec.upto (s : _root_.Go.ChangeSpec) : _root_.Go.OpenSpec := { _root_.Go.OpenSpec.ofChange s with cond := some uptoSmall }

/-- 'tillerlaw05.SumsAdds', WHERE WHAT IT READS IS OF BULK AT MOST 1048576: true; the input reads as it did. -/
def sumsAddsUptoRow : OpenClaim := { program := "ytgmfnecdpfdncaa", sum := "4a082a1c3f12f17be4d154d90b55869aeb3963784d98b6c5e2e7915e4b9392b2", func := "tiller/tillerlaw05.SumsAdds", spec := "sumsAdds", inPlace := ["math/bits.Add64", "math/bits.Sub64"], apart := false, narrowed := true }
def SumsAddsUptoSaid : Prop := sumsAddsUptoRow.holds Try.pinned (OpenSpec.upto sumsAddsSpec)

/-- 'tillerlaw05.SumsSubs', WHERE WHAT IT READS IS OF BULK AT MOST 1048576: true; the input reads as it did. -/
def sumsSubsUptoRow : OpenClaim := { program := "ytgmfnecdpfdncaa", sum := "4a082a1c3f12f17be4d154d90b55869aeb3963784d98b6c5e2e7915e4b9392b2", func := "tiller/tillerlaw05.SumsSubs", spec := "sumsSubs", inPlace := ["math/bits.Add64", "math/bits.Sub64"], apart := false, narrowed := true }
def SumsSubsUptoSaid : Prop := sumsSubsUptoRow.holds Try.pinned (OpenSpec.upto sumsSubsSpec)

/-- 'tillerlaw05.SumsBack', WHERE WHAT IT READS IS OF BULK AT MOST 1048576: true; the input reads as it did. -/
def sumsBackUptoRow : OpenClaim := { program := "ytgmfnecdpfdncaa", sum := "4a082a1c3f12f17be4d154d90b55869aeb3963784d98b6c5e2e7915e4b9392b2", func := "tiller/tillerlaw05.SumsBack", spec := "sumsBack", inPlace := ["math/bits.Add64", "math/bits.Sub64"], apart := false, narrowed := true }
def SumsBackUptoSaid : Prop := sumsBackUptoRow.holds Try.pinned (OpenSpec.upto sumsBackSpec)

/-- 'tillerlaw05.SumsTwo', WHERE WHAT IT READS IS OF BULK AT MOST 1048576: true; the input reads as it did. -/
def sumsTwoUptoRow : OpenClaim := { program := "ytgmfnecdpfdncaa", sum := "4a082a1c3f12f17be4d154d90b55869aeb3963784d98b6c5e2e7915e4b9392b2", func := "tiller/tillerlaw05.SumsTwo", spec := "sumsTwo", inPlace := ["math/bits.Add64", "math/bits.Sub64"], apart := false, narrowed := true }
def SumsTwoUptoSaid : Prop := sumsTwoUptoRow.holds Try.pinned (OpenSpec.upto sumsTwoSpec)

/-- 'tillerlaw05.SumsSigns', WHERE WHAT IT READS IS OF BULK AT MOST 1048576: true; the input reads as it did. -/
def sumsSignsUptoRow : OpenClaim := { program := "ytgmfnecdpfdncaa", sum := "4a082a1c3f12f17be4d154d90b55869aeb3963784d98b6c5e2e7915e4b9392b2", func := "tiller/tillerlaw05.SumsSigns", spec := "sumsSigns", inPlace := ["math/bits.Add64", "math/bits.Sub64"], apart := false, narrowed := true }
def SumsSignsUptoSaid : Prop := sumsSignsUptoRow.holds Try.pinned (OpenSpec.upto sumsSignsSpec)

end Rows
end Go.Proofs.Ytgmfnecdpfdncaa
