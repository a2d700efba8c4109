/-
  No cell of these rows narrows 'for every input' (looked for: loops, veiled, ifaces, maps, wideKeys, modest, calm, conditions, laid).
  DERIVED. THE GIVEN ROWS OF THIS SEAT. 4 by the template 'for every input the law returns true; each argument reads behind the call as it read before'; 0 by the template 'total and deterministic' (their statements: YtkpmljcpjeeioaaTotals.lean).
  GIVEN WITH THE SEED: the statements are not yours to turn. If you find one false, say at which input.
  Laid BY PROGRAM, IN A SANDBOX (cutbox-rows.mjs): the forced cells as the released guide's own fill.sh prints them over the translation bd08a2cfa6c24ec2… (all of the seat's roots in one cut). By AI agents, Wed Nov 11 2026. No macro, syntax, notation, axiom, sorry.
-/
import Derived.Test.YtkpmljcpjeeioaaChecked
import GoSem.Claim
import GoSem.ClaimJoined
import GoSem.ClaimMapViews
import Derived.JoinedTies
import Derived.KernelRfl
namespace Go.Proofs.Ytkpmljcpjeeioaa
/- THE CELL 'sum', in the pinned program and in every row, IS THE sha256 OF THE DUMP (.gsa) THAT YtkpmljcpjeeioaaProg.lean LOADS. Nothing in Lean hashes anything: it is a label: what it is worth is what the hold of that sum in a sandbox is worth. -/
noncomputable def Try.pinned : Pinned := { name := "ytkpmljcpjeeioaa", sum := "bd08a2cfa6c24ec2b5b0b89e5e856dcf33e8d83770c65ef0bcbf18d69b9a7d0d", checked := Try.checked }
namespace Rows
def none {H : Type} : Left H := { results := [], args := [] }

/-- 'tillerlaw03.PatTakes': WHATEVER THE INPUT: true; the input reads as it did. -/
def patTakesSpec : ChangeSpec := { name := "patTakes", fn := fun _ => fun
  | [d] => { results := [.lit (.bool true)], args := [d] }
  | _ => none }
def patTakesRow : OpenClaim := { program := "ytkpmljcpjeeioaa", sum := "bd08a2cfa6c24ec2b5b0b89e5e856dcf33e8d83770c65ef0bcbf18d69b9a7d0d", func := "tiller/tillerlaw03.PatTakes", spec := "patTakes", apart := false }
def PatTakesSaid : Prop := patTakesRow.holds Try.pinned (OpenSpec.ofChange patTakesSpec)

/-- ITS FALSE NEIGHBOUR: 'it returns false'. Refute it at one input. -/
def patTakesWrong : ChangeSpec := { name := "patTakes", fn := fun _ => fun
  | [d] => { results := [.lit (.bool false)], args := [d] }
  | _ => none }
def PatTakesWrongFalsely : Prop := patTakesRow.holds Try.pinned (OpenSpec.ofChange patTakesWrong)

/-- 'tillerlaw03.PatSigns': WHATEVER THE INPUT: true; the input reads as it did. -/
def patSignsSpec : ChangeSpec := { name := "patSigns", fn := fun _ => fun
  | [d1, d2] => { results := [.lit (.bool true)], args := [d1, d2] }
  | _ => none }
def patSignsRow : OpenClaim := { program := "ytkpmljcpjeeioaa", sum := "bd08a2cfa6c24ec2b5b0b89e5e856dcf33e8d83770c65ef0bcbf18d69b9a7d0d", func := "tiller/tillerlaw03.PatSigns", spec := "patSigns", apart := false }
def PatSignsSaid : Prop := patSignsRow.holds Try.pinned (OpenSpec.ofChange patSignsSpec)

/-- ITS FALSE NEIGHBOUR: 'it returns false'. Refute it at one input. -/
def patSignsWrong : ChangeSpec := { name := "patSigns", fn := fun _ => fun
  | [d1, d2] => { results := [.lit (.bool false)], args := [d1, d2] }
  | _ => none }
def PatSignsWrongFalsely : Prop := patSignsRow.holds Try.pinned (OpenSpec.ofChange patSignsWrong)

/-- 'tillerlaw03.PatBack': WHATEVER THE INPUT: true; the input reads as it did. -/
def patBackSpec : ChangeSpec := { name := "patBack", fn := fun _ => fun
  | [d1, d2] => { results := [.lit (.bool true)], args := [d1, d2] }
  | _ => none }
def patBackRow : OpenClaim := { program := "ytkpmljcpjeeioaa", sum := "bd08a2cfa6c24ec2b5b0b89e5e856dcf33e8d83770c65ef0bcbf18d69b9a7d0d", func := "tiller/tillerlaw03.PatBack", spec := "patBack", apart := false }
def PatBackSaid : Prop := patBackRow.holds Try.pinned (OpenSpec.ofChange patBackSpec)

/-- ITS FALSE NEIGHBOUR: 'it returns false'. Refute it at one input. -/
def patBackWrong : ChangeSpec := { name := "patBack", fn := fun _ => fun
  | [d1, d2] => { results := [.lit (.bool false)], args := [d1, d2] }
  | _ => none }
def PatBackWrongFalsely : Prop := patBackRow.holds Try.pinned (OpenSpec.ofChange patBackWrong)

/-- 'tillerlaw03.PatClasses': WHATEVER THE INPUT: true; the input reads as it did. -/
def patClassesSpec : ChangeSpec := { name := "patClasses", fn := fun _ => fun
  | [d] => { results := [.lit (.bool true)], args := [d] }
  | _ => none }
def patClassesRow : OpenClaim := { program := "ytkpmljcpjeeioaa", sum := "bd08a2cfa6c24ec2b5b0b89e5e856dcf33e8d83770c65ef0bcbf18d69b9a7d0d", func := "tiller/tillerlaw03.PatClasses", spec := "patClasses", apart := false }
def PatClassesSaid : Prop := patClassesRow.holds Try.pinned (OpenSpec.ofChange patClassesSpec)

/-- ITS FALSE NEIGHBOUR: 'it returns false'. Refute it at one input. -/
def patClassesWrong : ChangeSpec := { name := "patClasses", fn := fun _ => fun
  | [d] => { results := [.lit (.bool false)], args := [d] }
  | _ => none }
def PatClassesWrongFalsely : Prop := patClassesRow.holds Try.pinned (OpenSpec.ofChange patClassesWrong)

/- THE SECOND FORM. 'bulk': how many values and letters a reading holds, each counted each time it is reached (what is shared counts as often as it is met; a slice's spare places count too). A statement '..UptoSaid' is the law's where the arguments, and the package variables that the reading takes, are together of bulk at most 1048576: NARROWER than '..Said'. Prove '..Said' where nothing that the law and all that it calls make is longer than what came in: it says more and counts as full. Else prove '..UptoSaid'. A law counts once. -/
mutual
def uptoBulk {H : Type} : DataW H → Nat
  | .lit (.string bytes) => bytes.length + 1
  | .lit _ => 1
  | .nil => 1
  | .ptr d => uptoBulk d + 1
  | .slice elems spare => uptoBulkAll elems + uptoBulkAll spare + 1
  | .agg parts => uptoBulkAll parts + 1
  | .iface _ d => uptoBulk d + 1
  | .map entries => uptoBulkEntries entries + 1
  | .held _ => 1
def uptoBulkAll {H : Type} : List (DataW H) → Nat
  | [] => 0
  | d :: r => uptoBulk d + uptoBulkAll r
def uptoBulkEntries {H : Type} : List (Lit × DataW H) → Nat
  | [] => 0
  | x :: r => uptoBulkEntry x + uptoBulkEntries r
def uptoBulkEntry {H : Type} : Lit × DataW H → Nat
  | (.string bytes, d) => bytes.length + uptoBulk d + 1
  | (_, d) => uptoBulk d + 1
 end
def uptoSmall : (H : Type) → List (DataW H) → Bool := fun _ ds => decide (uptoBulkAll ds ≤ 1048576)
def OpenSpec.upto (s : _root_.Go.ChangeSpec) : _root_.Go.OpenSpec := { _root_.Go.OpenSpec.ofChange s with cond := some uptoSmall }

/-- 'tillerlaw03.PatTakes', WHERE WHAT IT READS IS OF BULK AT MOST 1048576: true; the input reads as it did. -/
def patTakesUptoRow : OpenClaim := { program := "ytkpmljcpjeeioaa", sum := "bd08a2cfa6c24ec2b5b0b89e5e856dcf33e8d83770c65ef0bcbf18d69b9a7d0d", func := "tiller/tillerlaw03.PatTakes", spec := "patTakes", apart := false, narrowed := true }
def PatTakesUptoSaid : Prop := patTakesUptoRow.holds Try.pinned (OpenSpec.upto patTakesSpec)

/-- 'tillerlaw03.PatSigns', WHERE WHAT IT READS IS OF BULK AT MOST 1048576: true; the input reads as it did. -/
def patSignsUptoRow : OpenClaim := { program := "ytkpmljcpjeeioaa", sum := "bd08a2cfa6c24ec2b5b0b89e5e856dcf33e8d83770c65ef0bcbf18d69b9a7d0d", func := "tiller/tillerlaw03.PatSigns", spec := "patSigns", apart := false, narrowed := true }
def PatSignsUptoSaid : Prop := patSignsUptoRow.holds Try.pinned (OpenSpec.upto patSignsSpec)

/-- 'tillerlaw03.PatBack', WHERE WHAT IT READS IS OF BULK AT MOST 1048576: true; the input reads as it did. -/
def patBackUptoRow : OpenClaim := { program := "ytkpmljcpjeeioaa", sum := "bd08a2cfa6c24ec2b5b0b89e5e856dcf33e8d83770c65ef0bcbf18d69b9a7d0d", func := "tiller/tillerlaw03.PatBack", spec := "patBack", apart := false, narrowed := true }
def PatBackUptoSaid : Prop := patBackUptoRow.holds Try.pinned (OpenSpec.upto patBackSpec)

/-- 'tillerlaw03.PatClasses', WHERE WHAT IT READS IS OF BULK AT MOST 1048576: true; the input reads as it did. -/
def patClassesUptoRow : OpenClaim := { program := "ytkpmljcpjeeioaa", sum := "bd08a2cfa6c24ec2b5b0b89e5e856dcf33e8d83770c65ef0bcbf18d69b9a7d0d", func := "tiller/tillerlaw03.PatClasses", spec := "patClasses", apart := false, narrowed := true }
def PatClassesUptoSaid : Prop := patClassesUptoRow.holds Try.pinned (OpenSpec.upto patClassesSpec)

end Rows
end Go.Proofs.Ytkpmljcpjeeioaa
