/-
  A RUN THAT THE KERNEL RECKONS, IV: which blocks a region that draws its order only reads (a guess: what hangs on it is checked).
-/
import Derived.Test.YtfmfcbnhmkkibaaRunC
import Derived.OrdersHeld
namespace Go.KRun
open Go.RowKit

def blockOf : Value → Option Nat
  | .pointer (some a) => some a.block
  | .slice (some a) _ _ => some a.block
  | _ => none
def defOf (ops : List Oper) (d : Tmp) : Option Op :=
  match ops with
  | [] => none
  | o :: l => if (match o.dst with | some e => Nat.beq e d | none => false) = true then some o.op else defOf l d
/-- the block that an address comes from, as far as it is known when the region begins -/
def rootOf (ops : List Oper) (t : List Value) : Nat → Operand → Option Nat
  | 0, _ => none
  | n + 1, .tmp d =>
    match defOf ops d with
    | some (.indexAddr _ x _) => rootOf ops t n x
    | some (.fieldAddr _ x _) => rootOf ops t n x
    | some (.move x) => rootOf ops t n x
    | some (.slice _ x _ _ _) => rootOf ops t n x
    | some (.nilCheck x) => rootOf ops t n x
    | some _ => none
    | none => blockOf (t.getD d undef)
  | _, _ => none
def spoilt (ops : List Oper) (t : List Value) (o : Oper) : List Nat :=
  match o.op with
  | .store _ x _ => (rootOf ops t 6 x).toList
  | .call ⟨.value _, args, _⟩ => args.toList.flatMap fun x => (rootOf ops t 6 x).toList
  | _ => []
def seen (ops : List Oper) (t : List Value) (bad : List Nat) (n : Nat) : List Oper → List Nat → List Nat
  | [], acc => acc
  | o :: l, acc =>
    match o.op with
    | .load _ x =>
      match rootOf ops t 6 x with
      | some b => if (Nat.blt b n && !(bad.contains b) && !(acc.contains b)) = true then seen ops t bad n l (b :: acc) else seen ops t bad n l acc
      | none => seen ops t bad n l acc
    | _ => seen ops t bad n l acc
/-- blocks that are only read stay so, whatever is called with them -/
def roB (h : Hp) (b : Nat) : Bool :=
  match h.blk? b with
  | some x => ro x.2
  | none => false
def watch (ops : List Oper) (t : List Value) (h : Hp) : List Nat := seen ops t ((ops.flatMap (spoilt ops t)).filter fun b => !(roB h b)) h.n ops []
end Go.KRun
