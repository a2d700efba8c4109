/-
  pat.Hex, as a call: sixteen letters.
-/
import Derived.Test.YtnmabjhnjdeekaaDoorPhD
import Derived.Test.YtnmabjhnjdeekaaDoorNumU
namespace Go.Proofs.YtnmabjhnjdeekaaDoor
open Go.KRun Go.Pt
set_option maxRecDepth 100000
set_option linter.unusedVariables false

def hxT : List UInt8 := [48, 49, 50, 51, 52, 53, 54, 55, 56, 57, 97, 98, 99, 100, 101, 102]
def hS (q : Int) : Int := q.fdiv (2 ^ min (Int.toNat 4) 64)
def hC (q : Int) : Int := ((hxT.getD (bAnd q 15).toNat 0).toNat : Nat)
def hB (q : Int) : UInt8 := UInt8.ofNat (hC q).toNat
def hSn (p : Int) : Nat → Int
  | 0 => p
  | n + 1 => hS (hSn p n)
def inX (q : Int) : Bool := decide (0 ≤ bAnd q 15 ∧ (bAnd q 15).toNat < hxT.length)
def hxW (p : Int) : ByteArray := ⟨#[hB (hSn p 15), hB (hSn p 14), hB (hSn p 13), hB (hSn p 12), hB (hSn p 11), hB (hSn p 10), hB (hSn p 9), hB (hSn p 8), hB (hSn p 7), hB (hSn p 6), hB (hSn p 5), hB (hSn p 4), hB (hSn p 3), hB (hSn p 2), hB (hSn p 1), hB (hSn p 0)]⟩
def hxL (p : Int) : Nat → Log
  | 0 => []
  | n + 1 => (false, false) :: (inX (hSn p n), true) :: hxL p n
theorem hex_fits (p : Int) : Fits (reckon tabPh 3000 6 [.int .u64 p] []) (.string (hxW p)) (hxL p 16) := ⟨by kernel_rfl, by kernel_rfl, by kernel_rfl, by kernel_rfl⟩
def rT (q : Int) : Int := IntKind.u64.wrap (q.tdiv 16)
def rTn (p : Int) : Nat → Int
  | 0 => p
  | n + 1 => rT (rTn p n)
def rP (q : Int) : List UInt8 := (hxT.drop (q.tmod 16).toNat).take ((IntKind.u64.wrap (q.tmod 16 + 1)).toNat - (q.tmod 16).toNat)
def rL (p : Int) : Nat → List UInt8
  | 0 => []
  | n + 1 => rP (rTn p n) ++ rL p n
def rG (p : Int) : Nat → Log
  | 0 => []
  | n + 1 => (decide ((rP (rTn p n)).length + (rL p n).length ≤ 9223372036854775807), true) :: (decide (0 ≤ (rTn p n).tmod 16 ∧ (rTn p n).tmod 16 ≤ IntKind.u64.wrap ((rTn p n).tmod 16 + 1) ∧ IntKind.u64.wrap ((rTn p n).tmod 16 + 1) ≤ (hxT.length : Int)), true) :: rG p n
theorem refHex_fits (p : Int) : Fits (reckon tabPh 3000 7 [.int .u64 p] [sam true, sam true, sam true, sam true, sam true, sam true, sam true, sam true, sam true, sam true, sam true, sam true, sam true, sam true, sam true, sam true, sam true, sam true, sam true, sam true, sam true, sam true, sam true, sam true, sam true, sam true, sam true, sam true, sam true, sam true, sam true, sam true]) (.string ⟨(rL p 16).toArray⟩) (rG p 16) := ⟨by kernel_rfl, by kernel_rfl, by kernel_rfl, by kernel_rfl⟩
end Go.Proofs.YtnmabjhnjdeekaaDoor
