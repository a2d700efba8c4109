/-
  tillerlaw02.NatLong: its run.
-/
import Derived.Test.YtcnmfjhefioldabDoorConNF
import Derived.Test.YtcnmfjhefioldabDoorSureN
import Derived.Test.YtcnmfjhefioldabDoorAsNum
import Derived.Test.YtcnmfjhefioldabDoorNumT
namespace Go.Proofs.YtcnmfjhefioldabDoor
open Go.KRun Go.Nt
set_option maxRecDepth 100000

def gSureL : Ans := fun vals s =>
  match vals with
  | [] => some (.bool true, s, [])
  | _ => none
theorem gSureL_ok : AnsOk 8 gSureL := by
  intro vals s v s' lg h hl w
  unfold gSureL at h
  split at h
  · cases h
    exact sure_calls w
  · cases h
def conG : Con := alt 8 gSureL conN
theorem conG_ok : ConOk conG := alt_ok Tryd.func8 rfl gSureL_ok conN_ok
def hcG : Hc := altH 5 gShl (altH 18 gBoth (altH 7 gNum hcN))
theorem hcG_ok : HcOk hcG := altH_ok Tryd.func5 rfl gShl_ok (altH_ok Tryd.func18 rfl gBoth_ok (altH_ok Tryd.func7 rfl gNum_ok hcN_ok))
theorem long_body : Tryd.f3.body = some (cBody Tryd.f3) := by kernel_rfl
def kI (n : Int) : Int := IntKind.i64.wrap ((IntKind.u64.wrap n).tmod 4)
def uI (e : Int) : Int := IntKind.u32.wrap (1 + e.tmod 7)
def k1I (n : Int) : Int := IntKind.i64.wrap (262016 + IntKind.i64.wrap (32 * kI n))
def k2I (n : Int) : Int := IntKind.i64.wrap (32 * IntKind.i64.wrap (3 - kI n))
def k3I (n : Int) : Int := IntKind.i64.wrap (32 * IntKind.i64.wrap (4 - kI n))
def U1 (e : Int) : List Value := [uu (uI e)]
def UL (e : Int) : List Int := cutI (U1 e) 0 1
def XW (n e : Int) : List Int := shlR (UL e) (k1I n).toNat
def xN (n e : Int) : Nat := trimN (XW n e)
def XL (n e : Int) : List Int := cutI (wU (XW n e)) 0 (xN n e)
def xC (n : Int) : Nat := (k1I n).toNat / 32 + (1 + 1)
def YW (n e : Int) : List Int := shlR (XL n e) (k2I n).toNat
def rX (n e : Int) : Bool × Bool := (rowOk tU (wU (XW n e)) 0 (xN n e) (xC n), true)
def hL (n e : Int) : Hp := ⟨4, [(wU (YW n e), tU), (wU (XW n e), tU), (U1 e, tU), (kV, kT)]⟩
theorem long_run (n e : Int) : GoesT (evC (tabH Tryd.prog extY conG hcG) 200 false (cBody Tryd.f3) ([i6' n, uu e] ++ List.replicate 78 undef, hK, [cmp false, cmp false, cmp false, cmp false, cmp false, cmp false, cmp false, cmp false, cmp false, cmp false, cmp false, cmp true, cmp false, cmp false, cmp false, cmp true, cmp true]) ⟨[], [], []⟩) 5 75 (some none) [i6' n, uu e, undef, undef, .bool true] (hL n e)
    [(true, true), (true, true), (((trimN (YW n e) : Nat) : Int) == 8192, true), (decide (IntKind.i64.wrap (IntKind.i64.wrap ((xN n e : Int) + xN n e) - 1) > 8192), true), ((xN n e : Int) == 0, false), ((xN n e : Int) == 0, false), rX n e, rX n e, (badL (XL n e) || badL (XL n e), false),
      rX n e, (badL (XL n e) || decide (k3I n < 0), false), (decide (xN n e = 0), false), (decide (k3I n > 262144 - lenN (XL n e)), true), rX n e, (badL (XL n e) || decide (k2I n < 0), false), (decide (xN n e = 0), false), (decide (k2I n > 262144 - lenN (XL n e)), false),
      ((xN n e : Int) != IntKind.i64.wrap (8189 + kI n), false), (rowOk tU (U1 e) 0 1 1, true), (badL (UL e) || decide (k1I n < 0), false), (decide (1 = 0), false), (decide (k1I n > 262144 - lenN (UL e)), false), (false, false), (false, false)] := ⟨by kernel_rfl, by kernel_rfl, by kernel_rfl⟩
end Go.Proofs.YtcnmfjhefioldabDoor
