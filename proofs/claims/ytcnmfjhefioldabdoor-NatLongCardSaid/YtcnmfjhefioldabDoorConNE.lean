/-
  nat.Shl: its pieces.
-/
import Derived.Test.YtcnmfjhefioldabDoorConND
namespace Go.Proofs.YtcnmfjhefioldabDoor
open Go.KRun Go.Nt
set_option maxRecDepth 100000

def hcS : Hc := altH 15 gChk (altH 12 gLen (altH 16 gMup (altH 17 gTrim hcN)))
theorem hcS_ok : HcOk hcS := altH_ok Tryd.func15 rfl gChk_ok (altH_ok Tryd.func12 rfl gLen_ok (altH_ok Tryd.func16 rfl gMup_ok (altH_ok Tryd.func17 rfl gTrim_ok hcN_ok)))
def skI (k : Int) : Int := IntKind.i64.wrap (k.tdiv 32)
def rmI (k : Int) : Int := k.tmod 32
def zI (n : Nat) (k : Int) : Int := IntKind.i64.wrap (IntKind.i64.wrap (skI k + n) + 1)
def zN (n : Nat) (k : Int) : Nat := (zI n k).toNat
def oN (k : Int) : Nat := 0 + (skI k).toNat * 1
def pN (n : Nat) (k : Int) : Nat := zN n k - (skI k).toNat
def cpN (n : Nat) (k : Int) : Nat := Nat.min n (pN n k)
def cpL (la : List Value) (o n : Nat) (k : Int) : List Value := (List.replicate (zN n k) (uu 0)).take (oN k) ++ (la.drop o).take (cpN n k) ++ (List.replicate (zN n k) (uu 0)).drop (oN k + cpN n k)
def clOk (la : List Value) (o n : Nat) (k : Int) : Bool := !(tomb tR) && !(ro tU) && Nat.ble (o + cpN n k) la.length && Nat.ble (oN k + cpN n k) (List.replicate (zN n k) (uu 0)).length && ((la.drop o).take (cpN n k)).all one
def upM (la : List Value) (o n : Nat) (k : Int) : List Value := upS (cpL la o n k) (oN k) (pN n k) (rmI k)
def lnI (la : List Value) (o n : Nat) : Int := IntKind.i64.wrap (262144 - lenN (cutI la o n))
def fS (o n c : Nat) (k : Int) (r e : Value) : List Value := [sl 0 o n c, i6' k, undef, undef, r, e]
theorem shl_body : Tryd.f5.body = some (cBody Tryd.f5) := by kernel_rfl
theorem shl_bad (o n c : Nat) (k : Int) (la : List Value) : GoesT (evC (tabH Tryd.prog extY conN hcS) 200 false (cBody Tryd.f5) ([sl 0 o n c, i6' k] ++ List.replicate 45 undef, ⟨1, [(la, tR)]⟩, [cmp true]) ⟨[], [], []⟩) 6 41 (some none) (fS o n c k nilS (errV 1)) ⟨1, [(la, tR)]⟩ [chkL la o n c, (badL (cutI la o n), true)] := ⟨by kernel_rfl, by kernel_rfl, by kernel_rfl⟩
theorem shl_neg (o n c : Nat) (k : Int) (la : List Value) : GoesT (evC (tabH Tryd.prog extY conN hcS) 200 false (cBody Tryd.f5) ([sl 0 o n c, i6' k] ++ List.replicate 45 undef, ⟨1, [(la, tR)]⟩, [cmp false, cmp true]) ⟨[], [], []⟩) 6 41 (some none) (fS o n c k nilS (errV 1)) ⟨1, [(la, tR)]⟩ [(decide (k < 0), true), chkL la o n c, (badL (cutI la o n), false)] := ⟨by kernel_rfl, by kernel_rfl, by kernel_rfl⟩
theorem shl_nil (o n c : Nat) (k : Int) (la : List Value) : GoesT (evC (tabH Tryd.prog extY conN hcS) 200 false (cBody Tryd.f5) ([sl 0 o n c, i6' k] ++ List.replicate 45 undef, ⟨1, [(la, tR)]⟩, [cmp false, cmp false, cmp true]) ⟨[], [], []⟩) 6 41 (some none) (fS o n c k nilS .nilIface) ⟨1, [(la, tR)]⟩ [((n : Int) == 0, true), (decide (k < 0), false), chkL la o n c, (badL (cutI la o n), false)] := ⟨by kernel_rfl, by kernel_rfl, by kernel_rfl⟩
theorem shl_long (o n c : Nat) (k : Int) (la : List Value) : GoesT (evC (tabH Tryd.prog extY conN hcS) 200 false (cBody Tryd.f5) ([sl 0 o n c, i6' k] ++ List.replicate 45 undef, ⟨1, [(la, tR)]⟩, [cmp false, cmp false, cmp false, cmp true]) ⟨[], [], []⟩) 6 41 (some none) (fS o n c k nilS (errV 2)) ⟨1, [(la, tR)]⟩ [(decide (k > lnI la o n), true), chkL la o n c, ((n : Int) == 0, false), (decide (k < 0), false), chkL la o n c, (badL (cutI la o n), false)] := ⟨by kernel_rfl, by kernel_rfl, by kernel_rfl⟩
theorem shl_good (o n c : Nat) (k : Int) (la : List Value) : GoesT (evC (tabH Tryd.prog extY conN hcS) 200 false (cBody Tryd.f5) ([sl 0 o n c, i6' k] ++ List.replicate 45 undef, ⟨1, [(la, tR)]⟩, [cmp false, cmp false, cmp false, cmp false, at_, num 0, at_, num 0]) ⟨[], [], []⟩) 6 41 (some none) (fS o n c k (sl 1 0 (trimN (cutI (upM la o n k) 0 (zN n k))) (zN n k)) .nilIface) (hU (upM la o n k) la)
    [(rowOk tU (upM la o n k) 0 (zN n k) (zN n k), true), (Nat.beq tU tU, true), (Nat.beq tR tR, true), (rowOk tU (cpL la o n k) (oN k) (pN n k) (pN n k), true), (Nat.beq (oN k + pN n k) (cpL la o n k).length, true), (la.all (lt1 0), true), (decide (0 ≤ rmI k ∧ rmI k < 32), true),
      (smallC (zN n k), true), (okPart (skI k) (zN n k) (zN n k) (zN n k), true), (decide (((zN n k : Nat) : Int) = skI k ∧ skI k ≠ 0), false), (clOk la o n k, true), (smallC (zN n k), true), (okPart (skI k) (zN n k) (zN n k) (zN n k), true), (decide (((zN n k : Nat) : Int) = skI k ∧ skI k ≠ 0), false), (okMakeB 4 (zI n k) (zI n k), true),
      (decide (k > lnI la o n), false), chkL la o n c, ((n : Int) == 0, false), (decide (k < 0), false), chkL la o n c, (badL (cutI la o n), false)] := ⟨by kernel_rfl, by kernel_rfl, by kernel_rfl⟩
end Go.Proofs.YtcnmfjhefioldabDoor
