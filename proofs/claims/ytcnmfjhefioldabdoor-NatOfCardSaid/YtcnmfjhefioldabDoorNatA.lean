/-
  tillerlaw02.NatOf: its pieces.
-/
import Derived.Test.YtcnmfjhefioldabDoorConNF
import Derived.Test.YtcnmfjhefioldabDoorConNA
import Derived.Test.YtcnmfjhefioldabDoorSureN
namespace Go.Proofs.YtcnmfjhefioldabDoor
open Go.KRun Go.Nt
set_option maxRecDepth 100000

def gSure : Ans := fun vals s =>
  match vals with
  | [] => some (.bool true, s, [])
  | _ => none
theorem gSure_ok : AnsOk 8 gSure := by
  intro vals s v s' lg h hl w
  unfold gSure at h
  split at h
  · cases h
    exact sure_calls w
  · cases h
def conO : Con := alt 8 gSure conN
theorem conO_ok : ConOk conO := alt_ok Tryd.func8 rfl gSure_ok conN_ok
def hcO : Hc := altH 10 gAdd (altH 5 gShl (altH 11 gSub (altH 12 gLen (altH 13 gWords (altH 17 gTrim hcN)))))
theorem hcO_ok : HcOk hcO := altH_ok Tryd.func10 rfl gAdd_ok (altH_ok Tryd.func5 rfl gShl_ok (altH_ok Tryd.func11 rfl gSub_ok (altH_ok Tryd.func12 rfl gLen_ok (altH_ok Tryd.func13 rfl gWords_ok (altH_ok Tryd.func17 rfl gTrim_ok hcN_ok)))))
def oPre (F : Func) : List Code := [cFst (sn 0 F), cFst (sn 1 F), cFst (sn 2 F), cFst (sn 3 F), cFst (sn 4 F), cFst (sn 5 F), cFst (sn 6 F)]
def oR7 (F : Func) : Code := cFst (cFst (sn 7 F))
def oL (F : Func) : Code := cIn (cIn (cSnd (cFst (sn 7 F))))
def oFin (F : Func) : Code := sn 8 F
theorem natof_body : Tryd.f4.body = some (seqs (oPre Tryd.f4) (.seq (.seq (oR7 Tryd.f4) (.block 0 (.loop (oL Tryd.f4)))) (oFin Tryd.f4))) := by kernel_rfl
def nLo (N : Int) : Int := IntKind.u32.wrap N
def nHi (N : Int) : Int := IntKind.u32.wrap (N.fdiv (2 ^ 32))
def A2 (N : Int) : List Value := [uu (nLo N), uu (nHi N)]
def mN (N : Int) : Nat := trimN (cutI (A2 N) 0 2)
def LN (N : Int) : List Int := cutI (A2 N) 0 (mN N)
def SN (N : Int) : List Int := sumR (LN N) (LN N)
def tN (N : Int) : Nat := trimN (SN N)
def SL (N : Int) : List Int := cutI (wU (SN N)) 0 (tN N)
def aV (N : Int) : Value := sl 0 0 (mN N) 2
def bV (N : Int) : Value := sl 1 0 (tN N) (mxN (mN N) (mN N) + 1)
def HN (N : Int) : List Int := shlR (LN N) 1
def cV (N : Int) : Value := sl 2 0 (trimN (HN N)) (1 / 32 + (mN N + 1))
def DN (N : Int) : List Int := difL (SL N) (LN N)
def ZN (N : Int) : List Int := difL (LN N) (LN N)
def dV (j : Nat) (N : Int) : Value := sl j 0 (trimN (DN N)) (tN N)
def zV (j : Nat) (N : Int) : Value := sl j 0 (trimN (ZN N)) (mN N)
def hO (N : Int) : Hp := ⟨5, [(wU (ZN N), tU), (wU (DN N), tU), (wU (HN N), tU), (wU (SN N), tU), (A2 N, tU)]⟩
def hO0 (N : Int) : Hp := ⟨4, [(wU (ZN N), tU), (wU (DN N), tU), (wU (SN N), tU), (A2 N, tU)]⟩
def rA (N : Int) : Bool × Bool := (rowOk tU (A2 N) 0 (mN N) 2, true)
def rS (N : Int) : Bool × Bool := (rowOk tU (wU (SN N)) 0 (tN N) (mxN (mN N) (mN N) + 1), true)
def oF (N : Int) (a b c d z k x : Value) : List Value := [.int .u64 N, undef, .bool false, a, b, .nilIface, c, .nilIface, d, .nilIface, z, .nilIface, k, x]
theorem of_pre (N : Int) : GoesT (evL (tabH Tryd.prog extY conO hcO) 200 (oPre Tryd.f4) ([.int .u64 N] ++ List.replicate 87 undef, ⟨0, []⟩, [cmp false, cmp false, cmp false, cmp false, cmp false, cmp false, cmp false, cmp false, cmp false]) ⟨[], [], []⟩) 14 74 none (oF N (aV N) (bV N) (cV N) (dV 3 N) (zV 4 N) (i6' 0) undef) (hO N)
    [rA N, rA N, (badL (LN N) || badL (LN N), false), (decide (cmpL (LN N) (LN N) < 0), false), rS N, rA N, (badL (SL N) || badL (LN N), false), (decide (cmpL (SL N) (LN N) < 0), false), rA N, (badL (LN N) || decide ((1 : Int) < 0), false), (decide (mN N = 0), false), (decide ((1 : Int) > 262144 - lenN (LN N)), false), rA N, rA N, (badL (LN N) || badL (LN N), false), (decide ((tN N : Int) > 8192), false), (rowOk tU (A2 N) 0 2 2, true), (false, false)] := ⟨by kernel_rfl, by kernel_rfl, by kernel_rfl⟩
theorem of_pre0 (N : Int) : GoesT (evL (tabH Tryd.prog extY conO hcO) 200 (oPre Tryd.f4) ([.int .u64 N] ++ List.replicate 87 undef, ⟨0, []⟩, [cmp false, cmp false, cmp false, cmp true, cmp false, cmp false, cmp false, cmp false]) ⟨[], [], []⟩) 14 74 none (oF N (aV N) (bV N) nilS (dV 2 N) (zV 3 N) (i6' 0) undef) (hO0 N)
    [rA N, rA N, (badL (LN N) || badL (LN N), false), (decide (cmpL (LN N) (LN N) < 0), false), rS N, rA N, (badL (SL N) || badL (LN N), false), (decide (cmpL (SL N) (LN N) < 0), false), rA N, (badL (LN N) || decide ((1 : Int) < 0), false), (decide (mN N = 0), true), rA N, rA N, (badL (LN N) || badL (LN N), false), (decide ((tN N : Int) > 8192), false), (rowOk tU (A2 N) 0 2 2, true), (false, false)] := ⟨by kernel_rfl, by kernel_rfl, by kernel_rfl⟩
theorem of_r7 (N : Int) (a b c d z k x : Value) (h : Hp) (g : Nat → Value) : GoesT (evC (tabH Tryd.prog extY conO hcO) 200 false (oR7 Tryd.f4) (oF N a b c d z k x ++ tl 74 g, h, []) ⟨[], [], []⟩) 14 74 none (oF N a b c d z k (.int .u64 N)) h [] := ⟨by kernel_rfl, by kernel_rfl, by kernel_rfl⟩
theorem of_out (N : Int) (a b c d z k : Value) (x : Int) (h : Hp) (g : Nat → Value) : GoesT (evC (tabH Tryd.prog extY conO hcO) 200 false (oL Tryd.f4) (oF N a b c d z k (.int .u64 x) ++ tl 74 g, h, [cmp false]) ⟨[], [], []⟩) 14 74 (some (some 0)) (oF N a b c d z k (.int .u64 x)) h [(decide (x > 0), false)] := ⟨by kernel_rfl, by kernel_rfl, by kernel_rfl⟩
theorem of_go (N : Int) (a b c d z : Value) (k x : Int) (h : Hp) (g : Nat → Value) : GoesT (evC (tabH Tryd.prog extY conO hcO) 200 false (oL Tryd.f4) (oF N a b c d z (i6' k) (.int .u64 x) ++ tl 74 g, h, [cmp true]) ⟨[], [], []⟩) 14 74 none (oF N a b c d z (i6' (IntKind.i64.wrap (k + 1))) (.int .u64 (IntKind.u64.wrap (x.tdiv 2)))) h [(decide (x > 0), true)] := ⟨by kernel_rfl, by kernel_rfl, by kernel_rfl⟩
theorem of_fin (N k y : Int) (x : Value) (g : Nat → Value) : GoesT (evC (tabH Tryd.prog extY conO hcO) 200 false (oFin Tryd.f4) (oF N (aV N) (bV N) (cV N) (dV 3 N) (zV 4 N) (i6' k) x ++ tl 74 g, hO N, [cmp true, cmp true, cmp true, cmp true, cmp false, cmp true, at_, val (uu y), cmp true]) ⟨[], [], []⟩) 3 85 (some none) [.int .u64 N, undef, .bool true] (hO N)
    [(y != 0, true), (cellIs ((A2 N)[0 + (n1 (mN N)).toNat * 1]?) (uu y), true), (decide (0 ≤ n1 (mN N) ∧ n1 (mN N) < mN N), true), (decide ((mN N : Int) ≤ 8192), true), ((mN N : Int) == 0, false), (((trimN (ZN N) : Nat) : Int) == 0, true),
      (rowOk tU (wU (DN N)) 0 (trimN (DN N)) (tN N), true), rA N, (decide (cutI (wU (DN N)) 0 (trimN (DN N)) = LN N), true), rS N, (rowOk tU (wU (HN N)) 0 (trimN (HN N)) (1 / 32 + (mN N + 1)), true), (decide (SL N = cutI (wU (HN N)) 0 (trimN (HN N))), true), (lenN (LN N) == k, true), rA N] := ⟨by kernel_rfl, by kernel_rfl, by kernel_rfl⟩
theorem of_fin0 (N k : Int) (x : Value) (g : Nat → Value) : GoesT (evC (tabH Tryd.prog extY conO hcO) 200 false (oFin Tryd.f4) (oF N (aV N) (bV N) nilS (dV 2 N) (zV 3 N) (i6' k) x ++ tl 74 g, hO0 N, [cmp true, cmp true, cmp true, cmp true, cmp true]) ⟨[], [], []⟩) 3 85 (some none) [.int .u64 N, undef, .bool true] (hO0 N)
    [((mN N : Int) == 0, true), (((trimN (ZN N) : Nat) : Int) == 0, true),
      (rowOk tU (wU (DN N)) 0 (trimN (DN N)) (tN N), true), rA N, (decide (cutI (wU (DN N)) 0 (trimN (DN N)) = LN N), true), (decide (tN N = 0), true), (lenN (LN N) == k, true), rA N] := ⟨by kernel_rfl, by kernel_rfl, by kernel_rfl⟩
end Go.Proofs.YtcnmfjhefioldabDoor
