/-
  nat.Add, as a call with two rows: its pieces.
-/
import Derived.Test.YtcnmfjhefioldabDoorConN4
import Derived.Test.YtcnmfjhefioldabDoorRunX
import Derived.Test.YtcnmfjhefioldabDoorNumO
namespace Go.Proofs.YtcnmfjhefioldabDoor
open Go.KRun Go.Nt
set_option maxRecDepth 100000

def conA : Con := alt 23 gAdd32 conN
theorem conA_ok : ConOk conA := alt_ok Tryd.func23 rfl gAdd32_ok conN_ok
def hcA : Hc := altH 18 gBoth (altH 17 gTrim hcN)
theorem hcA_ok : HcOk hcA := altH_ok Tryd.func18 rfl gBoth_ok (altH_ok Tryd.func17 rfl gTrim_ok hcN_ok)
def sn (k : Nat) (F : Func) : Code := match k with | 0 => cBody F | k + 1 => cSnd (sn k F)
def aPre (F : Func) : List Code := [cFst (sn 0 F), cFst (sn 1 F), cFst (sn 2 F), cFst (sn 3 F), cFst (sn 4 F), cFst (sn 5 F)]
def aR9 (F : Func) : Code := cFst (cFst (sn 6 F))
def aL0 (F : Func) : Code := cIn (cIn (cSnd (cFst (sn 6 F))))
def aR14 (F : Func) : Code := cFst (cFst (sn 7 F))
def aL2 (F : Func) : Code := cIn (cIn (cSnd (cFst (sn 7 F))))
def aFin (F : Func) : Code := sn 8 F
theorem add_body : Tryd.f10.body = some (seqs (aPre Tryd.f10) (.seq (.seq (aR9 Tryd.f10) (.block 0 (.loop (aL0 Tryd.f10)))) (.seq (.seq (aR14 Tryd.f10) (.block 2 (.loop (aL2 Tryd.f10)))) (aFin Tryd.f10)))) := by kernel_rfl
/-- the new row's length; the row behind the copy -/
def nP (n : Nat) : Int := IntKind.i64.wrap ((n : Int) + 1)
def cpy (la : List Value) (o n : Nat) : List Value := (List.replicate (nP n).toNat (uu 0)).take 0 ++ (la.drop o).take (Nat.min n (nP n).toNat) ++ (List.replicate (nP n).toNat (uu 0)).drop (0 + Nat.min n (nP n).toNat)
def h3 (la lb S : List Value) : Hp := ⟨3, [(S, tU), (lb, tR), (la, tR)]⟩
def cpOk (la : List Value) (o n : Nat) : Bool := !(tomb tR) && !(ro tU) && Nat.ble (o + Nat.min n (nP n).toNat) la.length && Nat.ble (0 + Nat.min n (nP n).toNat) (List.replicate (nP n).toNat (uu 0)).length && ((la.drop o).take (Nat.min n (nP n).toNat)).all one
def aF (a b s c i x k : Value) : List Value := [a, b, undef, undef, nilS, .nilIface, .nilIface, s, c, i, x, k]
theorem add_pre (o n c o' n' c' : Nat) (la lb : List Value) : GoesT (evL (tabH Tryd.prog extY conA hcA) 200 (aPre Tryd.f10) ([sl 0 o n c, sl 1 o' n' c'] ++ List.replicate 73 undef, h2 la lb, [cmp false, cmp false, at_, at_]) ⟨[], [], []⟩) 12 63 none
    (aF (sl 0 o n c) (sl 1 o' n' c') (sl 2 0 (nP n).toNat (nP n).toNat) (uu 0) undef undef undef) (h3 la lb (cpy la o n)) [(cpOk la o n, true), (okMakeB 4 (nP n) (nP n), true), (decide ((n : Int) < n'), false), chkL la o n c, chkL lb o' n' c', (badL (cutI la o n) || badL (cutI lb o' n'), false)] := ⟨by kernel_rfl, by kernel_rfl, by kernel_rfl⟩
theorem add_swap (o n c o' n' c' : Nat) (la lb : List Value) : GoesT (evL (tabH Tryd.prog extY conA hcA) 200 (aPre Tryd.f10) ([sl 0 o n c, sl 1 o' n' c'] ++ List.replicate 73 undef, h2 la lb, [cmp false, cmp true, at_, at_]) ⟨[], [], []⟩) 12 63 none
    (aF (sl 1 o' n' c') (sl 0 o n c) (sl 2 0 (nP n').toNat (nP n').toNat) (uu 0) undef undef undef) (h3 la lb (cpy lb o' n')) [(cpOk lb o' n', true), (okMakeB 4 (nP n') (nP n'), true), (decide ((n : Int) < n'), true), chkL la o n c, chkL lb o' n' c', (badL (cutI la o n) || badL (cutI lb o' n'), false)] := ⟨by kernel_rfl, by kernel_rfl, by kernel_rfl⟩
def inR (i : Int) (n : Nat) : Bool × Bool := (decide (0 ≤ i ∧ i < n), true)
def celR (l : List Value) (o : Nat) (i x : Int) : Bool × Bool := (cellIs (l[o + i.toNat * 1]?) (uu x), true)
def stoR (l : List Value) (i : Int) : Bool × Bool := (decide (0 + i.toNat * 1 < l.length), true)
def sD (x y c : Int) : Int := (x + y + c) % 4294967296
def sC (x y c : Int) : Int := (x + y + c) / 4294967296
theorem add_r9 (a s c i x k : Value) (q o n e : Nat) (h : Hp) (g : Nat → Value) : GoesM (evC (tabH Tryd.prog extY conA hcA) 200 false (aR9 Tryd.f10) (aF a (sl q o n e) s c i x k ++ tl 63 g, h, []) ⟨[], [], []⟩) 12 20 3 40 none
    (aF a (sl q o n e) s c i x k) [sl q o n e, i6' n, i6' 0] h [] := ⟨by kernel_rfl, by kernel_rfl, by kernel_rfl⟩
theorem add_out0 (a b s c i x k : Value) (t : Value) (n : Nat) (j : Int) (h : Hp) (g g' : Nat → Value) : GoesM (evC (tabH Tryd.prog extY conA hcA) 200 false (aL0 Tryd.f10) (ml (aF a b s c i x k) 20 g [t, i6' n, i6' j] 40 g', h, [cmp false]) ⟨[], [], []⟩) 12 20 3 40 (some (some 0))
    (aF a b s c i x k) [t, i6' n, i6' j] h [(decide (j < n), false)] := ⟨by kernel_rfl, by kernel_rfl, by kernel_rfl⟩
/-- a round of the first loop, the shorter row being block 1 -/
theorem add_go1 (a b i0 x0 k0 : Value) (o n e N M : Nat) (c j x y : Int) (la lb S : List Value) (g g' : Nat → Value) : GoesM (evC (tabH Tryd.prog extY conA hcA) 200 false (aL0 Tryd.f10) (ml (aF a b (sl 2 0 N M) (uu c) i0 x0 k0) 20 g [sl 1 o n e, i6' n, i6' j] 40 g', h3 la lb S, [cmp true, at_, val (uu y), at_, val (uu x), at_, at_]) ⟨[], [], []⟩) 12 20 3 40 none
    (aF a b (sl 2 0 N M) (uu (sC x y c)) (i6' j) (uu y) k0) [sl 1 o n e, i6' n, i6' (IntKind.i64.wrap (j + 1))] (h3 la lb (S.set (0 + j.toNat * 1) (uu (sD x y c)))) [stoR S j, inR j N, (wd4 x y c, true), celR S 0 j x, inR j N, celR lb o j y, inR j n, (decide (j < n), true)] := ⟨by kernel_rfl, by kernel_rfl, by kernel_rfl⟩
theorem add_go0 (a b i0 x0 k0 : Value) (o n e N M : Nat) (c j x y : Int) (la lb S : List Value) (g g' : Nat → Value) : GoesM (evC (tabH Tryd.prog extY conA hcA) 200 false (aL0 Tryd.f10) (ml (aF a b (sl 2 0 N M) (uu c) i0 x0 k0) 20 g [sl 0 o n e, i6' n, i6' j] 40 g', h3 la lb S, [cmp true, at_, val (uu y), at_, val (uu x), at_, at_]) ⟨[], [], []⟩) 12 20 3 40 none
    (aF a b (sl 2 0 N M) (uu (sC x y c)) (i6' j) (uu y) k0) [sl 0 o n e, i6' n, i6' (IntKind.i64.wrap (j + 1))] (h3 la lb (S.set (0 + j.toNat * 1) (uu (sD x y c)))) [stoR S j, inR j N, (wd4 x y c, true), celR S 0 j x, inR j N, celR la o j y, inR j n, (decide (j < n), true)] := ⟨by kernel_rfl, by kernel_rfl, by kernel_rfl⟩
theorem add_r14 (a s c i x k : Value) (q o n e : Nat) (t u v : Value) (h : Hp) (g g' : Nat → Value) : GoesT (evC (tabH Tryd.prog extY conA hcA) 200 false (aR14 Tryd.f10) (ml (aF a (sl q o n e) s c i x k) 20 g [t, u, v] 40 g', h, []) ⟨[], [], []⟩) 12 63 none
    (aF a (sl q o n e) s c i x (i6' n)) h [] := ⟨by kernel_rfl, by kernel_rfl, by kernel_rfl⟩
theorem add_out2 (a b s i x k : Value) (c : Int) (h : Hp) (g : Nat → Value) : GoesT (evC (tabH Tryd.prog extY conA hcA) 200 false (aL2 Tryd.f10) (aF a b s (uu c) i x k ++ tl 63 g, h, [cmp false]) ⟨[], [], []⟩) 12 63 (some (some 2))
    (aF a b s (uu c) i x k) h [(c != 0, false)] := ⟨by kernel_rfl, by kernel_rfl, by kernel_rfl⟩
theorem add_go2 (a b i0 x0 : Value) (N M : Nat) (c j x : Int) (la lb S : List Value) (g : Nat → Value) : GoesT (evC (tabH Tryd.prog extY conA hcA) 200 false (aL2 Tryd.f10) (aF a b (sl 2 0 N M) (uu c) i0 x0 (i6' j) ++ tl 63 g, h3 la lb S, [cmp true, at_, val (uu x), at_, at_]) ⟨[], [], []⟩) 12 63 none
    (aF a b (sl 2 0 N M) (uu (sC x 0 c)) i0 x0 (i6' (IntKind.i64.wrap (j + 1)))) (h3 la lb (S.set (0 + j.toNat * 1) (uu (sD x 0 c)))) [stoR S j, inR j N, (wd4 x 0 c, true), celR S 0 j x, inR j N, (c != 0, true)] := ⟨by kernel_rfl, by kernel_rfl, by kernel_rfl⟩
theorem add_fin (a b c i x k : Value) (N M : Nat) (la lb S : List Value) (g : Nat → Value) : GoesT (evC (tabH Tryd.prog extY conA hcA) 200 false (aFin Tryd.f10) (aF a b (sl 2 0 N M) c i x k ++ tl 63 g, h3 la lb S, [cmp false]) ⟨[], [], []⟩) 6 69 (some none)
    [a, b, undef, undef, sl 2 0 (trimN (cutI S 0 N)) M, .nilIface] (h3 la lb S) [(decide ((trimN (cutI S 0 N) : Int) > 8192), false), (rowOk tU S 0 N M, true)] := ⟨by kernel_rfl, by kernel_rfl, by kernel_rfl⟩
theorem add_long (a b c i x k : Value) (N M : Nat) (la lb S : List Value) (g : Nat → Value) : GoesT (evC (tabH Tryd.prog extY conA hcA) 200 false (aFin Tryd.f10) (aF a b (sl 2 0 N M) c i x k ++ tl 63 g, h3 la lb S, [cmp true]) ⟨[], [], []⟩) 6 69 (some none)
    [a, b, undef, undef, nilS, errV 2] (h3 la lb S) [(decide ((trimN (cutI S 0 N) : Int) > 8192), true), (rowOk tU S 0 N M, true)] := ⟨by kernel_rfl, by kernel_rfl, by kernel_rfl⟩
end Go.Proofs.YtcnmfjhefioldabDoor
