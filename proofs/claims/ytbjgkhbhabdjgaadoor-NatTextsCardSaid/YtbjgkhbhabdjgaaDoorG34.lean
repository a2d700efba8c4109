/-
  The document's quotient and rest (tillerref02.Parts), I: piece by piece.
-/
import Derived.Test.YtbjgkhbhabdjgaaDoorG30
import Derived.Test.YtbjgkhbhabdjgaaDoorG19
import Derived.Test.YtbjgkhbhabdjgaaDoorG20
import Derived.Test.YtbjgkhbhabdjgaaDoorG33
import Derived.Test.YtbjgkhbhabdjgaaDoorG18
import Derived.Test.YtbjgkhbhabdjgaaDoorG06
import Derived.Test.YtbjgkhbhabdjgaaDoorG24
namespace Go.Proofs.YtbjgkhbhabdjgaaDoor
open Go.KRun Go.Nt
set_option maxRecDepth 100000
set_option linter.unusedVariables false

def paP (F : Func) : List Code := [cFst (cBody F), cFst (cSnd (cBody F)), cFst (cSnd (cSnd (cBody F))), cFst (cSnd (cSnd (cSnd (cBody F))))]
def paS (F : Func) : Code := cSnd (cSnd (cSnd (cSnd (cBody F))))
def paB (F : Func) : Code := cFst (paS F)
def paL (F : Func) : Code := cIn (cIn (cSnd (paB F)))
def paE (F : Func) : Code := cSnd (paS F)
def paH (F : Func) : Code := cFst (paL F)
def paX (F : Func) : Code := cIn (cFst (cSnd (paL F)))
def paI (F : Func) : Code := cSnd (cSnd (paL F))
def x7 (F : Func) : Code := cFst (paX F)
def x8 (F : Func) : Code := cFst (cSnd (paX F))
def x9 (F : Func) : Code := cFst (cSnd (cSnd (paX F)))
def x10 (F : Func) : Code := cFst (cSnd (cSnd (cSnd (paX F))))
def x11 (F : Func) : Code := cFst (cSnd (cSnd (cSnd (cSnd (paX F)))))
def xT (F : Func) : Code := cSnd (cSnd (cSnd (cSnd (cSnd (paX F)))))
def yL (F : Func) : Code := cIn (cIn (cFst (xT F)))
def yH (F : Func) : Code := cFst (yL F)
def yB (F : Func) : Code := cIn (cSnd (yL F))
def xE (F : Func) : Code := cSnd (xT F)
def hcP : Hc := altH 50 gUsm (altH 17 gUcmp (altH 21 gUsub (altH 44 gAt (altH 43 gUtrim hcN))))
def pFr (o n c o' n' c' z : Nat) (r : Value) (i : Int) (v10 v11 : Value) : List Value := [sl 0 o n c, sl 1 o' n' c', undef, undef, nilS, nilS, r, sl 2 0 z z, .int .i64 n', .int .i64 i, v10, v11]
def hB3 (wq lb la : List Value) : Hp := ⟨3, [(wq, tU), (lb, tR), (la, tR)]⟩
def hB4 (wr wq lb la : List Value) : Hp := ⟨4, [(wr, tU), (wq, tU), (lb, tR), (la, tR)]⟩
def hB5 (wp wr wq lb la : List Value) : Hp := ⟨5, [(wp, tU), (wr, tU), (wq, tU), (lb, tR), (la, tR)]⟩
theorem hcP_ok : HcOk hcP := altH_ok Tryd.func50 rfl gUsm_ok (altH_ok Tryd.func17 rfl gUcmp_ok (altH_ok Tryd.func21 rfl gUsub_ok (altH_ok Tryd.func44 rfl gAt_ok (altH_ok Tryd.func43 rfl gUtrim_ok hcN_ok))))
theorem pa_body : Tryd.f25.body = some (seqs (paP Tryd.f25) (.seq (.seq (cFst (paB Tryd.f25)) (.block 0 (.loop (paL Tryd.f25)))) (paE Tryd.f25))) := by kernel_rfl
theorem pa_loop : paL Tryd.f25 = .seq (paH Tryd.f25) (.seq (.block 1 (paX Tryd.f25)) (paI Tryd.f25)) := by kernel_rfl
theorem pa_x : paX Tryd.f25 = .seq (x7 Tryd.f25) (.seq (x8 Tryd.f25) (.seq (x9 Tryd.f25) (.seq (x10 Tryd.f25) (.seq (x11 Tryd.f25) (.seq (.block 2 (.loop (yL Tryd.f25))) (xE Tryd.f25)))))) := by kernel_rfl
theorem pa_y : yL Tryd.f25 = .seq (yH Tryd.f25) (.block 3 (yB Tryd.f25)) := by kernel_rfl
def aP (b o : Nat) : Option Addr := some ⟨b, o, none⟩
def inP (i : Int) (n : Nat) : Bool × Bool := (decide (0 ≤ i ∧ i < (n : Int)), true)
def ceP (l : List Value) (o : Nat) (i x : Int) : Bool × Bool := (cellIs (l[o + i.toNat * 1]?) (.int .u32 x), true)
def tR3 (R : List Int) (n' : Nat) : Int := IntKind.u64.wrap (IntKind.u64.wrap (IntKind.u64.wrap (IntKind.u64.wrap (atN R n') * 2 ^ min (Int.toNat 32) 64) + IntKind.u64.wrap (IntKind.u64.wrap (atN R (IntKind.i64.wrap ((n' : Int) - 1))) * 2 ^ min (Int.toNat 16) 64)) + IntKind.u64.wrap (atN R (IntKind.i64.wrap ((n' : Int) - 2))))
def tB2 (x : Int) (L : List Int) (n' : Nat) : Int := IntKind.u64.wrap (IntKind.u64.wrap (IntKind.u64.wrap x * 2 ^ min (Int.toNat 16) 64) + IntKind.u64.wrap (atN L (IntKind.i64.wrap ((n' : Int) - 2))))
def minG (q : Int) : Int := if 65535 < q then 65535 else q
theorem pa_pre (o n c o' n' c' : Nat) (la lb : List Value) : GoesT (evL (tabH Tryd.prog extY conN hcP) 200 (paP Tryd.f25) ([sl 0 o n c, sl 1 o' n' c'] ++ List.replicate 93 undef, ⟨2, [(lb, tR), (la, tR)]⟩, [at_]) ⟨[], [], []⟩) 12 83 none [sl 0 o n c, sl 1 o' n' c', undef, undef, nilS, nilS, nilS, sl 2 0 (n : Int).toNat (n : Int).toNat, .int .i64 n', undef, undef, undef] (hB3 (List.replicate (n : Int).toNat (.int .u32 0)) lb la) [(okMakeB 4 (n : Int) (n : Int), true)] := ⟨by kernel_rfl, by kernel_rfl, by kernel_rfl⟩
theorem pa_r4 (o n c o' n' c' z : Nat) (r v9 v10 v11 : Value) (h : Hp) (g : Nat → Value) : GoesT (evC (tabH Tryd.prog extY conN hcP) 200 false (cFst (paB Tryd.f25)) ([sl 0 o n c, sl 1 o' n' c', undef, undef, nilS, nilS, r, sl 2 0 z z, .int .i64 n', v9, v10, v11] ++ tl 83 g, h, []) ⟨[], [], []⟩) 12 83 none (pFr o n c o' n' c' z r (IntKind.i64.wrap ((n : Int) - 1)) v10 v11) h [] := ⟨by kernel_rfl, by kernel_rfl, by kernel_rfl⟩
theorem pa_h1 (o n c o' n' c' z : Nat) (r v10 v11 : Value) (i : Int) (h : Hp) (g : Nat → Value) : GoesT (evC (tabH Tryd.prog extY conN hcP) 200 false (paH Tryd.f25) (pFr o n c o' n' c' z r i v10 v11 ++ tl 83 g, h, [cmp true]) ⟨[], [], []⟩) 12 83 none (pFr o n c o' n' c' z r i v10 v11) h [(decide (i ≥ 0), true)] := ⟨by kernel_rfl, by kernel_rfl, by kernel_rfl⟩
theorem pa_h0 (o n c o' n' c' z : Nat) (r v10 v11 : Value) (i : Int) (h : Hp) (g : Nat → Value) : GoesT (evC (tabH Tryd.prog extY conN hcP) 200 false (paH Tryd.f25) (pFr o n c o' n' c' z r i v10 v11 ++ tl 83 g, h, [cmp false]) ⟨[], [], []⟩) 12 83 (some (some 0)) (pFr o n c o' n' c' z r i v10 v11) h [(decide (i ≥ 0), false)] := ⟨by kernel_rfl, by kernel_rfl, by kernel_rfl⟩
theorem pa_7n (o n c o' n' c' z : Nat) (v10 v11 : Value) (i d : Int) (wq lb la : List Value) (g : Nat → Value) : GoesT (evC (tabH Tryd.prog extY conN hcP) 200 false (x7 Tryd.f25) (pFr o n c o' n' c' z nilS i v10 v11 ++ tl 83 g, hB3 wq lb la, [at_, val (.int .u32 d)]) ⟨[], [], []⟩) 12 83 none (pFr o n c o' n' c' z (sl 3 0 (trimN (cutI [.int .u32 d] 0 1)) (trimN (cutI [.int .u32 d] 0 1))) i v10 v11) (hB4 [.int .u32 d] wq lb la) [(rowC tU [.int .u32 d] 0 1 1, true), ceP la o i d, inP i n] := ⟨by kernel_rfl, by kernel_rfl, by kernel_rfl⟩
theorem pa_7e (o n c o' n' c' z : Nat) (v10 v11 : Value) (i d : Int) (wr wq lb la : List Value) (g : Nat → Value) : GoesT (evC (tabH Tryd.prog extY conN hcP) 200 false (x7 Tryd.f25) (pFr o n c o' n' c' z (sl 3 0 0 0) i v10 v11 ++ tl 83 g, hB4 wr wq lb la, [at_, val (.int .u32 d)]) ⟨[], [], []⟩) 12 83 none (pFr o n c o' n' c' z (sl 4 0 (trimN (cutI [.int .u32 d] 0 1)) (trimN (cutI [.int .u32 d] 0 1))) i v10 v11) (hB5 [.int .u32 d] wr wq lb la) [(rowC tU [.int .u32 d] 0 1 1, true), ceP la o i d, inP i n] := ⟨by kernel_rfl, by kernel_rfl, by kernel_rfl⟩
theorem pa_7s (o n c o' n' c' z k : Nat) (v10 v11 : Value) (i d : Int) (wr wq lb la : List Value) (g : Nat → Value) : GoesT (evC (tabH Tryd.prog extY conN hcP) 200 false (x7 Tryd.f25) (pFr o n c o' n' c' z (sl 3 0 k k) i v10 v11 ++ tl 83 g, hB4 wr wq lb la, [at_, val (.int .u32 d), num 0]) ⟨[], [], []⟩) 12 83 none (pFr o n c o' n' c' z (sl 5 0 (trimN (cutI ([.int .u32 d] ++ List.take k (List.drop 0 wr)) 0 (1 + k))) (trimN (cutI ([.int .u32 d] ++ List.take k (List.drop 0 wr)) 0 (1 + k)))) i v10 v11) ⟨6, [(([.int .u32 d] ++ List.take k (List.drop 0 wr)), tU), ([.int .u32 d], tU), (wr, tU), (wq, tU), (lb, tR), (la, tR)]⟩ [(rowC tU ([.int .u32 d] ++ List.take k (List.drop 0 wr)) 0 (1 + k) grown, true), (appChz ([.int .u32 d], tU) (wr, tU) 1 1 0 k, true), ceP la o i d, inP i n] := ⟨by kernel_rfl, by kernel_rfl, by kernel_rfl⟩
theorem pa_8t (o n c o' n' c' z k : Nat) (v10 v11 : Value) (i : Int) (wr wq lb la : List Value) (g : Nat → Value) : GoesT (evC (tabH Tryd.prog extY conN hcP) 200 false (x8 Tryd.f25) (pFr o n c o' n' c' z (sl 3 0 k k) i v10 v11 ++ tl 83 g, hB4 wr wq lb la, [cmp true]) ⟨[], [], []⟩) 12 83 (some (some 1)) (pFr o n c o' n' c' z (sl 3 0 k k) i v10 v11) (hB4 wr wq lb la) [(decide (cmpZ (vO (hB4 wr wq lb la) (aP 3 0) k) (vO (hB4 wr wq lb la) (aP 1 o') n') < 0), true), (two16 (hB4 wr wq lb la) (aP 3 0) (aP 1 o') k k n' c', true)] := ⟨by kernel_rfl, by kernel_rfl, by kernel_rfl⟩
theorem pa_8f (o n c o' n' c' z k : Nat) (v10 v11 : Value) (i : Int) (wr wq lb la : List Value) (g : Nat → Value) : GoesT (evC (tabH Tryd.prog extY conN hcP) 200 false (x8 Tryd.f25) (pFr o n c o' n' c' z (sl 3 0 k k) i v10 v11 ++ tl 83 g, hB4 wr wq lb la, [cmp false]) ⟨[], [], []⟩) 12 83 none (pFr o n c o' n' c' z (sl 3 0 k k) i v10 v11) (hB4 wr wq lb la) [(decide (cmpZ (vO (hB4 wr wq lb la) (aP 3 0) k) (vO (hB4 wr wq lb la) (aP 1 o') n') < 0), false), (two16 (hB4 wr wq lb la) (aP 3 0) (aP 1 o') k k n' c', true)] := ⟨by kernel_rfl, by kernel_rfl, by kernel_rfl⟩
theorem pa_i (o n c o' n' c' z : Nat) (r v10 v11 : Value) (i : Int) (h : Hp) (g : Nat → Value) : GoesT (evC (tabH Tryd.prog extY conN hcP) 200 false (paI Tryd.f25) (pFr o n c o' n' c' z r i v10 v11 ++ tl 83 g, h, []) ⟨[], [], []⟩) 12 83 none (pFr o n c o' n' c' z r (IntKind.i64.wrap (i - 1)) v10 v11) h [] := ⟨by kernel_rfl, by kernel_rfl, by kernel_rfl⟩
theorem pa_9 (o n c o' n' c' z k : Nat) (v10 v11 : Value) (i : Int) (wr wq lb la : List Value) (g : Nat → Value) : GoesT (evC (tabH Tryd.prog extY conN hcP) 200 false (x9 Tryd.f25) (pFr o n c o' n' c' z (sl 3 0 k k) i v10 v11 ++ tl 83 g, hB4 wr wq lb la, []) ⟨[], [], []⟩) 12 83 none (pFr o n c o' n' c' z (sl 3 0 k k) i (.int .u64 (tR3 (rowOf (hB4 wr wq lb la) (aP 3 0) k) n')) v11) (hB4 wr wq lb la) [(rowP (hB4 wr wq lb la) (aP 3 0) k k, true), (decide ((16 : Int) < 0), false), (rowP (hB4 wr wq lb la) (aP 3 0) k k, true), (decide ((32 : Int) < 0), false), (rowP (hB4 wr wq lb la) (aP 3 0) k k, true)] := ⟨by kernel_rfl, by kernel_rfl, by kernel_rfl⟩
theorem pa_10 (o n c o' n' c' z k : Nat) (v11 : Value) (i t x q : Int) (wr wq lb la : List Value) (g : Nat → Value) : GoesT (evC (tabH Tryd.prog extY conN hcP) 200 false (x10 Tryd.f25) (pFr o n c o' n' c' z (sl 3 0 k k) i (.int .u64 t) v11 ++ tl 83 g, hB4 wr wq lb la, [at_, val (.int .u32 x), num q]) ⟨[], [], []⟩) 12 83 none (pFr o n c o' n' c' z (sl 3 0 k k) i (.int .u64 t) (.int .u64 (minG q))) (hB4 wr wq lb la) [(decide ((tB2 x (rowOf (hB4 wr wq lb la) (aP 1 o') n') n') = 0), false), (decide (IntKind.u64.wrap (t.tdiv (tB2 x (rowOf (hB4 wr wq lb la) (aP 1 o') n') n')) = q), true), (rowP (hB4 wr wq lb la) (aP 1 o') n' c', true), (decide ((16 : Int) < 0), false), ceP lb o' (IntKind.i64.wrap ((n' : Int) - 1)) x, inP (IntKind.i64.wrap ((n' : Int) - 1)) n'] := ⟨by kernel_rfl, by kernel_rfl, by kernel_rfl⟩
def pV (h : Hp) (o' n' : Nat) (e : Int) : Nat := vO h (aP 1 o') n' * (IntKind.u32.wrap e).toNat + Int.toNat 0
theorem pa_11 (o n c o' n' c' z k : Nat) (v10 : Value) (i e : Int) (wr wq lb la : List Value) (g : Nat → Value) : GoesT (evC (tabH Tryd.prog extY conN hcP) 200 false (x11 Tryd.f25) (pFr o n c o' n' c' z (sl 3 0 k k) i v10 (.int .u64 e) ++ tl 83 g, hB4 wr wq lb la, [cmp true]) ⟨[], [], []⟩) 13 82 none (pFr o n c o' n' c' z (sl 3 0 k k) i v10 (.int .u64 e) ++ [sl 4 0 (d16 (pV (hB4 wr wq lb la) o' n' e)).length (d16 (pV (hB4 wr wq lb la) o' n' e)).length]) (hB5 (wU (d16 (pV (hB4 wr wq lb la) o' n' e))) wr wq lb la) [(okSml (hB4 wr wq lb la) (aP 1 o') n' c' (IntKind.u32.wrap e) 0, true), (decide (0 < n' ∨ (0 : Int) < 0), true)] := ⟨by kernel_rfl, by kernel_rfl, by kernel_rfl⟩
theorem pa_yt (o n c o' n' c' z k j : Nat) (v10 : Value) (i e : Int) (wp wr wq lb la : List Value) (g : Nat → Value) : GoesT (evC (tabH Tryd.prog extY conN hcP) 200 false (yH Tryd.f25) (pFr o n c o' n' c' z (sl 3 0 k k) i v10 (.int .u64 e) ++ [sl 4 0 j j] ++ tl 82 g, hB5 wp wr wq lb la, [cmp true]) ⟨[], [], []⟩) 13 82 none (pFr o n c o' n' c' z (sl 3 0 k k) i v10 (.int .u64 e) ++ [sl 4 0 j j]) (hB5 wp wr wq lb la) [(decide (cmpZ (vO (hB5 wp wr wq lb la) (aP 4 0) j) (vO (hB5 wp wr wq lb la) (aP 3 0) k) > 0), true), (two16 (hB5 wp wr wq lb la) (aP 4 0) (aP 3 0) j j k k, true)] := ⟨by kernel_rfl, by kernel_rfl, by kernel_rfl⟩
theorem pa_yf (o n c o' n' c' z k j : Nat) (v10 : Value) (i e : Int) (wp wr wq lb la : List Value) (g : Nat → Value) : GoesT (evC (tabH Tryd.prog extY conN hcP) 200 false (yH Tryd.f25) (pFr o n c o' n' c' z (sl 3 0 k k) i v10 (.int .u64 e) ++ [sl 4 0 j j] ++ tl 82 g, hB5 wp wr wq lb la, [cmp false]) ⟨[], [], []⟩) 13 82 (some (some 2)) (pFr o n c o' n' c' z (sl 3 0 k k) i v10 (.int .u64 e) ++ [sl 4 0 j j]) (hB5 wp wr wq lb la) [(decide (cmpZ (vO (hB5 wp wr wq lb la) (aP 4 0) j) (vO (hB5 wp wr wq lb la) (aP 3 0) k) > 0), false), (two16 (hB5 wp wr wq lb la) (aP 4 0) (aP 3 0) j j k k, true)] := ⟨by kernel_rfl, by kernel_rfl, by kernel_rfl⟩
theorem pa_yb (o n c o' n' c' z k j : Nat) (v10 : Value) (i e : Int) (wp wr wq lb la : List Value) (g : Nat → Value) : GoesT (evC (tabH Tryd.prog extY conN hcP) 200 false (yB Tryd.f25) (pFr o n c o' n' c' z (sl 3 0 k k) i v10 (.int .u64 e) ++ [sl 4 0 j j] ++ tl 82 g, hB5 wp wr wq lb la, [cmp true]) ⟨[], [], []⟩) 13 82 none (pFr o n c o' n' c' z (sl 3 0 k k) i v10 (.int .u64 (IntKind.u64.wrap (e - 1))) ++ [sl 5 0 (d16 (vO (hB5 wp wr wq lb la) (aP 4 0) j - vO (hB5 wp wr wq lb la) (aP 1 o') n')).length (d16 (vO (hB5 wp wr wq lb la) (aP 4 0) j - vO (hB5 wp wr wq lb la) (aP 1 o') n')).length]) ⟨6, [(wU (d16 (vO (hB5 wp wr wq lb la) (aP 4 0) j - vO (hB5 wp wr wq lb la) (aP 1 o') n')), tU), (wp, tU), (wr, tU), (wq, tU), (lb, tR), (la, tR)]⟩ [(two16 (hB5 wp wr wq lb la) (aP 4 0) (aP 1 o') j j n' c' && Nat.ble (vO (hB5 wp wr wq lb la) (aP 1 o') n') (vO (hB5 wp wr wq lb la) (aP 4 0) j), true), (decide (0 < j), true)] := ⟨by kernel_rfl, by kernel_rfl, by kernel_rfl⟩
theorem pa_e (o n c o' n' c' z k j : Nat) (v10 : Value) (i e : Int) (wp wr wq lb la : List Value) (g : Nat → Value) : GoesT (evC (tabH Tryd.prog extY conN hcP) 200 false (xE Tryd.f25) (pFr o n c o' n' c' z (sl 3 0 k k) i v10 (.int .u64 e) ++ [sl 4 0 j j] ++ tl 82 g, hB5 wp wr wq lb la, [cmp true, at_, at_]) ⟨[], [], []⟩) 12 83 none (pFr o n c o' n' c' z (sl 5 0 (d16 (vO (hB5 wp wr wq lb la) (aP 3 0) k - vO (hB5 wp wr wq lb la) (aP 4 0) j)).length (d16 (vO (hB5 wp wr wq lb la) (aP 3 0) k - vO (hB5 wp wr wq lb la) (aP 4 0) j)).length) i v10 (.int .u64 e)) ⟨6, [(wU (d16 (vO (hB5 wp wr wq lb la) (aP 3 0) k - vO (hB5 wp wr wq lb la) (aP 4 0) j)), tU), (wp, tU), (wr, tU), (wq.set (0 + i.toNat * 1) (.int .u32 (IntKind.u32.wrap e)), tU), (lb, tR), (la, tR)]⟩ [(decide (0 + i.toNat * 1 < wq.length), true), inP i z, (two16 (hB5 wp wr wq lb la) (aP 3 0) (aP 4 0) k k j j && Nat.ble (vO (hB5 wp wr wq lb la) (aP 4 0) j) (vO (hB5 wp wr wq lb la) (aP 3 0) k), true), (decide (0 < k), true)] := ⟨by kernel_rfl, by kernel_rfl, by kernel_rfl⟩
theorem pa_end (o n c o' n' c' z k : Nat) (v9 v10 v11 : Value) (wr wq lb la : List Value) (g : Nat → Value) : GoesT (evC (tabH Tryd.prog extY conN hcP) 200 false (paE Tryd.f25) ([sl 0 o n c, sl 1 o' n' c', undef, undef, nilS, nilS, sl 3 0 k k, sl 2 0 z z, .int .i64 n', v9, v10, v11] ++ tl 83 g, hB4 wr wq lb la, []) ⟨[], [], []⟩) 6 89 (some none) [sl 0 o n c, sl 1 o' n' c', undef, undef, sl 2 0 (trimN (cutI wq 0 z)) (trimN (cutI wq 0 z)), sl 3 0 k k] (hB4 wr wq lb la) [(rowC tU wq 0 z z, true)] := ⟨by kernel_rfl, by kernel_rfl, by kernel_rfl⟩
end Go.Proofs.YtbjgkhbhabdjgaaDoor

/-
  The document's quotient and rest (tillerref02.Parts), II: its numbers, its loops.
-/
namespace Go.Proofs.YtbjgkhbhabdjgaaDoor
open Go.KRun Go.Nt
set_option maxRecDepth 100000
set_option linter.unusedVariables false

theorem RunsW.next {T : Tab} {c1 c2 : Code} {x : Lf} {front : List Value} {n : Nat} {h : Hp} {P : Ex → Lf → Prop} (h1 : RunsW T c1 x fun e y => e = none ∧ (∃ g, y.1 = front ++ tl n g) ∧ y.2.1 = h) (h2 : ∀ g s, RunsW T c2 (front ++ tl n g, h, s) P) : RunsW T (.seq c1 c2) x P := by
  refine RunsW.seq h1 (fun y hy => ?_) (fun e y hy => by cases hy.1)
  obtain ⟨_, ⟨g, e1⟩, e2⟩ := hy
  obtain ⟨t, hh, s⟩ := y
  simp only at e1 e2
  subst e1 e2
  exact h2 g s
/-! ### rows of numbers -/
theorem rowOf_P {h : Hp} {b A : Nat} {ty : TypeId} (hb : h.blk? b = some (wU (d16 A), ty)) : rowOf h (aP b 0) (d16 A).length = d16 A := by
  unfold rowOf aP
  simp only [hb]
  exact cut_wU _
theorem vO_P {h : Hp} {b A : Nat} {ty : TypeId} (hb : h.blk? b = some (wU (d16 A), ty)) : vO h (aP b 0) (d16 A).length = A := by
  unfold vO
  rw [rowOf_P hb]
  exact vb_db (by omega) A
theorem d16_rng (A : Nat) : ∀ x ∈ d16 A, 0 ≤ x ∧ x < 4294967296 := fun x hx => ⟨(d16_dg A x hx).1, by have := (d16_dg A x hx).2; omega⟩
theorem capS {n : Nat} (h : n < 1000000000) : capOk 0 n n = true := by
  unfold capOk
  have : smallC n = true := by unfold smallC; exact blt_iff.2 (by have : dead = 4611686018427387904 := rfl; omega)
  rw [this, Nat.ble_eq_true_of_le (Nat.le_refl n)]
  rfl
theorem rowP_P {h : Hp} {b A : Nat} (hb : h.blk? b = some (wU (d16 A), tU)) (hl : (d16 A).length < 1000000000) : rowP h (aP b 0) (d16 A).length (d16 A).length = true := by
  unfold rowP aP
  simp only [hb]
  rw [rowC_wU (d16_rng A) (by omega) (capS hl), List.all_eq_true.2 (wU_still _)]
  rfl
theorem two16_mk {h : Hp} {p q : Option Addr} {n c n' c' : Nat} (h1 : rowP h p n c = true) (h2 : rowP h q n' c' = true) (h3 : ∀ x ∈ rowOf h p n, Dg 65536 x) (h4 : ∀ x ∈ rowOf h q n', Dg 65536 x) (h5 : max n n' + 2 < 1073741824) : two16 h p q n c n' c' = true := by
  unfold two16
  rw [h1, h2, dgB_mk h3, dgB_mk h4, blt_iff.2 h5]
  rfl
theorem len_le16 {A k : Nat} (h : A < 65536 ^ k) : (d16 A).length ≤ k := db_len (by omega) k A h
theorem atN_db (V : Nat) (i : Int) : atN (d16 V) i = if 0 ≤ i then ((V / 65536 ^ i.toNat % 65536 : Nat) : Int) else 0 := by
  unfold atN
  split
  · have h1 := getD_db i.toNat V
    have h2 := at_dg (d16_dg V) i.toNat
    have h3 : ((d16 V).getD i.toNat 0).toNat = V / 65536 ^ i.toNat % 65536 := h1
    have := h2.1
    omega
  · rfl
theorem w64 {n : Int} (h0 : 0 ≤ n) (h1 : n < 18446744073709551616) : IntKind.u64.wrap n = n := by simp [IntKind.wrap, IntKind.bits, IntKind.signed]; omega
theorem tR3_eq (V n : Nat) (hn : 1 ≤ n) (hn2 : n < 1000000) : tR3 (d16 V) n = (topP V n : Int) := by
  have e1 : IntKind.i64.wrap ((n : Int) - 1) = ((n - 1 : Nat) : Int) := by rw [wrapI (by omega) (by omega)]; omega
  have e2 : IntKind.i64.wrap ((n : Int) - 2) = (n : Int) - 2 := wrapI (by omega) (by omega)
  have p32 : (2 : Int) ^ min (Int.toNat 32) 64 = 4294967296 := rfl
  have p16 : (2 : Int) ^ min (Int.toNat 16) 64 = 65536 := rfl
  have m1 := Nat.mod_lt (V / 65536 ^ n) (show 0 < 65536 by omega)
  have m2 := Nat.mod_lt (V / 65536 ^ (n - 1)) (show 0 < 65536 by omega)
  have m3 := Nat.mod_lt (V / 65536 ^ (n - 2)) (show 0 < 65536 by omega)
  unfold tR3 topP
  rw [e1, e2, p32, p16, atN_db, atN_db, atN_db, if_pos (by omega), if_pos (by omega), Int.toNat_natCast, Int.toNat_natCast]
  by_cases h2 : 2 ≤ n
  · have e3 : ((n : Int) - 2).toNat = n - 2 := by omega
    rw [if_pos (by omega), if_pos h2, e3]
    generalize V / 65536 ^ n % 65536 = a at *
    generalize V / 65536 ^ (n - 1) % 65536 = b at *
    generalize V / 65536 ^ (n - 2) % 65536 = d at *
    rw [w64 (n := (a : Int)) (by omega) (by omega), w64 (n := (a : Int) * 4294967296) (by omega) (by omega), w64 (n := (b : Int)) (by omega) (by omega), w64 (n := (b : Int) * 65536) (by omega) (by omega), w64 (n := (d : Int)) (by omega) (by omega), w64 (n := (a : Int) * 4294967296 + (b : Int) * 65536) (by omega) (by omega), w64 (by omega) (by omega)]
    omega
  · rw [if_neg (by omega), if_neg h2]
    generalize V / 65536 ^ n % 65536 = a at *
    generalize V / 65536 ^ (n - 1) % 65536 = b at *
    rw [w64 (n := (a : Int)) (by omega) (by omega), w64 (n := (a : Int) * 4294967296) (by omega) (by omega), w64 (n := (b : Int)) (by omega) (by omega), w64 (n := (b : Int) * 65536) (by omega) (by omega), w64 (n := (0 : Int)) (by omega) (by omega), w64 (n := (a : Int) * 4294967296 + (b : Int) * 65536) (by omega) (by omega), w64 (by omega) (by omega)]
    omega
theorem tB2_eq {L : List Int} (hC : Canon 65536 L) (hn : 1 ≤ L.length) (hn2 : L.length < 1000000) : tB2 (L.getD (L.length - 1) 0) L L.length = (topB (vb 65536 L) L.length : Int) := by
  have e2 : IntKind.i64.wrap ((L.length : Int) - 2) = (L.length : Int) - 2 := wrapI (by omega) (by omega)
  have p16 : (2 : Int) ^ min (Int.toNat 16) 64 = 65536 := rfl
  obtain ⟨B, hB⟩ : ∃ B, B = vb 65536 L := ⟨_, rfl⟩
  have eL : L = d16 B := by rw [hB]; exact (db_can (by omega) hC).symm
  have ex : L.getD (L.length - 1) 0 = ((B / 65536 ^ (L.length - 1) % 65536 : Nat) : Int) := by
    have h1 := getD_db (L.length - 1) B
    have h2 := (at_dg hC.1 (L.length - 1)).1
    have h3 : (L.getD (L.length - 1) 0).toNat = B / 65536 ^ (L.length - 1) % 65536 := by
      rw [← h1]
      show (L.getD _ 0).toNat = ((d16 B).getD _ 0).toNat
      rw [← eL]
    omega
  have ea : atN L ((L.length : Int) - 2) = if 0 ≤ (L.length : Int) - 2 then ((B / 65536 ^ ((L.length : Int) - 2).toNat % 65536 : Nat) : Int) else 0 := by
    have := atN_db B ((L.length : Int) - 2)
    rw [← eL] at this
    exact this
  have m2 := Nat.mod_lt (B / 65536 ^ (L.length - 1)) (show 0 < 65536 by omega)
  have m3 := Nat.mod_lt (B / 65536 ^ (L.length - 2)) (show 0 < 65536 by omega)
  unfold tB2 topB
  rw [← hB, e2, p16, ea, ex]
  by_cases h2 : 2 ≤ L.length
  · have e3 : ((L.length : Int) - 2).toNat = L.length - 2 := by omega
    rw [if_pos (by omega), if_pos h2, e3]
    generalize B / 65536 ^ (L.length - 1) % 65536 = b at *
    generalize B / 65536 ^ (L.length - 2) % 65536 = d at *
    rw [w64 (n := (b : Int)) (by omega) (by omega), w64 (n := (b : Int) * 65536) (by omega) (by omega), w64 (n := (d : Int)) (by omega) (by omega), w64 (by omega) (by omega)]
    omega
  · rw [if_neg (by omega), if_neg h2]
    generalize B / 65536 ^ (L.length - 1) % 65536 = b at *
    rw [w64 (n := (b : Int)) (by omega) (by omega), w64 (n := (b : Int) * 65536) (by omega) (by omega), w64 (n := (0 : Int)) (by omega) (by omega), w64 (by omega) (by omega)]
    omega
/-- what is known of the two rows -/
structure Two (la lb : List Value) (o o' c' : Nat) (A L : List Int) : Prop where
  ra : Row la o A
  rb : Row lb o' L
  dA : ∀ x ∈ A, Dg 65536 x
  cL : Canon 65536 L
  n1 : 1 ≤ L.length
  n2 : L.length < 1000000
  a1 : 1 ≤ A.length
  a2 : A.length < 1000000
  cb : rowC tR lb o' L.length c' = true
  sb : ∀ v ∈ lb, still v = true
  sa : ∀ v ∈ la, still v = true
  eb : cutI lb o' L.length = L
section
variable {la lb : List Value} {o c o' c' : Nat} {A L : List Int}
theorem Two.row (H : Two la lb o o' c' A L) {h : Hp} (hb : h.blk? 1 = some (lb, tR)) : rowP h (aP 1 o') L.length c' = true ∧ rowOf h (aP 1 o') L.length = L ∧ vO h (aP 1 o') L.length = vb 65536 L := by
  have e : rowOf h (aP 1 o') L.length = L := by
    unfold rowOf aP
    simp only [hb]
    exact H.eb
  refine ⟨?_, e, by unfold vO; rw [e]⟩
  unfold rowP aP
  simp only [hb]
  rw [H.cb, List.all_eq_true.2 H.sb]
  rfl
theorem Two.bnd (H : Two la lb o o' c' A L) : 65536 ^ (L.length - 1) ≤ vb 65536 L ∧ vb 65536 L < 65536 ^ L.length ∧ 0 < vb 65536 L := by
  have h1 := can_lo H.cL H.n1
  have h2 := vb_lt (b := 65536) (by omega) L H.cL.1
  have : 0 < 65536 ^ (L.length - 1) := Nat.pow_pos (by omega)
  exact ⟨h1, h2, by omega⟩
theorem T0_ok : TabOk (tabH Tryd.prog extY conN hcP) := tabH_ok conN_ok hcP_ok
/-- the row that is left, with the next part ahead of it -/
theorem next_row (V : Nat) {d : Int} (hd : Dg 65536 d) : trimN (d :: d16 V) = (d16 (d.toNat + 65536 * V)).length ∧ wU (d :: d16 V) = wU (d16 (d.toNat + 65536 * V)) ++ wU ((d :: d16 V).drop (trimN (d :: d16 V))) := by
  have hD : ∀ x ∈ d :: d16 V, Dg 65536 x := fun x hx => by
    rcases List.mem_cons.1 hx with rfl | hx
    · exact hd
    · exact d16_dg V x hx
  have ev : vb 65536 (d :: d16 V) = d.toNat + 65536 * V := by
    simp only [vb]
    rw [show vb 65536 (d16 V) = V from vb_db (by omega) V]
  have h1 := trim_len (b := 65536) (by omega) hD
  have h2 := take_trim (b := 65536) (by omega) _ hD
  rw [ev] at h1 h2
  refine ⟨h1, ?_⟩
  rw [← wU_append]
  congr 1
  show _ = db 65536 _ ++ _
  rw [← h2, List.take_append_drop]
theorem rng_of {d : Int} (hd : Dg 65536 d) : ∀ x ∈ d :: ([] : List Int), 0 ≤ x ∧ x < 4294967296 := fun x hx => by
  rw [List.mem_singleton.1 hx]
  exact ⟨hd.1, by have := hd.2; omega⟩
theorem base3 {wq : List Value} (hq : ∀ v ∈ wq, still v = true) (hb : ∀ v ∈ lb, still v = true) (ha : ∀ v ∈ la, still v = true) {h : Hp} (h0 : h.blk? 0 = some (la, tR)) (h1 : h.blk? 1 = some (lb, tR)) (h2 : h.blk? 2 = some (wq, tU)) : ∀ i x, (⟨3, [(wq, tU), (lb, tR), (la, tR)]⟩ : Hp).blk? i = some x → h.blk? i = some x ∧ ∀ v ∈ x.1, still v = true := by
  intro i x hx
  have hi : i < 3 := Hp.blk_lt hx
  have h3 : i = 0 ∨ i = 1 ∨ i = 2 := by omega
  rcases h3 with rfl | rfl | rfl
  · have : (la, tR) = x := Option.some.inj hx
    subst this; exact ⟨h0, ha⟩
  · have : (lb, tR) = x := Option.some.inj hx
    subst this; exact ⟨h1, hb⟩
  · have : (wq, tU) = x := Option.some.inj hx
    subst this; exact ⟨h2, hq⟩
theorem pFr_lt {n n' z t : Nat} {i : Int} {v10 v11 : Value} (k1 : KRun.lt 4 v10 = true) (k2 : KRun.lt 4 v11 = true) : ∀ v ∈ pFr o n c o' n' c' z (sl 3 0 t t) i v10 v11, KRun.lt 4 v = true := by
  intro v hv
  simp only [pFr, List.mem_cons, List.not_mem_nil, or_false] at hv
  rcases hv with rfl | rfl | rfl | rfl | rfl | rfl | rfl | rfl | rfl | rfl | rfl | rfl
  · rfl
  · rfl
  · rfl
  · rfl
  · rfl
  · rfl
  · rfl
  · rfl
  · rfl
  · rfl
  · exact k1
  · exact k2
end
end Go.Proofs.YtbjgkhbhabdjgaaDoor

/-
  What the logs of laws over rows ask, entry by entry.
-/
namespace Go.Proofs.YtbjgkhbhabdjgaaDoor
open Go.KRun Go.Nt
set_option maxRecDepth 100000
set_option linter.unusedVariables false

section
variable {w : World} {i j : Nat} {va vb' : Value} {xa xb : List Value × TypeId} {ka kb : Nat × Nat} {pa pb : Option Addr} {na ca nb cb : Nat} {LA LB : List Int} {H : Hp}
theorem aX (Ha : Arg w i va xa ka pa na ca LA) (hb : H.blk? i = some xa) : rowX H pa na ca = true := (Ha.row hb).1
theorem aXn (Ha : Arg w i va xa ka pa na ca LA) (hb : H.blk? i = some xa) (h : na ≤ 1000000) : (rowX H pa na ca && Nat.ble na 1000000) = true := by rw [(Ha.row hb).1, Nat.ble_eq_true_of_le h]; rfl
theorem aBad (Ha : Arg w i va xa ka pa na ca LA) (hb : H.blk? i = some xa) {d : Bool} (h : badL LA = d) : badL (rowOf H pa na) = d := by rw [(Ha.row hb).2.1, h]
theorem aIs (Ha : Arg w i va xa ka pa na ca LA) (hb : H.blk? i = some xa) {d : Bool} (h : (!badL LA) = d) : (!badL (rowOf H pa na)) = d := by rw [(Ha.row hb).2.1, h]
theorem aVal (Ha : Arg w i va xa ka pa na ca LA) (hb : H.blk? i = some xa) {A : Nat} (h : vb 4294967296 LA = A) : decide (v32O H pa na = A) = true := by
  unfold v32O
  rw [(Ha.row hb).2.1, h]
  exact decide_eq_true rfl
variable (Ha : Arg w i va xa ka pa na ca LA) (Hb : Arg w j vb' xb kb pb nb cb LB) (h1 : H.blk? i = some xa) (h2 : H.blk? j = some xb)
include Ha Hb h1 h2
theorem aOr {d : Bool} (h : (badL LA || badL LB) = d) : (badL (rowOf H pa na) || badL (rowOf H pb nb)) = d := by rw [(Ha.row h1).2.1, (Hb.row h2).2.1, h]
theorem aOrT (h : (badL LA || badL LB) = false) {X : List Int} (hx : X.length ≤ 8192) : (badL (rowOf H pa na) || badL (rowOf H pb nb) || decide ((trimN X : Int) > 8192)) = false := by
  have := trimN_le X
  rw [(Ha.row h1).2.1, (Hb.row h2).2.1, h, decide_eq_false (by omega)]
  rfl
theorem aLess (h : (badL LA || badL LB) = false) (hc : cmpL LA LB < 0) : (!(badL (rowOf H pa na) || badL (rowOf H pb nb)) && decide (cmpL (rowOf H pa na) (rowOf H pb nb) < 0)) = true := by
  rw [(Ha.row h1).2.1, (Hb.row h2).2.1, h, decide_eq_true hc]
  rfl
theorem aMore (h : (badL LA || badL LB) = false) (hc : ¬ cmpL LA LB < 0) : (badL (rowOf H pa na) || badL (rowOf H pb nb) || decide (cmpL (rowOf H pa na) (rowOf H pb nb) < 0)) = false := by
  rw [(Ha.row h1).2.1, (Hb.row h2).2.1, h, decide_eq_false hc]
  rfl
theorem aCmp {k : Int} (hc : cmpL LA LB = k) : decide (cmpL (rowOf H pa na) (rowOf H pb nb) = k) = true := by
  rw [(Ha.row h1).2.1, (Hb.row h2).2.1, hc]
  exact decide_eq_true rfl
theorem aSum {A B : Nat} (ha : vb 4294967296 LA = A) (hb : vb 4294967296 LB = B) : decide (sumR (rowOf H pa na) (rowOf H pb nb) = dg (mxN na nb + 1) ((A + B : Nat) : Int)) = true := by
  refine decide_eq_true ?_
  rw [(Ha.row h1).2.1, (Hb.row h2).2.1]
  unfold sumR
  rw [(Ha.row h1).2.2.1, (Hb.row h2).2.2.1, vN_vb (Ha.row h1).2.2.2, vN_vb (Hb.row h2).2.2.2, ha, hb, Int.natCast_add]
theorem aDif {A B : Nat} (ha : vb 4294967296 LA = A) (hb : vb 4294967296 LB = B) (hle : B ≤ A) : decide (difL (rowOf H pa na) (rowOf H pb nb) = dg na ((A - B : Nat) : Int)) = true := by
  refine decide_eq_true ?_
  rw [(Ha.row h1).2.1, (Hb.row h2).2.1]
  unfold difL
  rw [(Ha.row h1).2.2.1, vN_vb (Ha.row h1).2.2.2, vN_vb (Hb.row h2).2.2.2, ha, hb, Int.ofNat_sub hle]
end
/-! ### rows of the document's digits, rows of words -/
def Is16 (H : Hp) (p : Option Addr) (n c V : Nat) : Prop := rowP H p n c = true ∧ rowOf H p n = d16 V ∧ n = (d16 V).length ∧ n < 100000
theorem is16n (H : Hp) : Is16 H none 0 0 0 := ⟨rfl, (db_zero 65536).symm, by unfold d16; rw [db_zero]; rfl, by omega⟩
theorem is16z (H : Hp) {V : Nat} (h : V = 0) : Is16 H none 0 0 V := by
  subst h
  exact is16n H
theorem is16 {H : Hp} {b V m : Nat} (hb : H.blk? b = some (wU (d16 V), tU)) (hV : V < 4294967296 ^ m) (hm : m ≤ 1000) : Is16 H (some ⟨b, 0, none⟩) (d16 V).length (d16 V).length V := by
  have h1 : (d16 V).length ≤ 2 * m := len16 hV
  exact ⟨rowP_P hb (by omega), rowOf_P hb, rfl, by omega⟩
def Is32 (H : Hp) (p : Option Addr) (n c V : Nat) : Prop := rowP H p n c = true ∧ rowOf H p n = d32 V
theorem is32n (H : Hp) : Is32 H none 0 0 0 := ⟨rfl, (db_zero 4294967296).symm⟩
theorem is32z (H : Hp) {V : Nat} (h : V = 0) : Is32 H none 0 0 V := by
  subst h
  exact is32n H
theorem d32_wds (V : Nat) : wds (d32 V) := db_dg (by omega) V
theorem is32 {H : Hp} {b V m : Nat} (hb : H.blk? b = some (wU (d32 V), tU)) (hV : V < 4294967296 ^ m) (hm : m ≤ 1000) : Is32 H (some ⟨b, 0, none⟩) (d32 V).length grown V := by
  have h1 : (d32 V).length ≤ m := len32 hV
  refine ⟨?_, ?_⟩
  · unfold rowP
    simp only [hb]
    rw [rowC_wU (d32_wds V) (by omega) (by rfl), List.all_eq_true.2 (wU_still _)]
    rfl
  · unfold rowOf
    simp only [hb]
    exact cut_wU _
theorem cut_take {L : List Int} (n : Nat) : cutI (wU L) 0 n = L.take n := by
  unfold cutI cutV wU
  rw [List.drop_zero, ← List.map_take, List.map_map]
  exact (List.map_congr_left fun z _ => rfl).trans (List.map_id' _)
theorem is32d {H : Hp} {b V m : Nat} (hb : H.blk? b = some (wU (dg m (V : Int)), tU)) (hV : V < 4294967296 ^ m) (hm : m ≤ 1000) : Is32 H (some ⟨b, 0, none⟩) (trimN (dg m (V : Int))) m V := by
  have hw := dg_wds m (V : Int)
  have hl := dg_len m (V : Int)
  have ht := trimN_le (dg m (V : Int))
  refine ⟨?_, ?_⟩
  · unfold rowP
    simp only [hb]
    unfold rowC
    have e1 : tomb tU = false := by kernel_rfl
    have e2 : Nat.beq (rt tU) tU = true := by kernel_rfl
    have e3 : Nat.ble (0 + trimN (dg m (V : Int))) (wU (dg m (V : Int))).length = true := Nat.ble_eq_true_of_le (by rw [wU_len]; omega)
    have e4 : Nat.blt (trimN (dg m (V : Int))) 4611686018427387904 = true := blt_iff.2 (by omega)
    have e5 : ((cutV (wU (dg m (V : Int))) 0 (trimN (dg m (V : Int)))).all isU) = true := by
      unfold cutV
      rw [List.drop_zero]
      refine List.all_eq_true.2 fun v hv => ?_
      have hv := List.mem_of_mem_take hv
      unfold wU at hv
      obtain ⟨x, hx, rfl⟩ := List.mem_map.1 hv
      exact decide_eq_true (hw x hx)
    have e6 : capOk 0 (trimN (dg m (V : Int))) m = true := by
      unfold capOk
      rw [show smallC m = true from blt_iff.2 (by have : dead = 4611686018427387904 := rfl; omega), Nat.ble_eq_true_of_le (by omega)]
      rfl
    rw [e1, e2, e3, e4, e5, e6, List.all_eq_true.2 (wU_still _)]
    rfl
  · unfold rowOf
    simp only [hb]
    rw [cut_take]
    refine take_dg ?_
    have : ((4294967296 ^ m : Nat) : Int) = 4294967296 ^ m := by rw [Int.natCast_pow]; rfl
    rw [← this]
    omega
section
variable {H : Hp} {p q : Option Addr} {n c n' c' V W : Nat}
theorem Is16.v (h : Is16 H p n c V) : vO H p n = V := by
  unfold vO
  rw [h.2.1]
  exact vb_db (by omega) V
theorem i2 (h : Is16 H p n c V) (g : Is16 H q n' c' W) : two16 H p q n c n' c' = true :=
  two16_mk h.1 g.1 (by rw [h.2.1]; exact d16_dg V) (by rw [g.2.1]; exact d16_dg W) (by have := h.2.2.2; have := g.2.2.2; omega)
theorem i2b (h : Is16 H p n c V) (g : Is16 H q n' c' W) (hle : W ≤ V) : (two16 H p q n c n' c' && Nat.ble (vO H q n') (vO H p n)) = true := by
  rw [i2 h g, h.v, g.v, Nat.ble_eq_true_of_le hle]
  rfl
theorem iCmp (h : Is16 H p n c V) (g : Is16 H q n' c' W) {k : Int} (hk : cmpZ V W = k) : decide (cmpZ (vO H p n) (vO H q n') = k) = true := by
  rw [h.v, g.v, hk]
  exact decide_eq_true rfl
theorem iAdd (h : Is16 H p n c V) (g : Is16 H q n' c' W) : decide (vO H p n + vO H q n' = V + W) = true := by
  rw [h.v, g.v]
  exact decide_eq_true rfl
theorem iSub (h : Is16 H p n c V) (g : Is16 H q n' c' W) : decide (vO H p n - vO H q n' = V - W) = true := by
  rw [h.v, g.v]
  exact decide_eq_true rfl
theorem iVal (h : Is16 H p n c V) : decide (vO H p n = V) = true := by
  rw [h.v]
  exact decide_eq_true rfl
theorem iWd (h : Is16 H p n c V) : okWd H p n c = true := by
  unfold okWd
  rw [h.1, h.2.1, show canB (d16 V) = true from canB_mk (can_db (by omega) V), blt_iff.2 (by have := h.2.2.2; omega)]
  rfl
theorem iEq (h : Is32 H p n c V) (g : Is32 H q n' c' V) : decide (rowOf H p n = rowOf H q n') = true := by
  rw [h.2, g.2]
  exact decide_eq_true rfl
theorem iPos (h : 0 < V) : decide (0 < (d16 V).length) = true := decide_eq_true ((db_pos_len (by omega)).2 h)
end
end Go.Proofs.YtbjgkhbhabdjgaaDoor
