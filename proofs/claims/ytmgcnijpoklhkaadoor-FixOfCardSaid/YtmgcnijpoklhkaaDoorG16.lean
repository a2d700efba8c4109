/-
  ConVL, ConVM, ConVU, FiI, FiJ, FiK, ConVN, ConVO
-/
import Derived.Test.YtmgcnijpoklhkaaDoorG15
namespace Go.Proofs.YtmgcnijpoklhkaaDoor
open Go.KRun Go.Nt
set_option maxRecDepth 100000
set_option linter.unusedVariables false
def paP (F : Func) : List Code := [cFst (cBody F), cFst (cSnd (cBody F)), cFst (cSnd (cSnd (cBody F))), cFst (cSnd (cSnd (cSnd (cBody F))))]
def paS (F : Func) : Code := cSnd (cSnd (cSnd (cSnd (cBody F))))
def paB (F : Func) : Code := cFst (paS F)
def paL (F : Func) : Code := cIn (cIn (cSnd (paB F)))
def paE (F : Func) : Code := cSnd (paS F)
def paH (F : Func) : Code := cFst (paL F)
def paX (F : Func) : Code := cIn (cFst (cSnd (paL F)))
def paI (F : Func) : Code := cSnd (cSnd (paL F))
def x7 (F : Func) : Code := cFst (paX F)
def x8 (F : Func) : Code := cFst (cSnd (paX F))
def x9 (F : Func) : Code := cFst (cSnd (cSnd (paX F)))
def x10 (F : Func) : Code := cFst (cSnd (cSnd (cSnd (paX F))))
def x11 (F : Func) : Code := cFst (cSnd (cSnd (cSnd (cSnd (paX F)))))
def xT (F : Func) : Code := cSnd (cSnd (cSnd (cSnd (cSnd (paX F)))))
def yL (F : Func) : Code := cIn (cIn (cFst (xT F)))
def yH (F : Func) : Code := cFst (yL F)
def yB (F : Func) : Code := cIn (cSnd (yL F))
def xE (F : Func) : Code := cSnd (xT F)
def hcP : Hc := altH 49 gUsm (altH 11 gUcmp (altH 50 gUsub (altH 34 gAt (altH 35 gUtrim hcN))))
def pFr (o n c o' n' c' z : Nat) (r : Value) (i : Int) (v10 v11 : Value) : List Value := [sl 0 o n c, sl 1 o' n' c', undef, undef, nilS, nilS, r, sl 2 0 z z, .int .i64 n', .int .i64 i, v10, v11]
def hB3 (wq lb la : List Value) : Hp := ⟨3, [(wq, tU), (lb, tR), (la, tR)]⟩
def hB4 (wr wq lb la : List Value) : Hp := ⟨4, [(wr, tU), (wq, tU), (lb, tR), (la, tR)]⟩
def hB5 (wp wr wq lb la : List Value) : Hp := ⟨5, [(wp, tU), (wr, tU), (wq, tU), (lb, tR), (la, tR)]⟩
theorem hcP_ok : HcOk hcP := altH_ok Tryd.func49 rfl gUsm_ok (altH_ok Tryd.func11 rfl gUcmp_ok (altH_ok Tryd.func50 rfl gUsub_ok (altH_ok Tryd.func34 rfl gAt_ok (altH_ok Tryd.func35 rfl gUtrim_ok hcN_ok))))
theorem pa_body : Tryd.f31.body = some (seqs (paP Tryd.f31) (.seq (.seq (cFst (paB Tryd.f31)) (.block 0 (.loop (paL Tryd.f31)))) (paE Tryd.f31))) := by kernel_rfl
theorem pa_loop : paL Tryd.f31 = .seq (paH Tryd.f31) (.seq (.block 1 (paX Tryd.f31)) (paI Tryd.f31)) := by kernel_rfl
theorem pa_x : paX Tryd.f31 = .seq (x7 Tryd.f31) (.seq (x8 Tryd.f31) (.seq (x9 Tryd.f31) (.seq (x10 Tryd.f31) (.seq (x11 Tryd.f31) (.seq (.block 2 (.loop (yL Tryd.f31))) (xE Tryd.f31)))))) := by kernel_rfl
theorem pa_y : yL Tryd.f31 = .seq (yH Tryd.f31) (.block 3 (yB Tryd.f31)) := by kernel_rfl
def aP (b o : Nat) : Option Addr := some ⟨b, o, none⟩
def inP (i : Int) (n : Nat) : Bool × Bool := (decide (0 ≤ i ∧ i < (n : Int)), true)
def ceP (l : List Value) (o : Nat) (i x : Int) : Bool × Bool := (cellIs (l[o + i.toNat * 1]?) (.int .u32 x), true)
def tR3 (R : List Int) (n' : Nat) : Int := IntKind.u64.wrap (IntKind.u64.wrap (IntKind.u64.wrap (IntKind.u64.wrap (atN R n') * 2 ^ min (Int.toNat 32) 64) + IntKind.u64.wrap (IntKind.u64.wrap (atN R (IntKind.i64.wrap ((n' : Int) - 1))) * 2 ^ min (Int.toNat 16) 64)) + IntKind.u64.wrap (atN R (IntKind.i64.wrap ((n' : Int) - 2))))
def tB2 (x : Int) (L : List Int) (n' : Nat) : Int := IntKind.u64.wrap (IntKind.u64.wrap (IntKind.u64.wrap x * 2 ^ min (Int.toNat 16) 64) + IntKind.u64.wrap (atN L (IntKind.i64.wrap ((n' : Int) - 2))))
def minG (q : Int) : Int := if 65535 < q then 65535 else q
theorem pa_pre (o n c o' n' c' : Nat) (la lb : List Value) : GoesT (evL (tabH Tryd.prog extY conN hcP) 200 (paP Tryd.f31) ([sl 0 o n c, sl 1 o' n' c'] ++ List.replicate 93 undef, ⟨2, [(lb, tR), (la, tR)]⟩, [at_]) ⟨[], [], []⟩) 12 83 none [sl 0 o n c, sl 1 o' n' c', undef, undef, nilS, nilS, nilS, sl 2 0 (n : Int).toNat (n : Int).toNat, .int .i64 n', undef, undef, undef] (hB3 (List.replicate (n : Int).toNat (.int .u32 0)) lb la) [(okMakeB 4 (n : Int) (n : Int), true)] := ⟨by kernel_rfl, by kernel_rfl, by kernel_rfl⟩
theorem pa_r4 (o n c o' n' c' z : Nat) (r v9 v10 v11 : Value) (h : Hp) (g : Nat → Value) : GoesT (evC (tabH Tryd.prog extY conN hcP) 200 false (cFst (paB Tryd.f31)) ([sl 0 o n c, sl 1 o' n' c', undef, undef, nilS, nilS, r, sl 2 0 z z, .int .i64 n', v9, v10, v11] ++ tl 83 g, h, []) ⟨[], [], []⟩) 12 83 none (pFr o n c o' n' c' z r (IntKind.i64.wrap ((n : Int) - 1)) v10 v11) h [] := ⟨by kernel_rfl, by kernel_rfl, by kernel_rfl⟩
theorem pa_h1 (o n c o' n' c' z : Nat) (r v10 v11 : Value) (i : Int) (h : Hp) (g : Nat → Value) : GoesT (evC (tabH Tryd.prog extY conN hcP) 200 false (paH Tryd.f31) (pFr o n c o' n' c' z r i v10 v11 ++ tl 83 g, h, [cmp true]) ⟨[], [], []⟩) 12 83 none (pFr o n c o' n' c' z r i v10 v11) h [(decide (i ≥ 0), true)] := ⟨by kernel_rfl, by kernel_rfl, by kernel_rfl⟩
theorem pa_h0 (o n c o' n' c' z : Nat) (r v10 v11 : Value) (i : Int) (h : Hp) (g : Nat → Value) : GoesT (evC (tabH Tryd.prog extY conN hcP) 200 false (paH Tryd.f31) (pFr o n c o' n' c' z r i v10 v11 ++ tl 83 g, h, [cmp false]) ⟨[], [], []⟩) 12 83 (some (some 0)) (pFr o n c o' n' c' z r i v10 v11) h [(decide (i ≥ 0), false)] := ⟨by kernel_rfl, by kernel_rfl, by kernel_rfl⟩
theorem pa_7n (o n c o' n' c' z : Nat) (v10 v11 : Value) (i d : Int) (wq lb la : List Value) (g : Nat → Value) : GoesT (evC (tabH Tryd.prog extY conN hcP) 200 false (x7 Tryd.f31) (pFr o n c o' n' c' z nilS i v10 v11 ++ tl 83 g, hB3 wq lb la, [at_, val (.int .u32 d)]) ⟨[], [], []⟩) 12 83 none (pFr o n c o' n' c' z (sl 3 0 (trimN (cutI [.int .u32 d] 0 1)) (trimN (cutI [.int .u32 d] 0 1))) i v10 v11) (hB4 [.int .u32 d] wq lb la) [(rowC tU [.int .u32 d] 0 1 1, true), ceP la o i d, inP i n] := ⟨by kernel_rfl, by kernel_rfl, by kernel_rfl⟩
theorem pa_7e (o n c o' n' c' z : Nat) (v10 v11 : Value) (i d : Int) (wr wq lb la : List Value) (g : Nat → Value) : GoesT (evC (tabH Tryd.prog extY conN hcP) 200 false (x7 Tryd.f31) (pFr o n c o' n' c' z (sl 3 0 0 0) i v10 v11 ++ tl 83 g, hB4 wr wq lb la, [at_, val (.int .u32 d)]) ⟨[], [], []⟩) 12 83 none (pFr o n c o' n' c' z (sl 4 0 (trimN (cutI [.int .u32 d] 0 1)) (trimN (cutI [.int .u32 d] 0 1))) i v10 v11) (hB5 [.int .u32 d] wr wq lb la) [(rowC tU [.int .u32 d] 0 1 1, true), ceP la o i d, inP i n] := ⟨by kernel_rfl, by kernel_rfl, by kernel_rfl⟩
theorem pa_7s (o n c o' n' c' z k : Nat) (v10 v11 : Value) (i d : Int) (wr wq lb la : List Value) (g : Nat → Value) : GoesT (evC (tabH Tryd.prog extY conN hcP) 200 false (x7 Tryd.f31) (pFr o n c o' n' c' z (sl 3 0 k k) i v10 v11 ++ tl 83 g, hB4 wr wq lb la, [at_, val (.int .u32 d), num 0]) ⟨[], [], []⟩) 12 83 none (pFr o n c o' n' c' z (sl 5 0 (trimN (cutI ([.int .u32 d] ++ List.take k (List.drop 0 wr)) 0 (1 + k))) (trimN (cutI ([.int .u32 d] ++ List.take k (List.drop 0 wr)) 0 (1 + k)))) i v10 v11) ⟨6, [(([.int .u32 d] ++ List.take k (List.drop 0 wr)), tU), ([.int .u32 d], tU), (wr, tU), (wq, tU), (lb, tR), (la, tR)]⟩ [(rowC tU ([.int .u32 d] ++ List.take k (List.drop 0 wr)) 0 (1 + k) grown, true), (appChz ([.int .u32 d], tU) (wr, tU) 1 1 0 k, true), ceP la o i d, inP i n] := ⟨by kernel_rfl, by kernel_rfl, by kernel_rfl⟩
theorem pa_8t (o n c o' n' c' z k : Nat) (v10 v11 : Value) (i : Int) (wr wq lb la : List Value) (g : Nat → Value) : GoesT (evC (tabH Tryd.prog extY conN hcP) 200 false (x8 Tryd.f31) (pFr o n c o' n' c' z (sl 3 0 k k) i v10 v11 ++ tl 83 g, hB4 wr wq lb la, [cmp true]) ⟨[], [], []⟩) 12 83 (some (some 1)) (pFr o n c o' n' c' z (sl 3 0 k k) i v10 v11) (hB4 wr wq lb la) [(decide (cmpZ (vO (hB4 wr wq lb la) (aP 3 0) k) (vO (hB4 wr wq lb la) (aP 1 o') n') < 0), true), (two16 (hB4 wr wq lb la) (aP 3 0) (aP 1 o') k k n' c', true)] := ⟨by kernel_rfl, by kernel_rfl, by kernel_rfl⟩
theorem pa_8f (o n c o' n' c' z k : Nat) (v10 v11 : Value) (i : Int) (wr wq lb la : List Value) (g : Nat → Value) : GoesT (evC (tabH Tryd.prog extY conN hcP) 200 false (x8 Tryd.f31) (pFr o n c o' n' c' z (sl 3 0 k k) i v10 v11 ++ tl 83 g, hB4 wr wq lb la, [cmp false]) ⟨[], [], []⟩) 12 83 none (pFr o n c o' n' c' z (sl 3 0 k k) i v10 v11) (hB4 wr wq lb la) [(decide (cmpZ (vO (hB4 wr wq lb la) (aP 3 0) k) (vO (hB4 wr wq lb la) (aP 1 o') n') < 0), false), (two16 (hB4 wr wq lb la) (aP 3 0) (aP 1 o') k k n' c', true)] := ⟨by kernel_rfl, by kernel_rfl, by kernel_rfl⟩
theorem pa_i (o n c o' n' c' z : Nat) (r v10 v11 : Value) (i : Int) (h : Hp) (g : Nat → Value) : GoesT (evC (tabH Tryd.prog extY conN hcP) 200 false (paI Tryd.f31) (pFr o n c o' n' c' z r i v10 v11 ++ tl 83 g, h, []) ⟨[], [], []⟩) 12 83 none (pFr o n c o' n' c' z r (IntKind.i64.wrap (i - 1)) v10 v11) h [] := ⟨by kernel_rfl, by kernel_rfl, by kernel_rfl⟩
theorem pa_9 (o n c o' n' c' z k : Nat) (v10 v11 : Value) (i : Int) (wr wq lb la : List Value) (g : Nat → Value) : GoesT (evC (tabH Tryd.prog extY conN hcP) 200 false (x9 Tryd.f31) (pFr o n c o' n' c' z (sl 3 0 k k) i v10 v11 ++ tl 83 g, hB4 wr wq lb la, []) ⟨[], [], []⟩) 12 83 none (pFr o n c o' n' c' z (sl 3 0 k k) i (.int .u64 (tR3 (rowOf (hB4 wr wq lb la) (aP 3 0) k) n')) v11) (hB4 wr wq lb la) [(rowP (hB4 wr wq lb la) (aP 3 0) k k, true), (decide ((16 : Int) < 0), false), (rowP (hB4 wr wq lb la) (aP 3 0) k k, true), (decide ((32 : Int) < 0), false), (rowP (hB4 wr wq lb la) (aP 3 0) k k, true)] := ⟨by kernel_rfl, by kernel_rfl, by kernel_rfl⟩
theorem pa_10 (o n c o' n' c' z k : Nat) (v11 : Value) (i t x q : Int) (wr wq lb la : List Value) (g : Nat → Value) : GoesT (evC (tabH Tryd.prog extY conN hcP) 200 false (x10 Tryd.f31) (pFr o n c o' n' c' z (sl 3 0 k k) i (.int .u64 t) v11 ++ tl 83 g, hB4 wr wq lb la, [at_, val (.int .u32 x), num q]) ⟨[], [], []⟩) 12 83 none (pFr o n c o' n' c' z (sl 3 0 k k) i (.int .u64 t) (.int .u64 (minG q))) (hB4 wr wq lb la) [(decide ((tB2 x (rowOf (hB4 wr wq lb la) (aP 1 o') n') n') = 0), false), (decide (IntKind.u64.wrap (t.tdiv (tB2 x (rowOf (hB4 wr wq lb la) (aP 1 o') n') n')) = q), true), (rowP (hB4 wr wq lb la) (aP 1 o') n' c', true), (decide ((16 : Int) < 0), false), ceP lb o' (IntKind.i64.wrap ((n' : Int) - 1)) x, inP (IntKind.i64.wrap ((n' : Int) - 1)) n'] := ⟨by kernel_rfl, by kernel_rfl, by kernel_rfl⟩
def pV (h : Hp) (o' n' : Nat) (e : Int) : Nat := vO h (aP 1 o') n' * (IntKind.u32.wrap e).toNat + Int.toNat 0
theorem pa_11 (o n c o' n' c' z k : Nat) (v10 : Value) (i e : Int) (wr wq lb la : List Value) (g : Nat → Value) : GoesT (evC (tabH Tryd.prog extY conN hcP) 200 false (x11 Tryd.f31) (pFr o n c o' n' c' z (sl 3 0 k k) i v10 (.int .u64 e) ++ tl 83 g, hB4 wr wq lb la, [cmp true]) ⟨[], [], []⟩) 13 82 none (pFr o n c o' n' c' z (sl 3 0 k k) i v10 (.int .u64 e) ++ [sl 4 0 (d16 (pV (hB4 wr wq lb la) o' n' e)).length (d16 (pV (hB4 wr wq lb la) o' n' e)).length]) (hB5 (wU (d16 (pV (hB4 wr wq lb la) o' n' e))) wr wq lb la) [(okSml (hB4 wr wq lb la) (aP 1 o') n' c' (IntKind.u32.wrap e) 0, true), (decide (0 < n' ∨ (0 : Int) < 0), true)] := ⟨by kernel_rfl, by kernel_rfl, by kernel_rfl⟩
theorem pa_yt (o n c o' n' c' z k j : Nat) (v10 : Value) (i e : Int) (wp wr wq lb la : List Value) (g : Nat → Value) : GoesT (evC (tabH Tryd.prog extY conN hcP) 200 false (yH Tryd.f31) (pFr o n c o' n' c' z (sl 3 0 k k) i v10 (.int .u64 e) ++ [sl 4 0 j j] ++ tl 82 g, hB5 wp wr wq lb la, [cmp true]) ⟨[], [], []⟩) 13 82 none (pFr o n c o' n' c' z (sl 3 0 k k) i v10 (.int .u64 e) ++ [sl 4 0 j j]) (hB5 wp wr wq lb la) [(decide (cmpZ (vO (hB5 wp wr wq lb la) (aP 4 0) j) (vO (hB5 wp wr wq lb la) (aP 3 0) k) > 0), true), (two16 (hB5 wp wr wq lb la) (aP 4 0) (aP 3 0) j j k k, true)] := ⟨by kernel_rfl, by kernel_rfl, by kernel_rfl⟩
theorem pa_yf (o n c o' n' c' z k j : Nat) (v10 : Value) (i e : Int) (wp wr wq lb la : List Value) (g : Nat → Value) : GoesT (evC (tabH Tryd.prog extY conN hcP) 200 false (yH Tryd.f31) (pFr o n c o' n' c' z (sl 3 0 k k) i v10 (.int .u64 e) ++ [sl 4 0 j j] ++ tl 82 g, hB5 wp wr wq lb la, [cmp false]) ⟨[], [], []⟩) 13 82 (some (some 2)) (pFr o n c o' n' c' z (sl 3 0 k k) i v10 (.int .u64 e) ++ [sl 4 0 j j]) (hB5 wp wr wq lb la) [(decide (cmpZ (vO (hB5 wp wr wq lb la) (aP 4 0) j) (vO (hB5 wp wr wq lb la) (aP 3 0) k) > 0), false), (two16 (hB5 wp wr wq lb la) (aP 4 0) (aP 3 0) j j k k, true)] := ⟨by kernel_rfl, by kernel_rfl, by kernel_rfl⟩
theorem pa_yb (o n c o' n' c' z k j : Nat) (v10 : Value) (i e : Int) (wp wr wq lb la : List Value) (g : Nat → Value) : GoesT (evC (tabH Tryd.prog extY conN hcP) 200 false (yB Tryd.f31) (pFr o n c o' n' c' z (sl 3 0 k k) i v10 (.int .u64 e) ++ [sl 4 0 j j] ++ tl 82 g, hB5 wp wr wq lb la, [cmp true]) ⟨[], [], []⟩) 13 82 none (pFr o n c o' n' c' z (sl 3 0 k k) i v10 (.int .u64 (IntKind.u64.wrap (e - 1))) ++ [sl 5 0 (d16 (vO (hB5 wp wr wq lb la) (aP 4 0) j - vO (hB5 wp wr wq lb la) (aP 1 o') n')).length (d16 (vO (hB5 wp wr wq lb la) (aP 4 0) j - vO (hB5 wp wr wq lb la) (aP 1 o') n')).length]) ⟨6, [(wU (d16 (vO (hB5 wp wr wq lb la) (aP 4 0) j - vO (hB5 wp wr wq lb la) (aP 1 o') n')), tU), (wp, tU), (wr, tU), (wq, tU), (lb, tR), (la, tR)]⟩ [(two16 (hB5 wp wr wq lb la) (aP 4 0) (aP 1 o') j j n' c' && Nat.ble (vO (hB5 wp wr wq lb la) (aP 1 o') n') (vO (hB5 wp wr wq lb la) (aP 4 0) j), true), (decide (0 < j), true)] := ⟨by kernel_rfl, by kernel_rfl, by kernel_rfl⟩
theorem pa_e (o n c o' n' c' z k j : Nat) (v10 : Value) (i e : Int) (wp wr wq lb la : List Value) (g : Nat → Value) : GoesT (evC (tabH Tryd.prog extY conN hcP) 200 false (xE Tryd.f31) (pFr o n c o' n' c' z (sl 3 0 k k) i v10 (.int .u64 e) ++ [sl 4 0 j j] ++ tl 82 g, hB5 wp wr wq lb la, [cmp true, at_, at_]) ⟨[], [], []⟩) 12 83 none (pFr o n c o' n' c' z (sl 5 0 (d16 (vO (hB5 wp wr wq lb la) (aP 3 0) k - vO (hB5 wp wr wq lb la) (aP 4 0) j)).length (d16 (vO (hB5 wp wr wq lb la) (aP 3 0) k - vO (hB5 wp wr wq lb la) (aP 4 0) j)).length) i v10 (.int .u64 e)) ⟨6, [(wU (d16 (vO (hB5 wp wr wq lb la) (aP 3 0) k - vO (hB5 wp wr wq lb la) (aP 4 0) j)), tU), (wp, tU), (wr, tU), (wq.set (0 + i.toNat * 1) (.int .u32 (IntKind.u32.wrap e)), tU), (lb, tR), (la, tR)]⟩ [(decide (0 + i.toNat * 1 < wq.length), true), inP i z, (two16 (hB5 wp wr wq lb la) (aP 3 0) (aP 4 0) k k j j && Nat.ble (vO (hB5 wp wr wq lb la) (aP 4 0) j) (vO (hB5 wp wr wq lb la) (aP 3 0) k), true), (decide (0 < k), true)] := ⟨by kernel_rfl, by kernel_rfl, by kernel_rfl⟩
theorem pa_end (o n c o' n' c' z k : Nat) (v9 v10 v11 : Value) (wr wq lb la : List Value) (g : Nat → Value) : GoesT (evC (tabH Tryd.prog extY conN hcP) 200 false (paE Tryd.f31) ([sl 0 o n c, sl 1 o' n' c', undef, undef, nilS, nilS, sl 3 0 k k, sl 2 0 z z, .int .i64 n', v9, v10, v11] ++ tl 83 g, hB4 wr wq lb la, []) ⟨[], [], []⟩) 6 89 (some none) [sl 0 o n c, sl 1 o' n' c', undef, undef, sl 2 0 (trimN (cutI wq 0 z)) (trimN (cutI wq 0 z)), sl 3 0 k k] (hB4 wr wq lb la) [(rowC tU wq 0 z z, true)] := ⟨by kernel_rfl, by kernel_rfl, by kernel_rfl⟩
theorem RunsW.next {T : Tab} {c1 c2 : Code} {x : Lf} {front : List Value} {n : Nat} {h : Hp} {P : Ex → Lf → Prop} (h1 : RunsW T c1 x fun e y => e = none ∧ (∃ g, y.1 = front ++ tl n g) ∧ y.2.1 = h) (h2 : ∀ g s, RunsW T c2 (front ++ tl n g, h, s) P) : RunsW T (.seq c1 c2) x P := by
  refine RunsW.seq h1 (fun y hy => ?_) (fun e y hy => by cases hy.1)
  obtain ⟨_, ⟨g, e1⟩, e2⟩ := hy
  obtain ⟨t, hh, s⟩ := y
  simp only at e1 e2
  subst e1 e2
  exact h2 g s
/-! ### rows of numbers -/
theorem rowOf_P {h : Hp} {b A : Nat} {ty : TypeId} (hb : h.blk? b = some (wU (d16 A), ty)) : rowOf h (aP b 0) (d16 A).length = d16 A := by
  unfold rowOf aP
  simp only [hb]
  exact cut_wU _
theorem vO_P {h : Hp} {b A : Nat} {ty : TypeId} (hb : h.blk? b = some (wU (d16 A), ty)) : vO h (aP b 0) (d16 A).length = A := by
  unfold vO
  rw [rowOf_P hb]
  exact vb_db (by omega) A
theorem d16_rng (A : Nat) : ∀ x ∈ d16 A, 0 ≤ x ∧ x < 4294967296 := fun x hx => ⟨(d16_dg A x hx).1, by have := (d16_dg A x hx).2; omega⟩
theorem capS {n : Nat} (h : n < 1000000000) : capOk 0 n n = true := by
  unfold capOk
  have : smallC n = true := by unfold smallC; exact blt_iff.2 (by have : dead = 4611686018427387904 := rfl; omega)
  rw [this, Nat.ble_eq_true_of_le (Nat.le_refl n)]
  rfl
theorem rowP_P {h : Hp} {b A : Nat} (hb : h.blk? b = some (wU (d16 A), tU)) (hl : (d16 A).length < 1000000000) : rowP h (aP b 0) (d16 A).length (d16 A).length = true := by
  unfold rowP aP
  simp only [hb]
  rw [rowC_wU (d16_rng A) (by omega) (capS hl), List.all_eq_true.2 (wU_still _)]
  rfl
theorem two16_mk {h : Hp} {p q : Option Addr} {n c n' c' : Nat} (h1 : rowP h p n c = true) (h2 : rowP h q n' c' = true) (h3 : ∀ x ∈ rowOf h p n, Dg 65536 x) (h4 : ∀ x ∈ rowOf h q n', Dg 65536 x) (h5 : max n n' + 2 < 1073741824) : two16 h p q n c n' c' = true := by
  unfold two16
  rw [h1, h2, dgB_mk h3, dgB_mk h4, blt_iff.2 h5]
  rfl
theorem len_le16 {A k : Nat} (h : A < 65536 ^ k) : (d16 A).length ≤ k := db_len (by omega) k A h
theorem atN_db (V : Nat) (i : Int) : atN (d16 V) i = if 0 ≤ i then ((V / 65536 ^ i.toNat % 65536 : Nat) : Int) else 0 := by
  unfold atN
  split
  · have h1 := getD_db i.toNat V
    have h2 := at_dg (d16_dg V) i.toNat
    have h3 : ((d16 V).getD i.toNat 0).toNat = V / 65536 ^ i.toNat % 65536 := h1
    have := h2.1
    omega
  · rfl
theorem w64 {n : Int} (h0 : 0 ≤ n) (h1 : n < 18446744073709551616) : IntKind.u64.wrap n = n := by simp [IntKind.wrap, IntKind.bits, IntKind.signed]; omega
theorem tR3_eq (V n : Nat) (hn : 1 ≤ n) (hn2 : n < 1000000) : tR3 (d16 V) n = (topP V n : Int) := by
  have e1 : IntKind.i64.wrap ((n : Int) - 1) = ((n - 1 : Nat) : Int) := by rw [wrapI (by omega) (by omega)]; omega
  have e2 : IntKind.i64.wrap ((n : Int) - 2) = (n : Int) - 2 := wrapI (by omega) (by omega)
  have p32 : (2 : Int) ^ min (Int.toNat 32) 64 = 4294967296 := rfl
  have p16 : (2 : Int) ^ min (Int.toNat 16) 64 = 65536 := rfl
  have m1 := Nat.mod_lt (V / 65536 ^ n) (show 0 < 65536 by omega)
  have m2 := Nat.mod_lt (V / 65536 ^ (n - 1)) (show 0 < 65536 by omega)
  have m3 := Nat.mod_lt (V / 65536 ^ (n - 2)) (show 0 < 65536 by omega)
  unfold tR3 topP
  rw [e1, e2, p32, p16, atN_db, atN_db, atN_db, if_pos (by omega), if_pos (by omega), Int.toNat_natCast, Int.toNat_natCast]
  by_cases h2 : 2 ≤ n
  · have e3 : ((n : Int) - 2).toNat = n - 2 := by omega
    rw [if_pos (by omega), if_pos h2, e3]
    generalize V / 65536 ^ n % 65536 = a at *
    generalize V / 65536 ^ (n - 1) % 65536 = b at *
    generalize V / 65536 ^ (n - 2) % 65536 = d at *
    rw [w64 (n := (a : Int)) (by omega) (by omega), w64 (n := (a : Int) * 4294967296) (by omega) (by omega), w64 (n := (b : Int)) (by omega) (by omega), w64 (n := (b : Int) * 65536) (by omega) (by omega), w64 (n := (d : Int)) (by omega) (by omega), w64 (n := (a : Int) * 4294967296 + (b : Int) * 65536) (by omega) (by omega), w64 (by omega) (by omega)]
    omega
  · rw [if_neg (by omega), if_neg h2]
    generalize V / 65536 ^ n % 65536 = a at *
    generalize V / 65536 ^ (n - 1) % 65536 = b at *
    rw [w64 (n := (a : Int)) (by omega) (by omega), w64 (n := (a : Int) * 4294967296) (by omega) (by omega), w64 (n := (b : Int)) (by omega) (by omega), w64 (n := (b : Int) * 65536) (by omega) (by omega), w64 (n := (0 : Int)) (by omega) (by omega), w64 (n := (a : Int) * 4294967296 + (b : Int) * 65536) (by omega) (by omega), w64 (by omega) (by omega)]
    omega
theorem tB2_eq {L : List Int} (hC : Canon 65536 L) (hn : 1 ≤ L.length) (hn2 : L.length < 1000000) : tB2 (L.getD (L.length - 1) 0) L L.length = (topB (vb 65536 L) L.length : Int) := by
  have e2 : IntKind.i64.wrap ((L.length : Int) - 2) = (L.length : Int) - 2 := wrapI (by omega) (by omega)
  have p16 : (2 : Int) ^ min (Int.toNat 16) 64 = 65536 := rfl
  obtain ⟨B, hB⟩ : ∃ B, B = vb 65536 L := ⟨_, rfl⟩
  have eL : L = d16 B := by rw [hB]; exact (db_can (by omega) hC).symm
  have ex : L.getD (L.length - 1) 0 = ((B / 65536 ^ (L.length - 1) % 65536 : Nat) : Int) := by
    have h1 := getD_db (L.length - 1) B
    have h2 := (at_dg hC.1 (L.length - 1)).1
    have h3 : (L.getD (L.length - 1) 0).toNat = B / 65536 ^ (L.length - 1) % 65536 := by
      rw [← h1]
      show (L.getD _ 0).toNat = ((d16 B).getD _ 0).toNat
      rw [← eL]
    omega
  have ea : atN L ((L.length : Int) - 2) = if 0 ≤ (L.length : Int) - 2 then ((B / 65536 ^ ((L.length : Int) - 2).toNat % 65536 : Nat) : Int) else 0 := by
    have := atN_db B ((L.length : Int) - 2)
    rw [← eL] at this
    exact this
  have m2 := Nat.mod_lt (B / 65536 ^ (L.length - 1)) (show 0 < 65536 by omega)
  have m3 := Nat.mod_lt (B / 65536 ^ (L.length - 2)) (show 0 < 65536 by omega)
  unfold tB2 topB
  rw [← hB, e2, p16, ea, ex]
  by_cases h2 : 2 ≤ L.length
  · have e3 : ((L.length : Int) - 2).toNat = L.length - 2 := by omega
    rw [if_pos (by omega), if_pos h2, e3]
    generalize B / 65536 ^ (L.length - 1) % 65536 = b at *
    generalize B / 65536 ^ (L.length - 2) % 65536 = d at *
    rw [w64 (n := (b : Int)) (by omega) (by omega), w64 (n := (b : Int) * 65536) (by omega) (by omega), w64 (n := (d : Int)) (by omega) (by omega), w64 (by omega) (by omega)]
    omega
  · rw [if_neg (by omega), if_neg h2]
    generalize B / 65536 ^ (L.length - 1) % 65536 = b at *
    rw [w64 (n := (b : Int)) (by omega) (by omega), w64 (n := (b : Int) * 65536) (by omega) (by omega), w64 (n := (0 : Int)) (by omega) (by omega), w64 (by omega) (by omega)]
    omega
/-- what is known of the two rows -/
structure Two (la lb : List Value) (o o' c' : Nat) (A L : List Int) : Prop where
  ra : Row la o A
  rb : Row lb o' L
  dA : ∀ x ∈ A, Dg 65536 x
  cL : Canon 65536 L
  n1 : 1 ≤ L.length
  n2 : L.length < 1000000
  a1 : 1 ≤ A.length
  a2 : A.length < 1000000
  cb : rowC tR lb o' L.length c' = true
  sb : ∀ v ∈ lb, still v = true
  sa : ∀ v ∈ la, still v = true
  eb : cutI lb o' L.length = L
section
variable {la lb : List Value} {o c o' c' : Nat} {A L : List Int}
theorem Two.row (H : Two la lb o o' c' A L) {h : Hp} (hb : h.blk? 1 = some (lb, tR)) : rowP h (aP 1 o') L.length c' = true ∧ rowOf h (aP 1 o') L.length = L ∧ vO h (aP 1 o') L.length = vb 65536 L := by
  have e : rowOf h (aP 1 o') L.length = L := by
    unfold rowOf aP
    simp only [hb]
    exact H.eb
  refine ⟨?_, e, by unfold vO; rw [e]⟩
  unfold rowP aP
  simp only [hb]
  rw [H.cb, List.all_eq_true.2 H.sb]
  rfl
theorem Two.bnd (H : Two la lb o o' c' A L) : 65536 ^ (L.length - 1) ≤ vb 65536 L ∧ vb 65536 L < 65536 ^ L.length ∧ 0 < vb 65536 L := by
  have h1 := can_lo H.cL H.n1
  have h2 := vb_lt (b := 65536) (by omega) L H.cL.1
  have : 0 < 65536 ^ (L.length - 1) := Nat.pow_pos (by omega)
  exact ⟨h1, h2, by omega⟩
theorem T0_ok : TabOk (tabH Tryd.prog extY conN hcP) := tabH_ok conN_ok hcP_ok
/-- the row that is left, with the next part ahead of it -/
theorem next_row (V : Nat) {d : Int} (hd : Dg 65536 d) : trimN (d :: d16 V) = (d16 (d.toNat + 65536 * V)).length ∧ wU (d :: d16 V) = wU (d16 (d.toNat + 65536 * V)) ++ wU ((d :: d16 V).drop (trimN (d :: d16 V))) := by
  have hD : ∀ x ∈ d :: d16 V, Dg 65536 x := fun x hx => by
    rcases List.mem_cons.1 hx with rfl | hx
    · exact hd
    · exact d16_dg V x hx
  have ev : vb 65536 (d :: d16 V) = d.toNat + 65536 * V := by
    simp only [vb]
    rw [show vb 65536 (d16 V) = V from vb_db (by omega) V]
  have h1 := trim_len (b := 65536) (by omega) hD
  have h2 := take_trim (b := 65536) (by omega) _ hD
  rw [ev] at h1 h2
  refine ⟨h1, ?_⟩
  rw [← wU_append]
  congr 1
  show _ = db 65536 _ ++ _
  rw [← h2, List.take_append_drop]
theorem rng_of {d : Int} (hd : Dg 65536 d) : ∀ x ∈ d :: ([] : List Int), 0 ≤ x ∧ x < 4294967296 := fun x hx => by
  rw [List.mem_singleton.1 hx]
  exact ⟨hd.1, by have := hd.2; omega⟩
theorem base3 {wq : List Value} (hq : ∀ v ∈ wq, still v = true) (hb : ∀ v ∈ lb, still v = true) (ha : ∀ v ∈ la, still v = true) {h : Hp} (h0 : h.blk? 0 = some (la, tR)) (h1 : h.blk? 1 = some (lb, tR)) (h2 : h.blk? 2 = some (wq, tU)) : ∀ i x, (⟨3, [(wq, tU), (lb, tR), (la, tR)]⟩ : Hp).blk? i = some x → h.blk? i = some x ∧ ∀ v ∈ x.1, still v = true := by
  intro i x hx
  have hi : i < 3 := Hp.blk_lt hx
  have h3 : i = 0 ∨ i = 1 ∨ i = 2 := by omega
  rcases h3 with rfl | rfl | rfl
  · have : (la, tR) = x := Option.some.inj hx
    subst this; exact ⟨h0, ha⟩
  · have : (lb, tR) = x := Option.some.inj hx
    subst this; exact ⟨h1, hb⟩
  · have : (wq, tU) = x := Option.some.inj hx
    subst this; exact ⟨h2, hq⟩
theorem pFr_lt {n n' z t : Nat} {i : Int} {v10 v11 : Value} (k1 : KRun.lt 4 v10 = true) (k2 : KRun.lt 4 v11 = true) : ∀ v ∈ pFr o n c o' n' c' z (sl 3 0 t t) i v10 v11, KRun.lt 4 v = true := by
  intro v hv
  simp only [pFr, List.mem_cons, List.not_mem_nil, or_false] at hv
  rcases hv with rfl | rfl | rfl | rfl | rfl | rfl | rfl | rfl | rfl | rfl | rfl | rfl
  · rfl
  · rfl
  · rfl
  · rfl
  · rfl
  · rfl
  · rfl
  · rfl
  · rfl
  · rfl
  · exact k1
  · exact k2
end
theorem d16_0 : d16 0 = [] := db_zero 65536
end Go.Proofs.YtmgcnijpoklhkaaDoor
namespace Go.Proofs.YtmgcnijpoklhkaaDoor
open Go.KRun Go.Nt Go.Wd
set_option maxRecDepth 100000
def okSb (h : Hp) (p q : Option Addr) (n c n' c' : Nat) : Bool := two16 h p q n c n' c' && Nat.ble (vO h q n') (vO h p n)
def gUsubT : AnsH := fun vals h s =>
  match vals, s with
  | [.slice p n c, .slice q n' c'], .inr (.inr (.inr (.inl d))) :: s' =>
    match d, s' with
    | true, .inr (.inl V) :: s2 => mk16 V.toNat h s2 [(decide (vO h p n - vO h q n' = V.toNat), true), (okSb h p q n c n' c', true), (decide (0 < n), true)]
    | false, _ => some (nilS, h, s', [(two16 h p q n c n' c', true), (decide (0 < n), false)])
    | _, _ => none
  | _, _ => none
def gUshrT : AnsH := fun vals h s =>
  match vals, s with
  | [.slice p n c, .int .i64 k], .inr (.inr (.inr (.inl d))) :: .inr (.inr (.inr (.inl e))) :: s' =>
    match d, s' with
    | true, .inr (.inl V) :: s2 => some (.tuple #[sl h.n 0 (d16 V.toNat).length (d16 V.toNat).length, .bool e], h.push (wU (d16 V.toNat)) tU, s2, [(decide (vO h p n / 2 ^ k.toNat = V.toNat), true), (decide (vO h p n % 2 ^ k.toNat ≠ 0), e), (decide (k.toNat / 16 < n), true), (okShr h p n c k, true)])
    | false, _ => some (.tuple #[nilS, .bool e], h, s', [(decide (vO h p n % 2 ^ k.toNat ≠ 0), e), (decide (k.toNat / 16 < n), false), (okShr h p n c k, true)])
    | _, _ => none
  | _, _ => none
theorem gUshrT_ok : AnsHOk 8 gUshrT := by
  intro vals h s v h' s' lg hg hl
  unfold gUshrT at hg
  split at hg
  · rename_i p n c k d e s2
    split at hg
    · rename_i V s3
      cases hg
      obtain ⟨l1, l2⟩ := log_tlT hl
      have l1 := of_decide_eq_true l1
      refine gUshr_ok _ h [cmp true, cmp e] _ _ [] _ ?_ l2
      simp only [gUshr, l1]
    · cases hg
      exact gUshr_ok _ h [cmp false, cmp e] _ _ [] _ rfl hl
    · cases hg
  · cases hg
/-- a memory: blocks that are numbers (the newest first), ahead of others -/
def hN5 (base : List (List Value × TypeId)) (l : List Nat) : Hp := ⟨l.length + base.length, l.map w16 ++ base⟩
structure N5 (h : Hp) (p : Option Addr) (n V : Nat) : Prop where
  row : rowP h p n n = true
  eq : rowOf h p n = d16 V
  len : n = (d16 V).length
  lt : n < 100000
theorem nN5 (h : Hp) : N5 h none 0 0 := ⟨rfl, by rw [d16_0]; rfl, by rw [d16_0]; rfl, by omega⟩
theorem bN5 {h : Hp} {b V : Nat} (hb : h.blk? b = some (w16 V)) (hl : (d16 V).length < 100000) : N5 h (aP16 b) (d16 V).length V := ⟨rowP_d16 hb (by omega), rowOf_d16 hb, rfl, hl⟩
theorem N5.vO {h : Hp} {p : Option Addr} {n V : Nat} (A : N5 h p n V) : vO h p n = V := by
  unfold Go.Proofs.YtmgcnijpoklhkaaDoor.vO
  rw [A.eq]
  exact vb_db (by omega) V
theorem N5.dg {h : Hp} {p : Option Addr} {n V : Nat} (A : N5 h p n V) : dgB (rowOf h p n) = true := by
  rw [A.eq]
  exact dgB_mk (d16_dg V)
theorem N5.two {h : Hp} {p q : Option Addr} {n m V W : Nat} (A : N5 h p n V) (B : N5 h q m W) : two16 h p q n n m m = true := by
  have := A.lt
  have := B.lt
  unfold two16
  rw [A.row, B.row, A.dg, B.dg, blt_iff.2 (by omega)]
  rfl
theorem N5.shr {h : Hp} {p : Option Addr} {n V : Nat} (A : N5 h p n V) {k : Int} (hk : 0 < k ∧ k < 4611686018427387904) : okShr h p n n k = true := by
  have := A.lt
  unfold okShr
  rw [A.row, A.dg, blt_iff.2 (by omega), decide_eq_true hk]
  rfl
theorem N5.shl {h : Hp} {p : Option Addr} {n V : Nat} (A : N5 h p n V) {k : Int} (hk : 0 ≤ k ∧ k < 100000) : okSh h p n n k = true := by
  have := A.lt
  unfold okSh
  rw [A.row, A.dg, blt_iff.2 (by omega), decide_eq_true hk.1]
  rfl
theorem N5.cmp {h : Hp} {p q : Option Addr} {n m V W : Nat} (A : N5 h p n V) (B : N5 h q m W) {k : Int} (hk : cmpZ V W = k) : decide (cmpZ (Go.Proofs.YtmgcnijpoklhkaaDoor.vO h p n) (Go.Proofs.YtmgcnijpoklhkaaDoor.vO h q m) = k) = true := by
  rw [A.vO, B.vO]
  exact decide_eq_true hk
theorem N5.shlV {h : Hp} {p : Option Addr} {n V : Nat} (A : N5 h p n V) {k P : Nat} (hP : V * 2 ^ k = P) : decide (Go.Proofs.YtmgcnijpoklhkaaDoor.vO h p n * 2 ^ k = P) = true := by
  rw [A.vO]
  exact decide_eq_true hP
theorem N5.shrV {h : Hp} {p : Option Addr} {n V : Nat} (A : N5 h p n V) {k P : Nat} (hP : V / 2 ^ k = P) : decide (Go.Proofs.YtmgcnijpoklhkaaDoor.vO h p n / 2 ^ k = P) = true := by
  rw [A.vO]
  exact decide_eq_true hP
theorem N5.lost {h : Hp} {p : Option Addr} {n V : Nat} (A : N5 h p n V) {k : Nat} {e : Bool} (he : decide (V % 2 ^ k ≠ 0) = e) : decide (Go.Proofs.YtmgcnijpoklhkaaDoor.vO h p n % 2 ^ k ≠ 0) = e := by
  rw [A.vO]
  exact he
theorem len_iff16 (V k : Nat) : k < (d16 V).length ↔ 2 ^ (16 * k) ≤ V := by
  constructor
  · intro h
    rcases Nat.lt_or_ge V (2 ^ (16 * k)) with c | c
    · have := d16_len c
      omega
    · exact c
  · intro h
    rcases Nat.lt_or_ge k (d16 V).length with c | c
    · exact c
    · have h1 := vb_lt (b := 65536) (by omega) (d16 V) (d16_dg V)
      have h2 := Nat.pow_le_pow_right (show 0 < 65536 by omega) c
      have h3 : vb 65536 (d16 V) = V := vb_db (by omega) V
      rw [h3] at h1
      rw [← pow16] at h
      omega
theorem p528 : (2 : Nat) ^ (16 * 33) = 65536 * (115792089237316195423570985008687907853269984665640564039457584007913129639936 * 115792089237316195423570985008687907853269984665640564039457584007913129639936) := by decide +kernel
theorem sh33 {V : Nat} (h : V < 65536 * (115792089237316195423570985008687907853269984665640564039457584007913129639936 * 115792089237316195423570985008687907853269984665640564039457584007913129639936)) : (d16 V).length < 100000 := by
  have := d16_len (A := V) (k := 33) (by rw [p528]; exact h)
  omega
theorem len_pos16 {V : Nat} (h : 1 ≤ V) : 0 < (d16 V).length := (len_iff16 V 0).2 (by rw [Nat.mul_zero]; exact h)
end Go.Proofs.YtmgcnijpoklhkaaDoor
namespace Go.Proofs.YtmgcnijpoklhkaaDoor
open Go.KRun Go.Nt
set_option maxRecDepth 100000
set_option linter.unusedVariables false
section
variable {la lb : List Value} {o c o' c' : Nat} {A L : List Int}
/-- what the row that is left was before the next part: nothing, or a number -/
def rIn (V : Nat) (Q : List Int) (la lb : List Value) (r : Value) (h : Hp) : Prop := (V = 0 ∧ r = nilS ∧ h = hB3 (wU Q) lb la) ∨ (r = sl 3 0 (d16 V).length (d16 V).length ∧ h = hB4 (wU (d16 V)) (wU Q) lb la)
theorem pa_seven (H : Two la lb o o' c' A L) {V : Nat} (hV : V < vb 65536 L) {Q : List Int} {k : Nat} (hk : k < A.length) {v10 v11 : Value} (k1 : KRun.lt 4 v10 = true) (k2 : KRun.lt 4 v11 = true) (s1 : ∀ b : Nat, rn (keepK 3 b) v10 = v10) (s2 : ∀ b : Nat, rn (keepK 3 b) v11 = v11) {r : Value} {h : Hp} (hr : rIn V Q la lb r h) (g : Nat → Value) (s : List Dec) :
    RunsW (tabH Tryd.prog extY conN hcP) (x7 Tryd.f31) (pFr o A.length c o' L.length c' A.length r ((k : Nat) : Int) v10 v11 ++ tl 83 g, h, s) fun e z => e = none ∧ (∃ g, z.1 = pFr o A.length c o' L.length c' A.length (sl 3 0 (d16 ((A.getD k 0).toNat + 65536 * V)).length (d16 ((A.getD k 0).toNat + 65536 * V)).length) ((k : Nat) : Int) v10 v11 ++ tl 83 g) ∧ z.2.1 = hB4 (wU (d16 ((A.getD k 0).toNat + 65536 * V))) (wU Q) lb la := by
  have hd := at_dg H.dA k
  generalize hdd : A.getD k 0 = d at *
  obtain ⟨t1, t2⟩ := next_row V hd
  have b2 := H.bnd.2.1
  have hlen : (d16 V).length ≤ L.length := len_le16 (Nat.lt_trans hV b2)
  have n2 := H.n2
  have gc : cellIs (la[o + ((k : Nat) : Int).toNat * 1]?) (.int .u32 d) = true := by rw [Int.toNat_natCast, Nat.mul_one, H.ra.cell hk, hdd]; simp [cellIs]
  have gi : decide (0 ≤ ((k : Nat) : Int) ∧ ((k : Nat) : Int) < ((A.length : Nat) : Int)) = true := decide_eq_true (by omega)
  have one : rowC tU [.int .u32 d] 0 1 1 = true := rowC_wU (L := [d]) (rng_of hd) (by show 1 < _; omega) (capS (by show 1 < _; omega))
  have c1 : cutI [.int .u32 d] 0 1 = [d] := cut_wU [d]
  have lt' : ∀ t : Nat, ∀ v ∈ pFr o A.length c o' L.length c' A.length (sl 3 0 t t) ((k : Nat) : Int) v10 v11, KRun.lt 4 v = true := fun t => pFr_lt k1 k2
  have front : ∀ b t : Nat, 3 ≤ b → (pFr o A.length c o' L.length c' A.length (sl 3 0 t t) ((k : Nat) : Int) v10 v11).map (rn (keepK 3 b)) = pFr o A.length c o' L.length c' A.length (sl b 0 t t) ((k : Nat) : Int) v10 v11 := fun b t hb => by
    simp only [pFr, List.map_cons, List.map_nil, s1, s2]
    kernel_rfl
  by_cases h0 : V = 0
  · subst h0
    have e0 : d16 0 = [] := db_zero _
    rw [e0] at t1 t2
    rcases hr with ⟨_, rfl, rfl⟩ | ⟨rfl, rfl⟩
    · have r := goesT_runsW (s0 := s) T0_ok (pa_7n o A.length c o' L.length c' A.length v10 v11 ((k : Nat) : Int) d (wU Q) lb la g) (okTwo one (okTwo gc (okOne gi)))
      rw [c1, t1] at r
      exact r.keptP (k := 3) (b := 3) (base := [(wU Q, tU), (lb, tR), (la, tR)]) (y := (wU (d16 (d.toNat + 65536 * 0)), tU)) (r := wU ([d].drop (trimN [d]))) rfl (front 3 _ (Nat.le_refl _)) (base3 (wU_still Q) H.sb H.sa rfl rfl rfl) (by
        show some ([Value.int .u32 d], tU) = _
        rw [← t2]; rfl) (Nat.le_refl _) (wU_still _) (lt' _)
    · rw [e0]
      have r := goesT_runsW (s0 := s) T0_ok (pa_7e o A.length c o' L.length c' A.length v10 v11 ((k : Nat) : Int) d (wU []) (wU Q) lb la g) (okTwo one (okTwo gc (okOne gi)))
      rw [c1, t1] at r
      exact r.keptP (k := 3) (b := 4) (base := [(wU Q, tU), (lb, tR), (la, tR)]) (y := (wU (d16 (d.toNat + 65536 * 0)), tU)) (r := wU ([d].drop (trimN [d]))) rfl (front 4 _ (by omega)) (base3 (wU_still Q) H.sb H.sa rfl rfl rfl) (by
        show some ([Value.int .u32 d], tU) = _
        rw [← t2]; rfl) (by omega) (wU_still _) (lt' _)
  · rcases hr with ⟨h1, _, _⟩ | ⟨rfl, rfl⟩
    · exact absurd h1 h0
    · have hpos : 0 < (d16 V).length := by
        rcases Nat.eq_zero_or_pos (d16 V).length with h1 | h1
        · exact absurd ((db_nil (b := 65536) (by omega)).1 (List.eq_nil_of_length_eq_zero h1)) h0
        · exact h1
      have et : List.take (d16 V).length (List.drop 0 (wU (d16 V))) = wU (d16 V) := by rw [List.drop_zero, ← wU_len, List.take_length]
      have e1 : [.int .u32 d] ++ List.take (d16 V).length (List.drop 0 (wU (d16 V))) = wU (d :: d16 V) := by rw [et]; rfl
      have hD : ∀ x ∈ d :: d16 V, 0 ≤ x ∧ x < 4294967296 := fun x hx => by
        rcases List.mem_cons.1 hx with rfl | hx
        · exact ⟨hd.1, by have := hd.2; omega⟩
        · exact d16_rng V x hx
      have row : rowC tU (wU (d :: d16 V)) 0 (1 + (d16 V).length) grown = true := by
        have := rowC_wU (L := d :: d16 V) hD (by simp only [List.length_cons]; omega) (c := grown) (capG _)
        rw [List.length_cons, Nat.add_comm] at this
        exact this
      have chz : appChz ([.int .u32 d], tU) (wU (d16 V), tU) 1 1 0 (d16 V).length = true := appChz_of (L := [d]) (M := d16 V) rfl rfl hpos (by simp only [List.length_singleton]; omega)
      have cD : cutI (wU (d :: d16 V)) 0 (1 + (d16 V).length) = d :: d16 V := by
        have := cut_wU (d :: d16 V)
        rw [List.length_cons, Nat.add_comm] at this
        exact this
      have q := pa_7s o A.length c o' L.length c' A.length (d16 V).length v10 v11 ((k : Nat) : Int) d (wU (d16 V)) (wU Q) lb la g
      rw [e1] at q
      have r := goesT_runsW (s0 := s) T0_ok q (okTwo row (okTwo chz (okTwo gc (okOne gi))))
      rw [cD, t1] at r
      exact r.keptP (k := 3) (b := 5) (base := [(wU Q, tU), (lb, tR), (la, tR)]) (y := (wU (d16 (d.toNat + 65536 * V)), tU)) (r := wU ((d :: d16 V).drop (trimN (d :: d16 V)))) rfl (front 5 _ (by omega)) (base3 (wU_still Q) H.sb H.sa rfl rfl rfl) (by
        show some (wU (d :: d16 V), tU) = _
        rw [← t2]) (by omega) (wU_still _) (lt' _)
end
section
variable {la lb : List Value} {o c o' c' : Nat} {A L : List Int}
theorem cmpZ_lt (a b : Nat) : (cmpZ a b < 0 ↔ a < b) ∧ (cmpZ a b > 0 ↔ b < a) := by
  unfold cmpZ
  constructor <;> split <;> (try split) <;> omega
def iV (e : Int) : Value := .int .u64 e
/-- the guess made less till it fits -/
theorem pa_inner (H : Two la lb o o' c' A L) {V : Nat} (hV : V < 65536 * vb 65536 L) {Q : List Int} {k : Nat} {v10 : Value} (k1 : KRun.lt 5 v10 = true) (s1 : ∀ b : Nat, rn (keepK 4 b) v10 = v10) {e0 : Nat} (he0 : e0 < 65536) (hge : V / vb 65536 L ≤ e0) (g : Nat → Value) (s : List Dec) :
    RunsW (tabH Tryd.prog extY conN hcP) (.block 2 (.loop (yL Tryd.f31))) (pFr o A.length c o' L.length c' A.length (sl 3 0 (d16 V).length (d16 V).length) ((k : Nat) : Int) v10 (iV (e0 : Nat)) ++ [sl 4 0 (d16 (vb 65536 L * e0)).length (d16 (vb 65536 L * e0)).length] ++ tl 82 g, hB5 (wU (d16 (vb 65536 L * e0))) (wU (d16 V)) (wU Q) lb la, s) fun e z => match e with
      | none => (∃ g, z.1 = pFr o A.length c o' L.length c' A.length (sl 3 0 (d16 V).length (d16 V).length) ((k : Nat) : Int) v10 (iV (V / vb 65536 L : Nat)) ++ [sl 4 0 (d16 (vb 65536 L * (V / vb 65536 L))).length (d16 (vb 65536 L * (V / vb 65536 L))).length] ++ tl 82 g) ∧ z.2.1 = hB5 (wU (d16 (vb 65536 L * (V / vb 65536 L)))) (wU (d16 V)) (wU Q) lb la
      | some none => False
      | some (some _) => False := by
  obtain ⟨b0, b1, b2⟩ := H.bnd
  have n2 := H.n2
  generalize hB : vb 65536 L = B at *
  have hP : ∀ e : Nat, e < 65536 → (d16 (B * e)).length ≤ L.length + 1 := fun e he => len_le16 (by
    rw [Nat.pow_succ]
    exact Nat.mul_lt_mul_of_lt_of_le b1 (by omega) (by omega))
  have hlV : (d16 V).length ≤ L.length + 1 := len_le16 (by
    rw [Nat.pow_succ, Nat.mul_comm]
    exact Nat.lt_trans hV (Nat.mul_lt_mul_of_pos_left b1 (by omega)))
  refine RunsW.forLoop (P := fun z => (∃ g, z.1 = pFr o A.length c o' L.length c' A.length (sl 3 0 (d16 V).length (d16 V).length) ((k : Nat) : Int) v10 (iV (V / B : Nat)) ++ [sl 4 0 (d16 (B * (V / B))).length (d16 (B * (V / B))).length] ++ tl 82 g) ∧ z.2.1 = hB5 (wU (d16 (B * (V / B)))) (wU (d16 V)) (wU Q) lb la) (R := fun _ => False)
    (fun m z => m < 65536 ∧ V / B ≤ m ∧ (∃ g, z.1 = pFr o A.length c o' L.length c' A.length (sl 3 0 (d16 V).length (d16 V).length) ((k : Nat) : Int) v10 (iV (m : Nat)) ++ [sl 4 0 (d16 (B * m)).length (d16 (B * m)).length] ++ tl 82 g) ∧ z.2.1 = hB5 (wU (d16 (B * m))) (wU (d16 V)) (wU Q) lb la) ?_ (n := e0) ⟨he0, hge, ⟨g, rfl⟩, rfl⟩
  rintro m ⟨t, h', s⟩ ⟨hm, hle, ⟨g, ht⟩, hh⟩
  simp only at ht hh
  subst ht hh
  have p4 : (hB5 (wU (d16 (B * m))) (wU (d16 V)) (wU Q) lb la).blk? 4 = some (wU (d16 (B * m)), tU) := rfl
  have p3 : (hB5 (wU (d16 (B * m))) (wU (d16 V)) (wU Q) lb la).blk? 3 = some (wU (d16 V), tU) := rfl
  have p1 : (hB5 (wU (d16 (B * m))) (wU (d16 V)) (wU Q) lb la).blk? 1 = some (lb, tR) := rfl
  have hPm := hP m hm
  have q4 := rowP_P p4 (by omega)
  have q3 := rowP_P p3 (by omega)
  obtain ⟨q1, w1, u1⟩ := H.row p1
  rw [hB] at u1
  have hy : ∀ d : Bool, decide (V < B * m) = d → okLog [(decide (cmpZ (vO (hB5 (wU (d16 (B * m))) (wU (d16 V)) (wU Q) lb la) (aP 4 0) (d16 (B * m)).length) (vO (hB5 (wU (d16 (B * m))) (wU (d16 V)) (wU Q) lb la) (aP 3 0) (d16 V).length) > 0), d), (two16 (hB5 (wU (d16 (B * m))) (wU (d16 V)) (wU Q) lb la) (aP 4 0) (aP 3 0) (d16 (B * m)).length (d16 (B * m)).length (d16 V).length (d16 V).length, true)] := fun d hd => by
    refine okCons ?_ (okL1 (two16_mk q4 q3 (by rw [rowOf_P p4]; exact d16_dg _) (by rw [rowOf_P p3]; exact d16_dg _) (by omega)))
    rw [vO_P p4, vO_P p3, ← hd]
    exact decide_eq_decide.2 (cmpZ_lt (B * m) V).2
  rw [pa_y]
  by_cases hlt : V < B * m
  · have hmd : V / B < m := by
      rw [Nat.div_lt_iff_lt_mul b2, Nat.mul_comm]
      exact hlt
    have hm1 : 1 ≤ m := Nat.lt_of_le_of_lt (Nat.zero_le _) hmd
    have hpos : 0 < (d16 (B * m)).length := by
      rcases Nat.eq_zero_or_pos (d16 (B * m)).length with h1 | h1
      · have := (db_nil (b := 65536) (by omega)).1 (List.eq_nil_of_length_eq_zero h1)
        omega
      · exact h1
    have eB : B * m - B = B * (m - 1) := by rw [Nat.mul_sub, Nat.mul_one]
    have hBm : B ≤ B * m := Nat.le_mul_of_pos_right B (by omega)
    refine RunsW.next (front := pFr o A.length c o' L.length c' A.length (sl 3 0 (d16 V).length (d16 V).length) ((k : Nat) : Int) v10 (iV (m : Nat)) ++ [sl 4 0 (d16 (B * m)).length (d16 (B * m)).length]) (goesT_runsW T0_ok (pa_yt o A.length c o' L.length c' A.length (d16 V).length (d16 (B * m)).length v10 ((k : Nat) : Int) ((m : Nat) : Int) (wU (d16 (B * m))) (wU (d16 V)) (wU Q) lb la g) (hy true (decide_eq_true hlt))) fun g s => ?_
    have rb := goesT_runsW (s0 := s) T0_ok (pa_yb o A.length c o' L.length c' A.length (d16 V).length (d16 (B * m)).length v10 ((k : Nat) : Int) ((m : Nat) : Int) (wU (d16 (B * m))) (wU (d16 V)) (wU Q) lb la g) (okCons (by
      rw [two16_mk q4 q1 (by rw [rowOf_P p4]; exact d16_dg _) (by rw [w1]; exact H.cL.1) (by omega), vO_P p4, u1, Nat.ble_eq_true_of_le hBm]; rfl) (okL1 (decide_eq_true hpos)))
    have e64 : IntKind.u64.wrap (((m : Nat) : Int) - 1) = ((m - 1 : Nat) : Int) := by rw [w64 (by omega) (by omega)]; omega
    rw [vO_P p4, u1, eB, e64] at rb
    have rk := rb.kept (k := 4) (b := 5) (base := [(wU (d16 V), tU), (wU Q, tU), (lb, tR), (la, tR)]) (y := (wU (d16 (B * (m - 1))), tU)) (front' := pFr o A.length c o' L.length c' A.length (sl 3 0 (d16 V).length (d16 V).length) ((k : Nat) : Int) v10 (iV ((m - 1 : Nat) : Int)) ++ [sl 4 0 (d16 (B * (m - 1))).length (d16 (B * (m - 1))).length]) rfl (by
        simp only [pFr, List.map_append, List.map_cons, List.map_nil, s1]
        kernel_rfl) (by
        intro i x hx
        have hi : i < 4 := Hp.blk_lt hx
        have h3 : i = 0 ∨ i = 1 ∨ i = 2 ∨ i = 3 := by omega
        rcases h3 with rfl | rfl | rfl | rfl
        · have : (la, tR) = x := Option.some.inj hx
          subst this; exact ⟨rfl, H.sa⟩
        · have : (lb, tR) = x := Option.some.inj hx
          subst this; exact ⟨rfl, H.sb⟩
        · have : (wU Q, tU) = x := Option.some.inj hx
          subst this; exact ⟨rfl, wU_still _⟩
        · have : (wU (d16 V), tU) = x := Option.some.inj hx
          subst this; exact ⟨rfl, wU_still _⟩) rfl (by omega) (wU_still _) (by
        intro v hv
        simp only [pFr, List.mem_append, List.mem_cons, List.not_mem_nil, or_false] at hv
        rcases hv with (rfl | rfl | rfl | rfl | rfl | rfl | rfl | rfl | rfl | rfl | rfl | rfl) | rfl
        · rfl
        · rfl
        · rfl
        · rfl
        · rfl
        · rfl
        · rfl
        · rfl
        · rfl
        · rfl
        · exact k1
        · rfl
        · rfl)
    refine RunsW.block (P1 := fun e z => e = none ∧ (∃ g, z.1 = pFr o A.length c o' L.length c' A.length (sl 3 0 (d16 V).length (d16 V).length) ((k : Nat) : Int) v10 (iV ((m - 1 : Nat) : Int)) ++ [sl 4 0 (d16 (B * (m - 1))).length (d16 (B * (m - 1))).length] ++ tl 82 g) ∧ z.2.1 = hB5 (wU (d16 (B * (m - 1)))) (wU (d16 V)) (wU Q) lb la) rk (fun y hy => ?_) (fun y hy => by cases hy.1) (fun y hy => by cases hy.1) (fun id y _ hy => by cases hy.1)
    exact ⟨m - 1, by omega, by omega, Nat.le_sub_one_of_lt hmd, hy.2.1, hy.2.2⟩
  · have hmd : m = V / B := by
      have h1 : m ≤ V / B := by rw [Nat.le_div_iff_mul_le b2, Nat.mul_comm]; omega
      omega
    subst hmd
    refine RunsW.seq (goesT_runsW T0_ok (pa_yf o A.length c o' L.length c' A.length (d16 V).length (d16 (B * (V / B))).length v10 ((k : Nat) : Int) ((V / B : Nat) : Int) (wU (d16 (B * (V / B)))) (wU (d16 V)) (wU Q) lb la g) (hy false (decide_eq_false hlt))) (fun y hy => by cases hy.1) (fun e y hy => ?_)
    obtain ⟨e1, z1, z2⟩ := hy
    cases e1
    exact ⟨rfl, z1, z2⟩
/-- what a round leaves -/
def rOut (o c o' c' : Nat) (la lb : List Value) (A L : List Int) (V : Nat) (Q : List Int) (i : Int) (z : Lf) : Prop :=
  ∃ v10 v11 : Value, (KRun.lt 4 v10 = true ∧ KRun.lt 4 v11 = true ∧ (∀ k b : Nat, rn (keepK k b) v10 = v10) ∧ (∀ k b : Nat, rn (keepK k b) v11 = v11)) ∧ (∃ g, z.1 = pFr o A.length c o' L.length c' A.length (sl 3 0 (d16 V).length (d16 V).length) i v10 v11 ++ tl 83 g) ∧ z.2.1 = hB4 (wU (d16 V)) (wU Q) lb la
theorem pa_round (H : Two la lb o o' c' A L) {V : Nat} (hV : V < vb 65536 L) {Q : List Int} (hQ : Q.length = A.length) {k : Nat} (hk : k < A.length) {v10 v11 : Value} (hv : KRun.lt 4 v10 = true ∧ KRun.lt 4 v11 = true ∧ (∀ k b : Nat, rn (keepK k b) v10 = v10) ∧ (∀ k b : Nat, rn (keepK k b) v11 = v11)) {r : Value} {h : Hp} (hr : rIn V Q la lb r h) (g : Nat → Value) (s : List Dec) :
    RunsW (tabH Tryd.prog extY conN hcP) (paL Tryd.f31) (pFr o A.length c o' L.length c' A.length r ((k : Nat) : Int) v10 v11 ++ tl 83 g, h, s) fun e z => e = none ∧ ∃ V' Q', V' = (A.getD k 0).toNat + 65536 * V ∧ Q' = (if V' < vb 65536 L then Q else Q.set k ((V' / vb 65536 L : Nat) : Int)) ∧ rOut o c o' c' la lb A L (V' % vb 65536 L) Q' (((k : Nat) : Int) - 1) z := by
  obtain ⟨b0, b1, b2⟩ := H.bnd
  have n1 := H.n1
  have n2 := H.n2
  have a2 := H.a2
  obtain ⟨l1, l2, s1, s2⟩ := hv
  rw [pa_loop]
  refine RunsW.next (goesT_runsW T0_ok (pa_h1 o A.length c o' L.length c' A.length r v10 v11 ((k : Nat) : Int) h g) (okL1 (decide_eq_true (Int.natCast_nonneg k)))) fun g s => ?_
  have hd := at_dg H.dA k
  obtain ⟨W, hW⟩ : ∃ W, W = (A.getD k 0).toNat + 65536 * V := ⟨_, rfl⟩
  have hWB : W < 65536 * vb 65536 L := by
    have := hd.2
    have := hd.1
    have h3 : 65536 * V + 65536 ≤ 65536 * vb 65536 L := by
      have := Nat.mul_le_mul_left 65536 (Nat.succ_le_of_lt hV)
      rw [Nat.mul_succ] at this
      exact this
    omega
  obtain ⟨B, hB⟩ : ∃ B, B = vb 65536 L := ⟨_, rfl⟩
  have hlW : (d16 W).length ≤ L.length + 1 := len_le16 (by
    rw [Nat.pow_succ, Nat.mul_comm]
    exact Nat.lt_trans hWB (Nat.mul_lt_mul_of_pos_left b1 (by omega)))
  have e1 : IntKind.i64.wrap (((k : Nat) : Int) - 1) = ((k : Nat) : Int) - 1 := wrapI (by omega) (by omega)
  -- the inner block, then the index
  refine RunsW.seq (P1 := fun e z => e = none ∧ rOut o c o' c' la lb A L (W % vb 65536 L) (if W < vb 65536 L then Q else Q.set k ((W / vb 65536 L : Nat) : Int)) ((k : Nat) : Int) z) ?_ ?_ (fun e y hy => by cases hy.1)
  · refine RunsW.block (P1 := fun e z => (e = none ∨ e = some (some 1)) ∧ rOut o c o' c' la lb A L (W % vb 65536 L) (if W < vb 65536 L then Q else Q.set k ((W / vb 65536 L : Nat) : Int)) ((k : Nat) : Int) z) ?_ (fun y hy => ⟨rfl, hy.2⟩) (fun y hy => by rcases hy.1 with h | h <;> cases h) (fun y hy => ⟨rfl, hy.2⟩) (fun id y hid hy => by
      rcases hy.1 with h | h
      · cases h
      · cases h; exact absurd rfl hid)
    rw [pa_x]
    have h7 := pa_seven (c := c) H hV (Q := Q) hk l1 l2 (s1 3) (s2 3) hr g s
    rw [← hW] at h7
    refine RunsW.next h7 fun g s => ?_
    have p3 : (hB4 (wU (d16 W)) (wU Q) lb la).blk? 3 = some (wU (d16 W), tU) := rfl
    have p1 : (hB4 (wU (d16 W)) (wU Q) lb la).blk? 1 = some (lb, tR) := rfl
    have q3 := rowP_P p3 (by omega)
    obtain ⟨q1, w1, u1⟩ := H.row p1
    have h8 : ∀ d : Bool, decide (W < vb 65536 L) = d → okLog [(decide (cmpZ (vO (hB4 (wU (d16 W)) (wU Q) lb la) (aP 3 0) (d16 W).length) (vO (hB4 (wU (d16 W)) (wU Q) lb la) (aP 1 o') L.length) < 0), d), (two16 (hB4 (wU (d16 W)) (wU Q) lb la) (aP 3 0) (aP 1 o') (d16 W).length (d16 W).length L.length c', true)] := fun d hd => by
      refine okCons ?_ (okL1 (two16_mk q3 q1 (by rw [rowOf_P p3]; exact d16_dg _) (by rw [w1]; exact H.cL.1) (by omega)))
      rw [vO_P p3, u1, ← hd]
      exact decide_eq_decide.2 (cmpZ_lt W (vb 65536 L)).1
    by_cases hlt : W < vb 65536 L
    · refine RunsW.seq (goesT_runsW T0_ok (pa_8t o A.length c o' L.length c' A.length (d16 W).length v10 v11 ((k : Nat) : Int) (wU (d16 W)) (wU Q) lb la g) (h8 true (decide_eq_true hlt))) (fun y hy => by cases hy.1) (fun e y hy => ?_)
      obtain ⟨e2, z1, z2⟩ := hy
      cases e2
      rw [if_pos hlt, Nat.mod_eq_of_lt hlt]
      exact ⟨.inr rfl, v10, v11, ⟨l1, l2, s1, s2⟩, z1, z2⟩
    · rw [if_neg hlt]
      refine RunsW.next (goesT_runsW T0_ok (pa_8f o A.length c o' L.length c' A.length (d16 W).length v10 v11 ((k : Nat) : Int) (wU (d16 W)) (wU Q) lb la g) (h8 false (decide_eq_false hlt))) fun g s => ?_
      have g9 := pa_9 o A.length c o' L.length c' A.length (d16 W).length v10 v11 ((k : Nat) : Int) (wU (d16 W)) (wU Q) lb la g
      rw [rowOf_P p3, tR3_eq W L.length n1 n2] at g9
      refine RunsW.next (goesT_runsW T0_ok g9 (okCons q3 (okCons rfl (okCons q3 (okCons rfl (okL1 q3)))))) fun g s => ?_
      obtain ⟨t1, t2, t3, t4, t5⟩ := top_ok n1 b0 b1 hWB
      have etb := tB2_eq H.cL n1 n2
      generalize topP W L.length = tp at *
      generalize topB (vb 65536 L) L.length = tb at *
      obtain ⟨tq, htq⟩ : ∃ tq, tq = tp / tb := ⟨_, rfl⟩
      have htq' : tq ≤ tp := by rw [htq]; exact Nat.div_le_self _ _
      rw [← htq] at t4
      have eix : IntKind.i64.wrap ((L.length : Int) - 1) = ((L.length - 1 : Nat) : Int) := by rw [wrapI (by omega) (by omega)]; omega
      have g10 := pa_10 o A.length c o' L.length c' A.length (d16 W).length v11 ((k : Nat) : Int) ((tp : Nat) : Int) (L.getD (L.length - 1) 0) ((tq : Nat) : Int) (wU (d16 W)) (wU Q) lb la g
      have eq : IntKind.u64.wrap (((tp : Nat) : Int).tdiv ((tb : Nat) : Int)) = ((tq : Nat) : Int) := by
        rw [← Int.ofNat_tdiv, ← htq, w64 (by omega) (by omega)]
      refine RunsW.next (goesT_runsW T0_ok g10 (by
        rw [w1, etb]
        refine okCons (decide_eq_false (by omega)) (okCons (decide_eq_true eq) (okCons q1 (okCons rfl (okCons ?_ (okL1 ?_)))))
        · rw [eix, Int.toNat_natCast, Nat.mul_one, H.rb.cell (by omega)]; simp [cellIs]
        · rw [eix]; exact decide_eq_true (by omega))) fun g s => ?_
      obtain ⟨e, he⟩ : ∃ e : Nat, e = min tq 65535 := ⟨_, rfl⟩
      have em : minG ((tq : Nat) : Int) = ((e : Nat) : Int) := by unfold minG; rw [he]; split <;> omega
      rw [em]
      have e16 : e < 65536 := by omega
      have hde : W / vb 65536 L ≤ e := by omega
      have w32 : IntKind.u32.wrap ((e : Nat) : Int) = ((e : Nat) : Int) := wrap32 (by omega) (by omega)
      have ep : pV (hB4 (wU (d16 W)) (wU Q) lb la) o' L.length ((e : Nat) : Int) = vb 65536 L * e := by
        unfold pV
        rw [u1, w32, Int.toNat_natCast]
        rfl
      have g11 := pa_11 o A.length c o' L.length c' A.length (d16 W).length (iV ((tp : Nat) : Int)) ((k : Nat) : Int) ((e : Nat) : Int) (wU (d16 W)) (wU Q) lb la g
      rw [ep] at g11
      refine RunsW.next (front := pFr o A.length c o' L.length c' A.length (sl 3 0 (d16 W).length (d16 W).length) ((k : Nat) : Int) (iV ((tp : Nat) : Int)) (iV ((e : Nat) : Int)) ++ [sl 4 0 (d16 (vb 65536 L * e)).length (d16 (vb 65536 L * e)).length]) (goesT_runsW T0_ok g11 (okCons (by
        unfold okSml
        rw [q1, w1, dgB_mk H.cL.1, blt_iff.2 (by omega), w32, decide_eq_true ⟨⟨by omega, by omega⟩, by omega, by omega⟩]
        rfl) (okL1 (decide_eq_true (.inl (by omega)))))) fun g s => ?_
      refine RunsW.seq (P1 := fun e z => e = none ∧ (∃ g, z.1 = pFr o A.length c o' L.length c' A.length (sl 3 0 (d16 W).length (d16 W).length) ((k : Nat) : Int) (iV ((tp : Nat) : Int)) (iV (W / vb 65536 L : Nat)) ++ [sl 4 0 (d16 (vb 65536 L * (W / vb 65536 L))).length (d16 (vb 65536 L * (W / vb 65536 L))).length] ++ tl 82 g) ∧ z.2.1 = hB5 (wU (d16 (vb 65536 L * (W / vb 65536 L)))) (wU (d16 W)) (wU Q) lb la) ((pa_inner (c := c) H hWB rfl (fun b => rfl) e16 hde g s).mono fun e z hz => ?_) ?_ (fun e y hy => by cases hy.1)
      · match e, hz with
        | none, hz => exact ⟨rfl, hz⟩
        | some none, hz => exact hz.elim
        | some (some _), hz => exact hz.elim
      · rintro ⟨t, h', s⟩ ⟨_, ⟨g, ht⟩, hh⟩
        simp only at ht hh
        subst ht hh
        have p4 : (hB5 (wU (d16 (vb 65536 L * (W / vb 65536 L)))) (wU (d16 W)) (wU Q) lb la).blk? 4 = some (wU (d16 (vb 65536 L * (W / vb 65536 L))), tU) := rfl
        have p3' : (hB5 (wU (d16 (vb 65536 L * (W / vb 65536 L)))) (wU (d16 W)) (wU Q) lb la).blk? 3 = some (wU (d16 W), tU) := rfl
        have hle : vb 65536 L * (W / vb 65536 L) ≤ W := Nat.mul_div_le W (vb 65536 L)
        have hl4 : (d16 (vb 65536 L * (W / vb 65536 L))).length ≤ L.length + 1 := len_le16 (by
          rw [Nat.pow_succ]
          exact Nat.mul_lt_mul_of_lt_of_le b1 (by omega) (by omega))
        have q4 := rowP_P p4 (by omega)
        have q3' := rowP_P p3' (by omega)
        have hpos : 0 < (d16 W).length := by
          rcases Nat.eq_zero_or_pos (d16 W).length with h1 | h1
          · have := (db_nil (b := 65536) (by omega)).1 (List.eq_nil_of_length_eq_zero h1)
            omega
          · exact h1
        have ge := pa_e o A.length c o' L.length c' A.length (d16 W).length (d16 (vb 65536 L * (W / vb 65536 L))).length (iV ((tp : Nat) : Int)) ((k : Nat) : Int) ((W / vb 65536 L : Nat) : Int) (wU (d16 (vb 65536 L * (W / vb 65536 L)))) (wU (d16 W)) (wU Q) lb la g
        have wd : IntKind.u32.wrap ((W / vb 65536 L : Nat) : Int) = ((W / vb 65536 L : Nat) : Int) := wrap32 (Int.natCast_nonneg _) (by omega)
        have em2 : W - vb 65536 L * (W / vb 65536 L) = W % vb 65536 L := by have := Nat.div_add_mod W (vb 65536 L); omega
        have eset : (wU Q).set (0 + ((k : Nat) : Int).toNat * 1) (.int .u32 ((W / vb 65536 L : Nat) : Int)) = wU (Q.set k ((W / vb 65536 L : Nat) : Int)) := by
          rw [Int.toNat_natCast, Nat.zero_add, Nat.mul_one]; unfold wU; rw [List.map_set]
        have re := goesT_runsW (s0 := s) T0_ok ge (okCons (decide_eq_true (by rw [Int.toNat_natCast, wU_len]; omega)) (okCons (decide_eq_true (by omega)) (okCons (by
          rw [two16_mk q3' q4 (by rw [rowOf_P p3']; exact d16_dg _) (by rw [rowOf_P p4]; exact d16_dg _) (by omega), vO_P p4, vO_P p3', Nat.ble_eq_true_of_le hle]; rfl) (okL1 (decide_eq_true hpos)))))
        rw [vO_P p4, vO_P p3', em2, wd, eset] at re
        have rk := re.kept (k := 3) (b := 5) (base := [(wU (Q.set k ((W / vb 65536 L : Nat) : Int)), tU), (lb, tR), (la, tR)]) (y := (wU (d16 (W % vb 65536 L)), tU)) (front' := pFr o A.length c o' L.length c' A.length (sl 3 0 (d16 (W % vb 65536 L)).length (d16 (W % vb 65536 L)).length) ((k : Nat) : Int) (iV ((tp : Nat) : Int)) (iV (W / vb 65536 L : Nat))) rfl (by
          simp only [pFr, List.map_cons, List.map_nil]
          kernel_rfl) (base3 (wU_still _) H.sb H.sa rfl rfl rfl) rfl (by omega) (wU_still _) (pFr_lt rfl rfl)
        refine rk.mono fun e z hz => ?_
        obtain ⟨e3, z1, z2⟩ := hz
        exact ⟨.inl e3, _, _, ⟨rfl, rfl, fun k b => rfl, fun k b => rfl⟩, z1, z2⟩
  · rintro ⟨t, h', s⟩ ⟨_, u10, u11, hu, ⟨g, ht⟩, hh⟩
    simp only at ht hh
    subst ht hh
    have gi := pa_i o A.length c o' L.length c' A.length (sl 3 0 (d16 (W % vb 65536 L)).length (d16 (W % vb 65536 L)).length) u10 u11 ((k : Nat) : Int) (hB4 (wU (d16 (W % vb 65536 L))) (wU (if W < vb 65536 L then Q else Q.set k ((W / vb 65536 L : Nat) : Int))) lb la) g
    rw [e1] at gi
    refine (goesT_runsW T0_ok gi (fun x hx => by cases hx)).mono fun e z hz => ?_
    obtain ⟨e2, z1, z2⟩ := hz
    exact ⟨e2, W, _, hW, rfl, u10, u11, hu, z1, z2⟩
end
end Go.Proofs.YtmgcnijpoklhkaaDoor
