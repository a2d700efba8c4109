/-
  FiR, FiS
-/
import Derived.Test.YtdlpffgekmidnaaDoorG17
namespace Go.Proofs.YtdlpffgekmidnaaDoor
open Go.KRun Go.Nt Go.Wd
set_option maxRecDepth 100000
def hcSe : Hc := altH 43 gUaddT (altH 50 gUsubT (altH 45 gCut (altH 57 gSmD hcN)))
theorem hcSe_ok : HcOk hcSe := altH_ok Tryd.func43 rfl gUaddT_ok (altH_ok Tryd.func50 rfl gUsubT_ok (altH_ok Tryd.func45 rfl gCut_ok (altH_ok Tryd.func57 rfl gSmD_ok hcN_ok)))
def seP (F : Func) : List Code := [cFst (cBody F), cFst (cSnd (cBody F))]
def seI (F : Func) : Code := cFst (cFst (cSnd (cSnd (cBody F))))
def seL (F : Func) : Code := cIn (cIn (cSnd (cFst (cSnd (cSnd (cBody F))))))
def seE (F : Func) : Code := cSnd (cSnd (cSnd (cBody F)))
theorem se_body : Tryd.f44.body = some (seqs (seP Tryd.f44) (.seq (.seq (seI Tryd.f44) (.block 0 (.loop (seL Tryd.f44)))) (seE Tryd.f44))) := by kernel_rfl
def seF (t q pl mi : Value) (fr i : Int) : List Value := [t, q, .int .u32 fr, undef, undef, undef, nilS, pl, mi, .int .i64 i]
def s16b (b V : Nat) : Value := .slice (aP16 b) (d16 V).length (d16 V).length
def g16b (b V : Nat) : Value := .slice (aP16 b) (d16 V).length grown
abbrev f1 (fr : Int) : Int := IntKind.u32.wrap (fr + 1)
def hS5 (base : List (List Value × TypeId)) (l : List Nat) : Hp := ⟨l.length + base.length, l.map w16 ++ base⟩
theorem se_pre (t q : Value) (fr : Int) (h : Hp) : GoesT (evL (tabH Tryd.prog extY conN hcSe) 100 (seP Tryd.f44) ([t, q, .int .u32 fr] ++ List.replicate 38 undef, h, []) ⟨[], [], []⟩) 9 32 none [t, q, .int .u32 fr, undef, undef, undef, nilS, nilS, nilS] h [] := ⟨by kernel_rfl, by kernel_rfl, by kernel_rfl⟩
theorem se_i (t q : Value) (fr : Int) (h : Hp) (g : Nat → Value) : GoesT (evC (tabH Tryd.prog extY conN hcSe) 100 false (seI Tryd.f44) ([t, q, .int .u32 fr, undef, undef, undef, nilS, nilS, nilS] ++ tl 32 g, h, []) ⟨[], [], []⟩) 10 31 none (seF t q nilS nilS fr 0) h [] := ⟨by kernel_rfl, by kernel_rfl, by kernel_rfl⟩
theorem se_o1 (t q pl mi : Value) (fr i : Int) (h : Hp) (g : Nat → Value) : GoesT (evC (tabH Tryd.prog extY conN hcSe) 100 false (seL Tryd.f44) (seF t q pl mi fr i ++ tl 31 g, h, [cmp false]) ⟨[], [], []⟩) 10 31 (some (some 0)) (seF t q pl mi fr i) h [(decide (i < 100), false)] := ⟨by kernel_rfl, by kernel_rfl, by kernel_rfl⟩
theorem se_o2 (q pl mi : Value) (p : Option Addr) (n c : Nat) (fr i : Int) (h : Hp) (g : Nat → Value) : GoesT (evC (tabH Tryd.prog extY conN hcSe) 100 false (seL Tryd.f44) (seF (.slice p n c) q pl mi fr i ++ tl 31 g, h, [cmp true, cmp false]) ⟨[], [], []⟩) 10 31 (some (some 0)) (seF (.slice p n c) q pl mi fr i) h [(decide ((n : Int) > 0), false), (decide (i < 100), true)] := ⟨by kernel_rfl, by kernel_rfl, by kernel_rfl⟩
theorem se_00 (x1 x0 : List Value × TypeId) (p q : Option Addr) (n c m e : Nat)  (A : Nat) (fr i : Int) (g : Nat → Value) : GoesT (evC (tabH Tryd.prog extY conN hcSe) 300 false (seL Tryd.f44) (seF (.slice p n c) (.slice q m e) nilS nilS fr i ++ tl 31 g, (hS5 [x1, x0] []), [cmp true, cmp true, cmp false, cmp true, cmp true, num A, cmp false, cmp false, cmp false]) ⟨[], [], []⟩) 10 31 none (seF nilS (.slice q m e) (s16b 2 A) nilS (IntKind.u32.wrap (fr + 2)) (IntKind.i64.wrap (i + 1))) (hS5 [x1, x0] [A]) [(rowP (hS5 [x1, x0] [A]) none 0 0, true), (decide (0 < 0), false), (rowP (hS5 [x1, x0] [A]) none 0 0, true), (decide (0 < 0), false), (decide (20 < (d16 (vO (hS5 [x1, x0] [A]) p n * vO (hS5 [x1, x0] [A]) q m)).length), false), (okMu (hS5 [x1, x0] [A]) p q n c m e, true), (decide (vO (hS5 [x1, x0] []) none (0) + vO (hS5 [x1, x0] []) p n = A), true), (two16 (hS5 [x1, x0] []) none p (0) (0) n c, true), (decide (0 < 0 ∨ 0 < n), true), (i.tmod 2 == 0, true), (decide ((2 : Int) = 0), false), (decide ((n : Int) > 0), true), (decide (i < 100), true)] := ⟨by kernel_rfl, by kernel_rfl, by kernel_rfl⟩
theorem se_01 (x1 x0 : List Value × TypeId) (p q : Option Addr) (n c m e : Nat)  (A V1 : Nat) (fr i : Int) (g : Nat → Value) : GoesT (evC (tabH Tryd.prog extY conN hcSe) 300 false (seL Tryd.f44) (seF (.slice p n c) (.slice q m e) nilS nilS fr i ++ tl 31 g, (hS5 [x1, x0] []), [cmp true, cmp true, cmp false, cmp true, cmp true, num A, cmp true, num V1, cmp false, cmp false]) ⟨[], [], []⟩) 10 31 none (seF nilS (.slice q m e) (s16b 2 A) nilS (IntKind.u32.wrap (fr + 2)) (IntKind.i64.wrap (i + 1))) (hS5 [x1, x0] [V1, A]) [(rowP (hS5 [x1, x0] [V1, A]) none 0 0, true), (decide (0 < 0), false), (rowP (hS5 [x1, x0] [V1, A]) (aP16 3) (d16 V1).length (d16 V1).length, true), (decide (0 < (d16 V1).length), false), (decide (vO (hS5 [x1, x0] [A]) p n * vO (hS5 [x1, x0] [A]) q m / Go.Fx.uD = V1), true), (decide (20 < (d16 (vO (hS5 [x1, x0] [A]) p n * vO (hS5 [x1, x0] [A]) q m)).length ∧ (d16 (vO (hS5 [x1, x0] [A]) p n * vO (hS5 [x1, x0] [A]) q m)).length < 100000), true), (okMu (hS5 [x1, x0] [A]) p q n c m e, true), (decide (vO (hS5 [x1, x0] []) none (0) + vO (hS5 [x1, x0] []) p n = A), true), (two16 (hS5 [x1, x0] []) none p (0) (0) n c, true), (decide (0 < 0 ∨ 0 < n), true), (i.tmod 2 == 0, true), (decide ((2 : Int) = 0), false), (decide ((n : Int) > 0), true), (decide (i < 100), true)] := ⟨by kernel_rfl, by kernel_rfl, by kernel_rfl⟩
theorem se_02 (x1 x0 : List Value × TypeId) (p q : Option Addr) (n c m e : Nat)  (A V1 V2 : Nat) (fr i : Int) (g : Nat → Value) : GoesT (evC (tabH Tryd.prog extY conN hcSe) 300 false (seL Tryd.f44) (seF (.slice p n c) (.slice q m e) nilS nilS fr i ++ tl 31 g, (hS5 [x1, x0] []), [cmp true, cmp true, cmp false, cmp true, cmp true, num A, cmp true, num V1, cmp true, num V2, cmp false]) ⟨[], [], []⟩) 10 31 none (seF nilS (.slice q m e) (s16b 2 A) nilS (IntKind.u32.wrap (fr + 2)) (IntKind.i64.wrap (i + 1))) (hS5 [x1, x0] [V2, V1, A]) [(rowP (hS5 [x1, x0] [V2, V1, A]) (aP16 4) (d16 V2).length grown, true), (decide (0 < (d16 V2).length), false), (decide (vO (hS5 [x1, x0] [V1, A]) (aP16 3) (d16 V1).length / fr.toNat = V2), true), (okSm (hS5 [x1, x0] [V1, A]) (aP16 3) (d16 V1).length (d16 V1).length fr, true), (decide (0 < (d16 V1).length), true), (decide (vO (hS5 [x1, x0] [A]) p n * vO (hS5 [x1, x0] [A]) q m / Go.Fx.uD = V1), true), (decide (20 < (d16 (vO (hS5 [x1, x0] [A]) p n * vO (hS5 [x1, x0] [A]) q m)).length ∧ (d16 (vO (hS5 [x1, x0] [A]) p n * vO (hS5 [x1, x0] [A]) q m)).length < 100000), true), (okMu (hS5 [x1, x0] [A]) p q n c m e, true), (decide (vO (hS5 [x1, x0] []) none (0) + vO (hS5 [x1, x0] []) p n = A), true), (two16 (hS5 [x1, x0] []) none p (0) (0) n c, true), (decide (0 < 0 ∨ 0 < n), true), (i.tmod 2 == 0, true), (decide ((2 : Int) = 0), false), (decide ((n : Int) > 0), true), (decide (i < 100), true)] := ⟨by kernel_rfl, by kernel_rfl, by kernel_rfl⟩
theorem se_03 (x1 x0 : List Value × TypeId) (p q : Option Addr) (n c m e : Nat)  (A V1 V2 V3 : Nat) (fr i : Int) (g : Nat → Value) : GoesT (evC (tabH Tryd.prog extY conN hcSe) 300 false (seL Tryd.f44) (seF (.slice p n c) (.slice q m e) nilS nilS fr i ++ tl 31 g, (hS5 [x1, x0] []), [cmp true, cmp true, cmp false, cmp true, cmp true, num A, cmp true, num V1, cmp true, num V2, cmp true, num V3]) ⟨[], [], []⟩) 10 31 none (seF (g16b 5 V3) (.slice q m e) (s16b 2 A) nilS (IntKind.u32.wrap (fr + 2)) (IntKind.i64.wrap (i + 1))) (hS5 [x1, x0] [V3, V2, V1, A]) [(decide (vO (hS5 [x1, x0] [V2, V1, A]) (aP16 4) (d16 V2).length / (f1 fr).toNat = V3), true), (okSm (hS5 [x1, x0] [V2, V1, A]) (aP16 4) (d16 V2).length grown (f1 fr), true), (decide (0 < (d16 V2).length), true), (decide (vO (hS5 [x1, x0] [V1, A]) (aP16 3) (d16 V1).length / fr.toNat = V2), true), (okSm (hS5 [x1, x0] [V1, A]) (aP16 3) (d16 V1).length (d16 V1).length fr, true), (decide (0 < (d16 V1).length), true), (decide (vO (hS5 [x1, x0] [A]) p n * vO (hS5 [x1, x0] [A]) q m / Go.Fx.uD = V1), true), (decide (20 < (d16 (vO (hS5 [x1, x0] [A]) p n * vO (hS5 [x1, x0] [A]) q m)).length ∧ (d16 (vO (hS5 [x1, x0] [A]) p n * vO (hS5 [x1, x0] [A]) q m)).length < 100000), true), (okMu (hS5 [x1, x0] [A]) p q n c m e, true), (decide (vO (hS5 [x1, x0] []) none (0) + vO (hS5 [x1, x0] []) p n = A), true), (two16 (hS5 [x1, x0] []) none p (0) (0) n c, true), (decide (0 < 0 ∨ 0 < n), true), (i.tmod 2 == 0, true), (decide ((2 : Int) = 0), false), (decide ((n : Int) > 0), true), (decide (i < 100), true)] := ⟨by kernel_rfl, by kernel_rfl, by kernel_rfl⟩
theorem se_10 (x1 x0 : List Value × TypeId) (p q : Option Addr) (n c m e : Nat) (P : Nat) (A : Nat) (fr i : Int) (g : Nat → Value) : GoesT (evC (tabH Tryd.prog extY conN hcSe) 300 false (seL Tryd.f44) (seF (.slice p n c) (.slice q m e) (s16b 2 P) nilS fr i ++ tl 31 g, (hS5 [x1, x0] [P]), [cmp true, cmp true, cmp false, cmp false, cmp true, num A, cmp false, cmp false, cmp false]) ⟨[], [], []⟩) 10 31 none (seF nilS (.slice q m e) (s16b 2 P) (s16b 3 A) (IntKind.u32.wrap (fr + 2)) (IntKind.i64.wrap (i + 1))) (hS5 [x1, x0] [A, P]) [(rowP (hS5 [x1, x0] [A, P]) none 0 0, true), (decide (0 < 0), false), (rowP (hS5 [x1, x0] [A, P]) none 0 0, true), (decide (0 < 0), false), (decide (20 < (d16 (vO (hS5 [x1, x0] [A, P]) p n * vO (hS5 [x1, x0] [A, P]) q m)).length), false), (okMu (hS5 [x1, x0] [A, P]) p q n c m e, true), (decide (vO (hS5 [x1, x0] [P]) none (0) + vO (hS5 [x1, x0] [P]) p n = A), true), (two16 (hS5 [x1, x0] [P]) none p (0) (0) n c, true), (decide (0 < 0 ∨ 0 < n), true), (i.tmod 2 == 0, false), (decide ((2 : Int) = 0), false), (decide ((n : Int) > 0), true), (decide (i < 100), true)] := ⟨by kernel_rfl, by kernel_rfl, by kernel_rfl⟩
theorem se_11 (x1 x0 : List Value × TypeId) (p q : Option Addr) (n c m e : Nat) (P : Nat) (A V1 : Nat) (fr i : Int) (g : Nat → Value) : GoesT (evC (tabH Tryd.prog extY conN hcSe) 300 false (seL Tryd.f44) (seF (.slice p n c) (.slice q m e) (s16b 2 P) nilS fr i ++ tl 31 g, (hS5 [x1, x0] [P]), [cmp true, cmp true, cmp false, cmp false, cmp true, num A, cmp true, num V1, cmp false, cmp false]) ⟨[], [], []⟩) 10 31 none (seF nilS (.slice q m e) (s16b 2 P) (s16b 3 A) (IntKind.u32.wrap (fr + 2)) (IntKind.i64.wrap (i + 1))) (hS5 [x1, x0] [V1, A, P]) [(rowP (hS5 [x1, x0] [V1, A, P]) none 0 0, true), (decide (0 < 0), false), (rowP (hS5 [x1, x0] [V1, A, P]) (aP16 4) (d16 V1).length (d16 V1).length, true), (decide (0 < (d16 V1).length), false), (decide (vO (hS5 [x1, x0] [A, P]) p n * vO (hS5 [x1, x0] [A, P]) q m / Go.Fx.uD = V1), true), (decide (20 < (d16 (vO (hS5 [x1, x0] [A, P]) p n * vO (hS5 [x1, x0] [A, P]) q m)).length ∧ (d16 (vO (hS5 [x1, x0] [A, P]) p n * vO (hS5 [x1, x0] [A, P]) q m)).length < 100000), true), (okMu (hS5 [x1, x0] [A, P]) p q n c m e, true), (decide (vO (hS5 [x1, x0] [P]) none (0) + vO (hS5 [x1, x0] [P]) p n = A), true), (two16 (hS5 [x1, x0] [P]) none p (0) (0) n c, true), (decide (0 < 0 ∨ 0 < n), true), (i.tmod 2 == 0, false), (decide ((2 : Int) = 0), false), (decide ((n : Int) > 0), true), (decide (i < 100), true)] := ⟨by kernel_rfl, by kernel_rfl, by kernel_rfl⟩
theorem se_12 (x1 x0 : List Value × TypeId) (p q : Option Addr) (n c m e : Nat) (P : Nat) (A V1 V2 : Nat) (fr i : Int) (g : Nat → Value) : GoesT (evC (tabH Tryd.prog extY conN hcSe) 300 false (seL Tryd.f44) (seF (.slice p n c) (.slice q m e) (s16b 2 P) nilS fr i ++ tl 31 g, (hS5 [x1, x0] [P]), [cmp true, cmp true, cmp false, cmp false, cmp true, num A, cmp true, num V1, cmp true, num V2, cmp false]) ⟨[], [], []⟩) 10 31 none (seF nilS (.slice q m e) (s16b 2 P) (s16b 3 A) (IntKind.u32.wrap (fr + 2)) (IntKind.i64.wrap (i + 1))) (hS5 [x1, x0] [V2, V1, A, P]) [(rowP (hS5 [x1, x0] [V2, V1, A, P]) (aP16 5) (d16 V2).length grown, true), (decide (0 < (d16 V2).length), false), (decide (vO (hS5 [x1, x0] [V1, A, P]) (aP16 4) (d16 V1).length / fr.toNat = V2), true), (okSm (hS5 [x1, x0] [V1, A, P]) (aP16 4) (d16 V1).length (d16 V1).length fr, true), (decide (0 < (d16 V1).length), true), (decide (vO (hS5 [x1, x0] [A, P]) p n * vO (hS5 [x1, x0] [A, P]) q m / Go.Fx.uD = V1), true), (decide (20 < (d16 (vO (hS5 [x1, x0] [A, P]) p n * vO (hS5 [x1, x0] [A, P]) q m)).length ∧ (d16 (vO (hS5 [x1, x0] [A, P]) p n * vO (hS5 [x1, x0] [A, P]) q m)).length < 100000), true), (okMu (hS5 [x1, x0] [A, P]) p q n c m e, true), (decide (vO (hS5 [x1, x0] [P]) none (0) + vO (hS5 [x1, x0] [P]) p n = A), true), (two16 (hS5 [x1, x0] [P]) none p (0) (0) n c, true), (decide (0 < 0 ∨ 0 < n), true), (i.tmod 2 == 0, false), (decide ((2 : Int) = 0), false), (decide ((n : Int) > 0), true), (decide (i < 100), true)] := ⟨by kernel_rfl, by kernel_rfl, by kernel_rfl⟩
theorem se_13 (x1 x0 : List Value × TypeId) (p q : Option Addr) (n c m e : Nat) (P : Nat) (A V1 V2 V3 : Nat) (fr i : Int) (g : Nat → Value) : GoesT (evC (tabH Tryd.prog extY conN hcSe) 300 false (seL Tryd.f44) (seF (.slice p n c) (.slice q m e) (s16b 2 P) nilS fr i ++ tl 31 g, (hS5 [x1, x0] [P]), [cmp true, cmp true, cmp false, cmp false, cmp true, num A, cmp true, num V1, cmp true, num V2, cmp true, num V3]) ⟨[], [], []⟩) 10 31 none (seF (g16b 6 V3) (.slice q m e) (s16b 2 P) (s16b 3 A) (IntKind.u32.wrap (fr + 2)) (IntKind.i64.wrap (i + 1))) (hS5 [x1, x0] [V3, V2, V1, A, P]) [(decide (vO (hS5 [x1, x0] [V2, V1, A, P]) (aP16 5) (d16 V2).length / (f1 fr).toNat = V3), true), (okSm (hS5 [x1, x0] [V2, V1, A, P]) (aP16 5) (d16 V2).length grown (f1 fr), true), (decide (0 < (d16 V2).length), true), (decide (vO (hS5 [x1, x0] [V1, A, P]) (aP16 4) (d16 V1).length / fr.toNat = V2), true), (okSm (hS5 [x1, x0] [V1, A, P]) (aP16 4) (d16 V1).length (d16 V1).length fr, true), (decide (0 < (d16 V1).length), true), (decide (vO (hS5 [x1, x0] [A, P]) p n * vO (hS5 [x1, x0] [A, P]) q m / Go.Fx.uD = V1), true), (decide (20 < (d16 (vO (hS5 [x1, x0] [A, P]) p n * vO (hS5 [x1, x0] [A, P]) q m)).length ∧ (d16 (vO (hS5 [x1, x0] [A, P]) p n * vO (hS5 [x1, x0] [A, P]) q m)).length < 100000), true), (okMu (hS5 [x1, x0] [A, P]) p q n c m e, true), (decide (vO (hS5 [x1, x0] [P]) none (0) + vO (hS5 [x1, x0] [P]) p n = A), true), (two16 (hS5 [x1, x0] [P]) none p (0) (0) n c, true), (decide (0 < 0 ∨ 0 < n), true), (i.tmod 2 == 0, false), (decide ((2 : Int) = 0), false), (decide ((n : Int) > 0), true), (decide (i < 100), true)] := ⟨by kernel_rfl, by kernel_rfl, by kernel_rfl⟩
theorem se_e0 (x1 x0 : List Value × TypeId) (p q : Option Addr) (n c m e : Nat) (P M : Nat) (A : Nat) (fr i : Int) (g : Nat → Value) : GoesT (evC (tabH Tryd.prog extY conN hcSe) 300 false (seL Tryd.f44) (seF (.slice p n c) (.slice q m e) (s16b 2 P) (s16b 3 M) fr i ++ tl 31 g, (hS5 [x1, x0] [M, P]), [cmp true, cmp true, cmp false, cmp true, cmp true, num A, cmp false, cmp false, cmp false]) ⟨[], [], []⟩) 10 31 none (seF nilS (.slice q m e) (s16b 4 A) (s16b 3 M) (IntKind.u32.wrap (fr + 2)) (IntKind.i64.wrap (i + 1))) (hS5 [x1, x0] [A, M, P]) [(rowP (hS5 [x1, x0] [A, M, P]) none 0 0, true), (decide (0 < 0), false), (rowP (hS5 [x1, x0] [A, M, P]) none 0 0, true), (decide (0 < 0), false), (decide (20 < (d16 (vO (hS5 [x1, x0] [A, M, P]) p n * vO (hS5 [x1, x0] [A, M, P]) q m)).length), false), (okMu (hS5 [x1, x0] [A, M, P]) p q n c m e, true), (decide (vO (hS5 [x1, x0] [M, P]) (aP16 2) ((d16 P).length) + vO (hS5 [x1, x0] [M, P]) p n = A), true), (two16 (hS5 [x1, x0] [M, P]) (aP16 2) p ((d16 P).length) ((d16 P).length) n c, true), (decide (0 < (d16 P).length ∨ 0 < n), true), (i.tmod 2 == 0, true), (decide ((2 : Int) = 0), false), (decide ((n : Int) > 0), true), (decide (i < 100), true)] := ⟨by kernel_rfl, by kernel_rfl, by kernel_rfl⟩
theorem se_e1 (x1 x0 : List Value × TypeId) (p q : Option Addr) (n c m e : Nat) (P M : Nat) (A V1 : Nat) (fr i : Int) (g : Nat → Value) : GoesT (evC (tabH Tryd.prog extY conN hcSe) 300 false (seL Tryd.f44) (seF (.slice p n c) (.slice q m e) (s16b 2 P) (s16b 3 M) fr i ++ tl 31 g, (hS5 [x1, x0] [M, P]), [cmp true, cmp true, cmp false, cmp true, cmp true, num A, cmp true, num V1, cmp false, cmp false]) ⟨[], [], []⟩) 10 31 none (seF nilS (.slice q m e) (s16b 4 A) (s16b 3 M) (IntKind.u32.wrap (fr + 2)) (IntKind.i64.wrap (i + 1))) (hS5 [x1, x0] [V1, A, M, P]) [(rowP (hS5 [x1, x0] [V1, A, M, P]) none 0 0, true), (decide (0 < 0), false), (rowP (hS5 [x1, x0] [V1, A, M, P]) (aP16 5) (d16 V1).length (d16 V1).length, true), (decide (0 < (d16 V1).length), false), (decide (vO (hS5 [x1, x0] [A, M, P]) p n * vO (hS5 [x1, x0] [A, M, P]) q m / Go.Fx.uD = V1), true), (decide (20 < (d16 (vO (hS5 [x1, x0] [A, M, P]) p n * vO (hS5 [x1, x0] [A, M, P]) q m)).length ∧ (d16 (vO (hS5 [x1, x0] [A, M, P]) p n * vO (hS5 [x1, x0] [A, M, P]) q m)).length < 100000), true), (okMu (hS5 [x1, x0] [A, M, P]) p q n c m e, true), (decide (vO (hS5 [x1, x0] [M, P]) (aP16 2) ((d16 P).length) + vO (hS5 [x1, x0] [M, P]) p n = A), true), (two16 (hS5 [x1, x0] [M, P]) (aP16 2) p ((d16 P).length) ((d16 P).length) n c, true), (decide (0 < (d16 P).length ∨ 0 < n), true), (i.tmod 2 == 0, true), (decide ((2 : Int) = 0), false), (decide ((n : Int) > 0), true), (decide (i < 100), true)] := ⟨by kernel_rfl, by kernel_rfl, by kernel_rfl⟩
theorem se_e2 (x1 x0 : List Value × TypeId) (p q : Option Addr) (n c m e : Nat) (P M : Nat) (A V1 V2 : Nat) (fr i : Int) (g : Nat → Value) : GoesT (evC (tabH Tryd.prog extY conN hcSe) 300 false (seL Tryd.f44) (seF (.slice p n c) (.slice q m e) (s16b 2 P) (s16b 3 M) fr i ++ tl 31 g, (hS5 [x1, x0] [M, P]), [cmp true, cmp true, cmp false, cmp true, cmp true, num A, cmp true, num V1, cmp true, num V2, cmp false]) ⟨[], [], []⟩) 10 31 none (seF nilS (.slice q m e) (s16b 4 A) (s16b 3 M) (IntKind.u32.wrap (fr + 2)) (IntKind.i64.wrap (i + 1))) (hS5 [x1, x0] [V2, V1, A, M, P]) [(rowP (hS5 [x1, x0] [V2, V1, A, M, P]) (aP16 6) (d16 V2).length grown, true), (decide (0 < (d16 V2).length), false), (decide (vO (hS5 [x1, x0] [V1, A, M, P]) (aP16 5) (d16 V1).length / fr.toNat = V2), true), (okSm (hS5 [x1, x0] [V1, A, M, P]) (aP16 5) (d16 V1).length (d16 V1).length fr, true), (decide (0 < (d16 V1).length), true), (decide (vO (hS5 [x1, x0] [A, M, P]) p n * vO (hS5 [x1, x0] [A, M, P]) q m / Go.Fx.uD = V1), true), (decide (20 < (d16 (vO (hS5 [x1, x0] [A, M, P]) p n * vO (hS5 [x1, x0] [A, M, P]) q m)).length ∧ (d16 (vO (hS5 [x1, x0] [A, M, P]) p n * vO (hS5 [x1, x0] [A, M, P]) q m)).length < 100000), true), (okMu (hS5 [x1, x0] [A, M, P]) p q n c m e, true), (decide (vO (hS5 [x1, x0] [M, P]) (aP16 2) ((d16 P).length) + vO (hS5 [x1, x0] [M, P]) p n = A), true), (two16 (hS5 [x1, x0] [M, P]) (aP16 2) p ((d16 P).length) ((d16 P).length) n c, true), (decide (0 < (d16 P).length ∨ 0 < n), true), (i.tmod 2 == 0, true), (decide ((2 : Int) = 0), false), (decide ((n : Int) > 0), true), (decide (i < 100), true)] := ⟨by kernel_rfl, by kernel_rfl, by kernel_rfl⟩
theorem se_e3 (x1 x0 : List Value × TypeId) (p q : Option Addr) (n c m e : Nat) (P M : Nat) (A V1 V2 V3 : Nat) (fr i : Int) (g : Nat → Value) : GoesT (evC (tabH Tryd.prog extY conN hcSe) 300 false (seL Tryd.f44) (seF (.slice p n c) (.slice q m e) (s16b 2 P) (s16b 3 M) fr i ++ tl 31 g, (hS5 [x1, x0] [M, P]), [cmp true, cmp true, cmp false, cmp true, cmp true, num A, cmp true, num V1, cmp true, num V2, cmp true, num V3]) ⟨[], [], []⟩) 10 31 none (seF (g16b 7 V3) (.slice q m e) (s16b 4 A) (s16b 3 M) (IntKind.u32.wrap (fr + 2)) (IntKind.i64.wrap (i + 1))) (hS5 [x1, x0] [V3, V2, V1, A, M, P]) [(decide (vO (hS5 [x1, x0] [V2, V1, A, M, P]) (aP16 6) (d16 V2).length / (f1 fr).toNat = V3), true), (okSm (hS5 [x1, x0] [V2, V1, A, M, P]) (aP16 6) (d16 V2).length grown (f1 fr), true), (decide (0 < (d16 V2).length), true), (decide (vO (hS5 [x1, x0] [V1, A, M, P]) (aP16 5) (d16 V1).length / fr.toNat = V2), true), (okSm (hS5 [x1, x0] [V1, A, M, P]) (aP16 5) (d16 V1).length (d16 V1).length fr, true), (decide (0 < (d16 V1).length), true), (decide (vO (hS5 [x1, x0] [A, M, P]) p n * vO (hS5 [x1, x0] [A, M, P]) q m / Go.Fx.uD = V1), true), (decide (20 < (d16 (vO (hS5 [x1, x0] [A, M, P]) p n * vO (hS5 [x1, x0] [A, M, P]) q m)).length ∧ (d16 (vO (hS5 [x1, x0] [A, M, P]) p n * vO (hS5 [x1, x0] [A, M, P]) q m)).length < 100000), true), (okMu (hS5 [x1, x0] [A, M, P]) p q n c m e, true), (decide (vO (hS5 [x1, x0] [M, P]) (aP16 2) ((d16 P).length) + vO (hS5 [x1, x0] [M, P]) p n = A), true), (two16 (hS5 [x1, x0] [M, P]) (aP16 2) p ((d16 P).length) ((d16 P).length) n c, true), (decide (0 < (d16 P).length ∨ 0 < n), true), (i.tmod 2 == 0, true), (decide ((2 : Int) = 0), false), (decide ((n : Int) > 0), true), (decide (i < 100), true)] := ⟨by kernel_rfl, by kernel_rfl, by kernel_rfl⟩
theorem se_u0 (x1 x0 : List Value × TypeId) (p q : Option Addr) (n c m e : Nat) (P M : Nat) (A : Nat) (fr i : Int) (g : Nat → Value) : GoesT (evC (tabH Tryd.prog extY conN hcSe) 300 false (seL Tryd.f44) (seF (.slice p n c) (.slice q m e) (s16b 2 P) (s16b 3 M) fr i ++ tl 31 g, (hS5 [x1, x0] [M, P]), [cmp true, cmp true, cmp false, cmp false, cmp true, num A, cmp false, cmp false, cmp false]) ⟨[], [], []⟩) 10 31 none (seF nilS (.slice q m e) (s16b 2 P) (s16b 4 A) (IntKind.u32.wrap (fr + 2)) (IntKind.i64.wrap (i + 1))) (hS5 [x1, x0] [A, M, P]) [(rowP (hS5 [x1, x0] [A, M, P]) none 0 0, true), (decide (0 < 0), false), (rowP (hS5 [x1, x0] [A, M, P]) none 0 0, true), (decide (0 < 0), false), (decide (20 < (d16 (vO (hS5 [x1, x0] [A, M, P]) p n * vO (hS5 [x1, x0] [A, M, P]) q m)).length), false), (okMu (hS5 [x1, x0] [A, M, P]) p q n c m e, true), (decide (vO (hS5 [x1, x0] [M, P]) (aP16 3) ((d16 M).length) + vO (hS5 [x1, x0] [M, P]) p n = A), true), (two16 (hS5 [x1, x0] [M, P]) (aP16 3) p ((d16 M).length) ((d16 M).length) n c, true), (decide (0 < (d16 M).length ∨ 0 < n), true), (i.tmod 2 == 0, false), (decide ((2 : Int) = 0), false), (decide ((n : Int) > 0), true), (decide (i < 100), true)] := ⟨by kernel_rfl, by kernel_rfl, by kernel_rfl⟩
theorem se_u1 (x1 x0 : List Value × TypeId) (p q : Option Addr) (n c m e : Nat) (P M : Nat) (A V1 : Nat) (fr i : Int) (g : Nat → Value) : GoesT (evC (tabH Tryd.prog extY conN hcSe) 300 false (seL Tryd.f44) (seF (.slice p n c) (.slice q m e) (s16b 2 P) (s16b 3 M) fr i ++ tl 31 g, (hS5 [x1, x0] [M, P]), [cmp true, cmp true, cmp false, cmp false, cmp true, num A, cmp true, num V1, cmp false, cmp false]) ⟨[], [], []⟩) 10 31 none (seF nilS (.slice q m e) (s16b 2 P) (s16b 4 A) (IntKind.u32.wrap (fr + 2)) (IntKind.i64.wrap (i + 1))) (hS5 [x1, x0] [V1, A, M, P]) [(rowP (hS5 [x1, x0] [V1, A, M, P]) none 0 0, true), (decide (0 < 0), false), (rowP (hS5 [x1, x0] [V1, A, M, P]) (aP16 5) (d16 V1).length (d16 V1).length, true), (decide (0 < (d16 V1).length), false), (decide (vO (hS5 [x1, x0] [A, M, P]) p n * vO (hS5 [x1, x0] [A, M, P]) q m / Go.Fx.uD = V1), true), (decide (20 < (d16 (vO (hS5 [x1, x0] [A, M, P]) p n * vO (hS5 [x1, x0] [A, M, P]) q m)).length ∧ (d16 (vO (hS5 [x1, x0] [A, M, P]) p n * vO (hS5 [x1, x0] [A, M, P]) q m)).length < 100000), true), (okMu (hS5 [x1, x0] [A, M, P]) p q n c m e, true), (decide (vO (hS5 [x1, x0] [M, P]) (aP16 3) ((d16 M).length) + vO (hS5 [x1, x0] [M, P]) p n = A), true), (two16 (hS5 [x1, x0] [M, P]) (aP16 3) p ((d16 M).length) ((d16 M).length) n c, true), (decide (0 < (d16 M).length ∨ 0 < n), true), (i.tmod 2 == 0, false), (decide ((2 : Int) = 0), false), (decide ((n : Int) > 0), true), (decide (i < 100), true)] := ⟨by kernel_rfl, by kernel_rfl, by kernel_rfl⟩
theorem se_u2 (x1 x0 : List Value × TypeId) (p q : Option Addr) (n c m e : Nat) (P M : Nat) (A V1 V2 : Nat) (fr i : Int) (g : Nat → Value) : GoesT (evC (tabH Tryd.prog extY conN hcSe) 300 false (seL Tryd.f44) (seF (.slice p n c) (.slice q m e) (s16b 2 P) (s16b 3 M) fr i ++ tl 31 g, (hS5 [x1, x0] [M, P]), [cmp true, cmp true, cmp false, cmp false, cmp true, num A, cmp true, num V1, cmp true, num V2, cmp false]) ⟨[], [], []⟩) 10 31 none (seF nilS (.slice q m e) (s16b 2 P) (s16b 4 A) (IntKind.u32.wrap (fr + 2)) (IntKind.i64.wrap (i + 1))) (hS5 [x1, x0] [V2, V1, A, M, P]) [(rowP (hS5 [x1, x0] [V2, V1, A, M, P]) (aP16 6) (d16 V2).length grown, true), (decide (0 < (d16 V2).length), false), (decide (vO (hS5 [x1, x0] [V1, A, M, P]) (aP16 5) (d16 V1).length / fr.toNat = V2), true), (okSm (hS5 [x1, x0] [V1, A, M, P]) (aP16 5) (d16 V1).length (d16 V1).length fr, true), (decide (0 < (d16 V1).length), true), (decide (vO (hS5 [x1, x0] [A, M, P]) p n * vO (hS5 [x1, x0] [A, M, P]) q m / Go.Fx.uD = V1), true), (decide (20 < (d16 (vO (hS5 [x1, x0] [A, M, P]) p n * vO (hS5 [x1, x0] [A, M, P]) q m)).length ∧ (d16 (vO (hS5 [x1, x0] [A, M, P]) p n * vO (hS5 [x1, x0] [A, M, P]) q m)).length < 100000), true), (okMu (hS5 [x1, x0] [A, M, P]) p q n c m e, true), (decide (vO (hS5 [x1, x0] [M, P]) (aP16 3) ((d16 M).length) + vO (hS5 [x1, x0] [M, P]) p n = A), true), (two16 (hS5 [x1, x0] [M, P]) (aP16 3) p ((d16 M).length) ((d16 M).length) n c, true), (decide (0 < (d16 M).length ∨ 0 < n), true), (i.tmod 2 == 0, false), (decide ((2 : Int) = 0), false), (decide ((n : Int) > 0), true), (decide (i < 100), true)] := ⟨by kernel_rfl, by kernel_rfl, by kernel_rfl⟩
theorem se_u3 (x1 x0 : List Value × TypeId) (p q : Option Addr) (n c m e : Nat) (P M : Nat) (A V1 V2 V3 : Nat) (fr i : Int) (g : Nat → Value) : GoesT (evC (tabH Tryd.prog extY conN hcSe) 300 false (seL Tryd.f44) (seF (.slice p n c) (.slice q m e) (s16b 2 P) (s16b 3 M) fr i ++ tl 31 g, (hS5 [x1, x0] [M, P]), [cmp true, cmp true, cmp false, cmp false, cmp true, num A, cmp true, num V1, cmp true, num V2, cmp true, num V3]) ⟨[], [], []⟩) 10 31 none (seF (g16b 7 V3) (.slice q m e) (s16b 2 P) (s16b 4 A) (IntKind.u32.wrap (fr + 2)) (IntKind.i64.wrap (i + 1))) (hS5 [x1, x0] [V3, V2, V1, A, M, P]) [(decide (vO (hS5 [x1, x0] [V2, V1, A, M, P]) (aP16 6) (d16 V2).length / (f1 fr).toNat = V3), true), (okSm (hS5 [x1, x0] [V2, V1, A, M, P]) (aP16 6) (d16 V2).length grown (f1 fr), true), (decide (0 < (d16 V2).length), true), (decide (vO (hS5 [x1, x0] [V1, A, M, P]) (aP16 5) (d16 V1).length / fr.toNat = V2), true), (okSm (hS5 [x1, x0] [V1, A, M, P]) (aP16 5) (d16 V1).length (d16 V1).length fr, true), (decide (0 < (d16 V1).length), true), (decide (vO (hS5 [x1, x0] [A, M, P]) p n * vO (hS5 [x1, x0] [A, M, P]) q m / Go.Fx.uD = V1), true), (decide (20 < (d16 (vO (hS5 [x1, x0] [A, M, P]) p n * vO (hS5 [x1, x0] [A, M, P]) q m)).length ∧ (d16 (vO (hS5 [x1, x0] [A, M, P]) p n * vO (hS5 [x1, x0] [A, M, P]) q m)).length < 100000), true), (okMu (hS5 [x1, x0] [A, M, P]) p q n c m e, true), (decide (vO (hS5 [x1, x0] [M, P]) (aP16 3) ((d16 M).length) + vO (hS5 [x1, x0] [M, P]) p n = A), true), (two16 (hS5 [x1, x0] [M, P]) (aP16 3) p ((d16 M).length) ((d16 M).length) n c, true), (decide (0 < (d16 M).length ∨ 0 < n), true), (i.tmod 2 == 0, false), (decide ((2 : Int) = 0), false), (decide ((n : Int) > 0), true), (decide (i < 100), true)] := ⟨by kernel_rfl, by kernel_rfl, by kernel_rfl⟩
theorem se_end (t q : Value) (p r : Option Addr) (n c m e V : Nat) (fr i : Int) (h : Hp) (g : Nat → Value) : GoesT (evC (tabH Tryd.prog extY conN hcSe) 100 false (seE Tryd.f44) (seF t q (.slice p n c) (.slice r m e) fr i ++ tl 31 g, h, [cmp true, num V]) ⟨[], [], []⟩) 7 34 (some none) [t, q, .int .u32 fr, undef, undef, undef, .slice (some ⟨h.n, 0, none⟩) (d16 V).length (d16 V).length] (h.push (wU (d16 V)) tU) [(decide (vO h p n - vO h r m = V), true), (okSb h p r n c m e, true), (decide (0 < n), true)] := ⟨by kernel_rfl, by kernel_rfl, by kernel_rfl⟩
theorem se_endN (t q : Value) (fr i : Int) (h : Hp) (g : Nat → Value) : GoesT (evC (tabH Tryd.prog extY conN hcSe) 100 false (seE Tryd.f44) (seF t q nilS nilS fr i ++ tl 31 g, h, [cmp false]) ⟨[], [], []⟩) 7 34 (some none) [t, q, .int .u32 fr, undef, undef, undef, nilS] h [(two16 h none none 0 0 0 0, true), (decide (0 < 0), false)] := ⟨by kernel_rfl, by kernel_rfl, by kernel_rfl⟩
/-- the term, nothing or a row high in the memory -/
def Tv (h : Hp) (v : Value) (V : Nat) : Prop := (v = nilS ∧ V = 0) ∨ ∃ b, 4 < b ∧ v = g16b b V ∧ h.blk? b = some (w16 V)
theorem len_zero {V : Nat} (h : ¬ 0 < (d16 V).length) : V = 0 := by
  rcases Nat.eq_zero_or_pos V with c | c
  · exact c
  · exact absurd (len_pos16 c) h
theorem short20 {N : Nat} (h : ¬ 20 < (d16 N).length) : N < Go.Fx.uD := by
  obtain ⟨j, hj⟩ : ∃ j, j = 20 := ⟨_, rfl⟩
  rw [← hj] at h
  rcases Nat.lt_or_ge N Go.Fx.uD with c | c
  · exact c
  · exact absurd ((len_iff16 N j).2 (by rw [pow320 (k := 16 * j) (by omega)]; exact c)) h
theorem rnd_0 {x1 x0 : List Value × TypeId} {p q : Option Addr} {n c m e T SQ A f i : Nat} (HT : ∀ h : Hp, h.blk? 1 = some x1 → N6 h p n c T) (HQ : ∀ h : Hp, h.blk? 0 = some x0 → N6 h q m e SQ) (hA : 0 + T = A) (hl : (d16 (T * SQ)).length < 100000) (hl2 : ∀ V, V ≤ T * SQ → (d16 V).length < 100000) (hn0 : 0 < n) (hi0 : i < 100) (hpar : i % 2 = 0) (hf : 1 ≤ f ∧ f ≤ 300) (g : Nat → Value) (sc : List Dec) :
    RunsW (tabH Tryd.prog extY conN hcSe) (seL Tryd.f44) (seF (.slice p n c) (.slice q m e) nilS nilS (f : Nat) (i : Nat) ++ tl 31 g, (hS5 [x1, x0] []), sc) fun ex z => ex = none ∧ ∃ tv g, z.1 = seF tv (.slice q m e) (s16b 2 A) nilS ((f + 2 : Nat) : Int) ((i + 1 : Nat) : Int) ++ tl 31 g ∧ Tv z.2.1 tv (T * SQ / Go.Fx.uD / (f * (f + 1))) ∧ z.2.1.blk? 0 = some x0 ∧ z.2.1.blk? 2 = some (w16 A) := by
  have TT := tabH_ok conN_ok hcSe_ok
  have hi : decide ((i : Int) < 100) = true := decide_eq_true (by omega)
  have hn : decide ((n : Int) > 0) = true := decide_eq_true (by omega)
  have hp2 : ((i : Int).tmod 2 == 0) = true := by
    rw [Int.tmod_eq_emod_of_nonneg (by omega)]
    rw [beq_iff_eq]; omega
  have hor : decide (0 < 0 ∨ 0 < n) = true := decide_eq_true (.inr hn0)
  have hpr : ∀ h : Hp, h.blk? 1 = some x1 → h.blk? 0 = some x0 → vO h p n * vO h q m = T * SQ := fun h h1 h0 => by rw [(HT h h1).vO, (HQ h h0).vO]
  have ef1 : f1 (f : Int) = ((f + 1 : Nat) : Int) := by
    unfold f1
    simp [IntKind.wrap, IntKind.bits, IntKind.signed]
    omega
  have ef2 : IntKind.u32.wrap ((f : Int) + 2) = ((f + 2 : Nat) : Int) := by
    simp [IntKind.wrap, IntKind.bits, IntKind.signed]
    omega
  have ei : IntKind.i64.wrap ((i : Int) + 1) = ((i + 1 : Nat) : Int) := by rw [wrapI (by omega) (by omega)]; omega
  have hfr : 1 ≤ (f : Int) ∧ (f : Int) < 65536 := by omega
  have hf1 : 1 ≤ ((f + 1 : Nat) : Int) ∧ ((f + 1 : Nat) : Int) < 65536 := by omega
  obtain ⟨V1, eV1⟩ : ∃ V, T * SQ / Go.Fx.uD = V := ⟨_, rfl⟩
  obtain ⟨V2, hV2⟩ : ∃ V, V1 / f = V := ⟨_, rfl⟩
  obtain ⟨V3, hV3⟩ : ∃ V, V2 / (f + 1) = V := ⟨_, rfl⟩
  have hV1 : decide (T * SQ / Go.Fx.uD = V1) = true := decide_eq_true eV1
  have e3 : T * SQ / Go.Fx.uD / (f * (f + 1)) = V3 := by rw [eV1, ← Nat.div_div_eq_div_mul, hV2, hV3]
  have bV1 : V1 ≤ T * SQ := by rw [← eV1]; exact Nat.div_le_self _ _
  have bV2 : V2 ≤ T * SQ := Nat.le_trans (by rw [← hV2]; exact Nat.div_le_self _ _) bV1
  have lV1 := hl2 V1 bV1
  have lV2 := hl2 V2 bV2
  rw [e3]
  by_cases c20 : 20 < (d16 (T * SQ)).length
  · have d20 : decide (20 < (d16 (T * SQ)).length ∧ (d16 (T * SQ)).length < 100000) = true := decide_eq_true ⟨c20, hl⟩
    by_cases c1 : 0 < (d16 V1).length
    · have d1 : decide (0 < (d16 V1).length) = true := decide_eq_true c1
      by_cases c2 : 0 < (d16 V2).length
      · have d2 : decide (0 < (d16 V2).length) = true := decide_eq_true c2
        have hg := se_03 x1 x0 p q n c m e  A V1 V2 V3 f i g
        rw [ef1, ef2, ei] at hg
        refine (goesT_runsW (s0 := sc) TT hg (okPC ((gN6 (V := V2) rfl lV2).divV hV3) (okPC ((gN6 (V := V2) rfl lV2).sm hf1) (okPC d2 (okPC ((bN6 (V := V1) rfl lV1).divV hV2) (okPC ((bN6 (V := V1) rfl lV1).sm hfr) (okPC d1 (okPC (by rw [hpr _ rfl rfl]; exact hV1) (okPC (by rw [hpr _ rfl rfl]; exact d20) (okPC ((HT _ rfl).mu (HQ _ rfl)) (okPC ((nN6 _).addV (HT _ rfl) hA) (okPC ((nN6 _).two (HT _ rfl)) (okPC hor (okPC hp2 (okPC (by decide) (okPC hn (okP1 hi))))))))))))))))).mono fun ex z hz => ?_
        obtain ⟨rfl, ⟨g2, z1⟩, z2⟩ := hz
        exact ⟨rfl, _, g2, z1, .inr ⟨5, by omega, rfl, by rw [z2]; rfl⟩, by rw [z2]; rfl, by rw [z2]; rfl⟩
      · have d2 : decide (0 < (d16 V2).length) = false := decide_eq_false c2
        have z3 : V3 = 0 := by rw [← hV3, len_zero c2, Nat.zero_div]
        have hg := se_02 x1 x0 p q n c m e  A V1 V2 f i g
        rw [ef2, ei] at hg
        refine (goesT_runsW (s0 := sc) TT hg (okPC (show rowP (hS5 [x1, x0] [V2, V1, A]) (aP16 4) (d16 V2).length grown = true from (gN6 (h := hS5 [x1, x0] [V2, V1, A]) (b := 4) (V := V2) rfl lV2).row) (okPC d2 (okPC ((bN6 (V := V1) rfl lV1).divV hV2) (okPC ((bN6 (V := V1) rfl lV1).sm hfr) (okPC d1 (okPC (by rw [hpr _ rfl rfl]; exact hV1) (okPC (by rw [hpr _ rfl rfl]; exact d20) (okPC ((HT _ rfl).mu (HQ _ rfl)) (okPC ((nN6 _).addV (HT _ rfl) hA) (okPC ((nN6 _).two (HT _ rfl)) (okPC hor (okPC hp2 (okPC (by decide) (okPC hn (okP1 hi)))))))))))))))).mono fun ex z hz => ?_
        obtain ⟨rfl, ⟨g2, z1⟩, z2⟩ := hz
        exact ⟨rfl, _, g2, z1, .inl ⟨rfl, z3⟩, by rw [z2]; rfl, by rw [z2]; rfl⟩
    · have d1 : decide (0 < (d16 V1).length) = false := decide_eq_false c1
      have z3 : V3 = 0 := by rw [← hV3, ← hV2, len_zero c1, Nat.zero_div, Nat.zero_div]
      have hg := se_01 x1 x0 p q n c m e  A V1 f i g
      rw [ef2, ei] at hg
      refine (goesT_runsW (s0 := sc) TT hg (okPC rfl (okPC rfl (okPC (show rowP (hS5 [x1, x0] [V1, A]) (aP16 3) (d16 V1).length (d16 V1).length = true from (bN6 (h := hS5 [x1, x0] [V1, A]) (b := 3) (V := V1) rfl lV1).row) (okPC d1 (okPC (by rw [hpr _ rfl rfl]; exact hV1) (okPC (by rw [hpr _ rfl rfl]; exact d20) (okPC ((HT _ rfl).mu (HQ _ rfl)) (okPC ((nN6 _).addV (HT _ rfl) hA) (okPC ((nN6 _).two (HT _ rfl)) (okPC hor (okPC hp2 (okPC (by decide) (okPC hn (okP1 hi))))))))))))))).mono fun ex z hz => ?_
      obtain ⟨rfl, ⟨g2, z1⟩, z2⟩ := hz
      exact ⟨rfl, _, g2, z1, .inl ⟨rfl, z3⟩, by rw [z2]; rfl, by rw [z2]; rfl⟩
  · have d20 : decide (20 < (d16 (T * SQ)).length) = false := decide_eq_false c20
    have z3 : V3 = 0 := by
      have h2 : T * SQ / Go.Fx.uD = 0 := Nat.div_eq_of_lt (short20 c20)
      rw [← hV3, ← hV2, ← eV1, h2, Nat.zero_div, Nat.zero_div]
    have hg := se_00 x1 x0 p q n c m e  A f i g
    rw [ef2, ei] at hg
    refine (goesT_runsW (s0 := sc) TT hg (okPC rfl (okPC rfl (okPC rfl (okPC rfl (okPC (by rw [hpr _ rfl rfl]; exact d20) (okPC ((HT _ rfl).mu (HQ _ rfl)) (okPC ((nN6 _).addV (HT _ rfl) hA) (okPC ((nN6 _).two (HT _ rfl)) (okPC hor (okPC hp2 (okPC (by decide) (okPC hn (okP1 hi)))))))))))))).mono fun ex z hz => ?_
    obtain ⟨rfl, ⟨g2, z1⟩, z2⟩ := hz
    exact ⟨rfl, _, g2, z1, .inl ⟨rfl, z3⟩, by rw [z2]; rfl, by rw [z2]; rfl⟩
theorem rnd_1 {x1 x0 : List Value × TypeId} {p q : Option Addr} {n c m e T SQ A f i : Nat} (HT : ∀ h : Hp, h.blk? 1 = some x1 → N6 h p n c T) (HQ : ∀ h : Hp, h.blk? 0 = some x0 → N6 h q m e SQ) {P : Nat} (hA : 0 + T = A) (hl : (d16 (T * SQ)).length < 100000) (hl2 : ∀ V, V ≤ T * SQ → (d16 V).length < 100000) (hn0 : 0 < n) (hi0 : i < 100) (hpar : i % 2 = 1) (hf : 1 ≤ f ∧ f ≤ 300) (g : Nat → Value) (sc : List Dec) :
    RunsW (tabH Tryd.prog extY conN hcSe) (seL Tryd.f44) (seF (.slice p n c) (.slice q m e) (s16b 2 P) nilS (f : Nat) (i : Nat) ++ tl 31 g, (hS5 [x1, x0] [P]), sc) fun ex z => ex = none ∧ ∃ tv g, z.1 = seF tv (.slice q m e) (s16b 2 P) (s16b 3 A) ((f + 2 : Nat) : Int) ((i + 1 : Nat) : Int) ++ tl 31 g ∧ Tv z.2.1 tv (T * SQ / Go.Fx.uD / (f * (f + 1))) ∧ z.2.1.blk? 0 = some x0 ∧ z.2.1.blk? 2 = some (w16 P) ∧ z.2.1.blk? 3 = some (w16 A) := by
  have TT := tabH_ok conN_ok hcSe_ok
  have hi : decide ((i : Int) < 100) = true := decide_eq_true (by omega)
  have hn : decide ((n : Int) > 0) = true := decide_eq_true (by omega)
  have hp2 : ((i : Int).tmod 2 == 0) = false := by
    rw [Int.tmod_eq_emod_of_nonneg (by omega)]
    rw [beq_eq_false_iff_ne]; omega
  have hor : decide (0 < 0 ∨ 0 < n) = true := decide_eq_true (.inr hn0)
  have hpr : ∀ h : Hp, h.blk? 1 = some x1 → h.blk? 0 = some x0 → vO h p n * vO h q m = T * SQ := fun h h1 h0 => by rw [(HT h h1).vO, (HQ h h0).vO]
  have ef1 : f1 (f : Int) = ((f + 1 : Nat) : Int) := by
    unfold f1
    simp [IntKind.wrap, IntKind.bits, IntKind.signed]
    omega
  have ef2 : IntKind.u32.wrap ((f : Int) + 2) = ((f + 2 : Nat) : Int) := by
    simp [IntKind.wrap, IntKind.bits, IntKind.signed]
    omega
  have ei : IntKind.i64.wrap ((i : Int) + 1) = ((i + 1 : Nat) : Int) := by rw [wrapI (by omega) (by omega)]; omega
  have hfr : 1 ≤ (f : Int) ∧ (f : Int) < 65536 := by omega
  have hf1 : 1 ≤ ((f + 1 : Nat) : Int) ∧ ((f + 1 : Nat) : Int) < 65536 := by omega
  obtain ⟨V1, eV1⟩ : ∃ V, T * SQ / Go.Fx.uD = V := ⟨_, rfl⟩
  obtain ⟨V2, hV2⟩ : ∃ V, V1 / f = V := ⟨_, rfl⟩
  obtain ⟨V3, hV3⟩ : ∃ V, V2 / (f + 1) = V := ⟨_, rfl⟩
  have hV1 : decide (T * SQ / Go.Fx.uD = V1) = true := decide_eq_true eV1
  have e3 : T * SQ / Go.Fx.uD / (f * (f + 1)) = V3 := by rw [eV1, ← Nat.div_div_eq_div_mul, hV2, hV3]
  have bV1 : V1 ≤ T * SQ := by rw [← eV1]; exact Nat.div_le_self _ _
  have bV2 : V2 ≤ T * SQ := Nat.le_trans (by rw [← hV2]; exact Nat.div_le_self _ _) bV1
  have lV1 := hl2 V1 bV1
  have lV2 := hl2 V2 bV2
  rw [e3]
  by_cases c20 : 20 < (d16 (T * SQ)).length
  · have d20 : decide (20 < (d16 (T * SQ)).length ∧ (d16 (T * SQ)).length < 100000) = true := decide_eq_true ⟨c20, hl⟩
    by_cases c1 : 0 < (d16 V1).length
    · have d1 : decide (0 < (d16 V1).length) = true := decide_eq_true c1
      by_cases c2 : 0 < (d16 V2).length
      · have d2 : decide (0 < (d16 V2).length) = true := decide_eq_true c2
        have hg := se_13 x1 x0 p q n c m e P A V1 V2 V3 f i g
        rw [ef1, ef2, ei] at hg
        refine (goesT_runsW (s0 := sc) TT hg (okPC ((gN6 (V := V2) rfl lV2).divV hV3) (okPC ((gN6 (V := V2) rfl lV2).sm hf1) (okPC d2 (okPC ((bN6 (V := V1) rfl lV1).divV hV2) (okPC ((bN6 (V := V1) rfl lV1).sm hfr) (okPC d1 (okPC (by rw [hpr _ rfl rfl]; exact hV1) (okPC (by rw [hpr _ rfl rfl]; exact d20) (okPC ((HT _ rfl).mu (HQ _ rfl)) (okPC ((nN6 _).addV (HT _ rfl) hA) (okPC ((nN6 _).two (HT _ rfl)) (okPC hor (okPC hp2 (okPC (by decide) (okPC hn (okP1 hi))))))))))))))))).mono fun ex z hz => ?_
        obtain ⟨rfl, ⟨g2, z1⟩, z2⟩ := hz
        exact ⟨rfl, _, g2, z1, .inr ⟨6, by omega, rfl, by rw [z2]; rfl⟩, by rw [z2]; rfl, by rw [z2]; rfl, by rw [z2]; rfl⟩
      · have d2 : decide (0 < (d16 V2).length) = false := decide_eq_false c2
        have z3 : V3 = 0 := by rw [← hV3, len_zero c2, Nat.zero_div]
        have hg := se_12 x1 x0 p q n c m e P A V1 V2 f i g
        rw [ef2, ei] at hg
        refine (goesT_runsW (s0 := sc) TT hg (okPC (show rowP (hS5 [x1, x0] [V2, V1, A, P]) (aP16 5) (d16 V2).length grown = true from (gN6 (h := hS5 [x1, x0] [V2, V1, A, P]) (b := 5) (V := V2) rfl lV2).row) (okPC d2 (okPC ((bN6 (V := V1) rfl lV1).divV hV2) (okPC ((bN6 (V := V1) rfl lV1).sm hfr) (okPC d1 (okPC (by rw [hpr _ rfl rfl]; exact hV1) (okPC (by rw [hpr _ rfl rfl]; exact d20) (okPC ((HT _ rfl).mu (HQ _ rfl)) (okPC ((nN6 _).addV (HT _ rfl) hA) (okPC ((nN6 _).two (HT _ rfl)) (okPC hor (okPC hp2 (okPC (by decide) (okPC hn (okP1 hi)))))))))))))))).mono fun ex z hz => ?_
        obtain ⟨rfl, ⟨g2, z1⟩, z2⟩ := hz
        exact ⟨rfl, _, g2, z1, .inl ⟨rfl, z3⟩, by rw [z2]; rfl, by rw [z2]; rfl, by rw [z2]; rfl⟩
    · have d1 : decide (0 < (d16 V1).length) = false := decide_eq_false c1
      have z3 : V3 = 0 := by rw [← hV3, ← hV2, len_zero c1, Nat.zero_div, Nat.zero_div]
      have hg := se_11 x1 x0 p q n c m e P A V1 f i g
      rw [ef2, ei] at hg
      refine (goesT_runsW (s0 := sc) TT hg (okPC rfl (okPC rfl (okPC (show rowP (hS5 [x1, x0] [V1, A, P]) (aP16 4) (d16 V1).length (d16 V1).length = true from (bN6 (h := hS5 [x1, x0] [V1, A, P]) (b := 4) (V := V1) rfl lV1).row) (okPC d1 (okPC (by rw [hpr _ rfl rfl]; exact hV1) (okPC (by rw [hpr _ rfl rfl]; exact d20) (okPC ((HT _ rfl).mu (HQ _ rfl)) (okPC ((nN6 _).addV (HT _ rfl) hA) (okPC ((nN6 _).two (HT _ rfl)) (okPC hor (okPC hp2 (okPC (by decide) (okPC hn (okP1 hi))))))))))))))).mono fun ex z hz => ?_
      obtain ⟨rfl, ⟨g2, z1⟩, z2⟩ := hz
      exact ⟨rfl, _, g2, z1, .inl ⟨rfl, z3⟩, by rw [z2]; rfl, by rw [z2]; rfl, by rw [z2]; rfl⟩
  · have d20 : decide (20 < (d16 (T * SQ)).length) = false := decide_eq_false c20
    have z3 : V3 = 0 := by
      have h2 : T * SQ / Go.Fx.uD = 0 := Nat.div_eq_of_lt (short20 c20)
      rw [← hV3, ← hV2, ← eV1, h2, Nat.zero_div, Nat.zero_div]
    have hg := se_10 x1 x0 p q n c m e P A f i g
    rw [ef2, ei] at hg
    refine (goesT_runsW (s0 := sc) TT hg (okPC rfl (okPC rfl (okPC rfl (okPC rfl (okPC (by rw [hpr _ rfl rfl]; exact d20) (okPC ((HT _ rfl).mu (HQ _ rfl)) (okPC ((nN6 _).addV (HT _ rfl) hA) (okPC ((nN6 _).two (HT _ rfl)) (okPC hor (okPC hp2 (okPC (by decide) (okPC hn (okP1 hi)))))))))))))).mono fun ex z hz => ?_
    obtain ⟨rfl, ⟨g2, z1⟩, z2⟩ := hz
    exact ⟨rfl, _, g2, z1, .inl ⟨rfl, z3⟩, by rw [z2]; rfl, by rw [z2]; rfl, by rw [z2]; rfl⟩
theorem rnd_e {x1 x0 : List Value × TypeId} {p q : Option Addr} {n c m e T SQ A f i : Nat} (HT : ∀ h : Hp, h.blk? 1 = some x1 → N6 h p n c T) (HQ : ∀ h : Hp, h.blk? 0 = some x0 → N6 h q m e SQ) {P : Nat} {M : Nat} (lP : (d16 P).length < 100000) (hA : P + T = A) (hl : (d16 (T * SQ)).length < 100000) (hl2 : ∀ V, V ≤ T * SQ → (d16 V).length < 100000) (hn0 : 0 < n) (hi0 : i < 100) (hpar : i % 2 = 0) (hf : 1 ≤ f ∧ f ≤ 300) (g : Nat → Value) (sc : List Dec) :
    RunsW (tabH Tryd.prog extY conN hcSe) (seL Tryd.f44) (seF (.slice p n c) (.slice q m e) (s16b 2 P) (s16b 3 M) (f : Nat) (i : Nat) ++ tl 31 g, (hS5 [x1, x0] [M, P]), sc) fun ex z => ex = none ∧ ∃ tv g, z.1 = seF tv (.slice q m e) (s16b 4 A) (s16b 3 M) ((f + 2 : Nat) : Int) ((i + 1 : Nat) : Int) ++ tl 31 g ∧ Tv z.2.1 tv (T * SQ / Go.Fx.uD / (f * (f + 1))) ∧ z.2.1.blk? 0 = some x0 ∧ z.2.1.blk? 2 = some (w16 P) ∧ z.2.1.blk? 3 = some (w16 M) ∧ z.2.1.blk? 4 = some (w16 A) := by
  have TT := tabH_ok conN_ok hcSe_ok
  have hi : decide ((i : Int) < 100) = true := decide_eq_true (by omega)
  have hn : decide ((n : Int) > 0) = true := decide_eq_true (by omega)
  have hp2 : ((i : Int).tmod 2 == 0) = true := by
    rw [Int.tmod_eq_emod_of_nonneg (by omega)]
    rw [beq_iff_eq]; omega
  have hor : decide (0 < (d16 P).length ∨ 0 < n) = true := decide_eq_true (.inr hn0)
  have hpr : ∀ h : Hp, h.blk? 1 = some x1 → h.blk? 0 = some x0 → vO h p n * vO h q m = T * SQ := fun h h1 h0 => by rw [(HT h h1).vO, (HQ h h0).vO]
  have ef1 : f1 (f : Int) = ((f + 1 : Nat) : Int) := by
    unfold f1
    simp [IntKind.wrap, IntKind.bits, IntKind.signed]
    omega
  have ef2 : IntKind.u32.wrap ((f : Int) + 2) = ((f + 2 : Nat) : Int) := by
    simp [IntKind.wrap, IntKind.bits, IntKind.signed]
    omega
  have ei : IntKind.i64.wrap ((i : Int) + 1) = ((i + 1 : Nat) : Int) := by rw [wrapI (by omega) (by omega)]; omega
  have hfr : 1 ≤ (f : Int) ∧ (f : Int) < 65536 := by omega
  have hf1 : 1 ≤ ((f + 1 : Nat) : Int) ∧ ((f + 1 : Nat) : Int) < 65536 := by omega
  obtain ⟨V1, eV1⟩ : ∃ V, T * SQ / Go.Fx.uD = V := ⟨_, rfl⟩
  obtain ⟨V2, hV2⟩ : ∃ V, V1 / f = V := ⟨_, rfl⟩
  obtain ⟨V3, hV3⟩ : ∃ V, V2 / (f + 1) = V := ⟨_, rfl⟩
  have hV1 : decide (T * SQ / Go.Fx.uD = V1) = true := decide_eq_true eV1
  have e3 : T * SQ / Go.Fx.uD / (f * (f + 1)) = V3 := by rw [eV1, ← Nat.div_div_eq_div_mul, hV2, hV3]
  have bV1 : V1 ≤ T * SQ := by rw [← eV1]; exact Nat.div_le_self _ _
  have bV2 : V2 ≤ T * SQ := Nat.le_trans (by rw [← hV2]; exact Nat.div_le_self _ _) bV1
  have lV1 := hl2 V1 bV1
  have lV2 := hl2 V2 bV2
  rw [e3]
  by_cases c20 : 20 < (d16 (T * SQ)).length
  · have d20 : decide (20 < (d16 (T * SQ)).length ∧ (d16 (T * SQ)).length < 100000) = true := decide_eq_true ⟨c20, hl⟩
    by_cases c1 : 0 < (d16 V1).length
    · have d1 : decide (0 < (d16 V1).length) = true := decide_eq_true c1
      by_cases c2 : 0 < (d16 V2).length
      · have d2 : decide (0 < (d16 V2).length) = true := decide_eq_true c2
        have hg := se_e3 x1 x0 p q n c m e P M A V1 V2 V3 f i g
        rw [ef1, ef2, ei] at hg
        refine (goesT_runsW (s0 := sc) TT hg (okPC ((gN6 (V := V2) rfl lV2).divV hV3) (okPC ((gN6 (V := V2) rfl lV2).sm hf1) (okPC d2 (okPC ((bN6 (V := V1) rfl lV1).divV hV2) (okPC ((bN6 (V := V1) rfl lV1).sm hfr) (okPC d1 (okPC (by rw [hpr _ rfl rfl]; exact hV1) (okPC (by rw [hpr _ rfl rfl]; exact d20) (okPC ((HT _ rfl).mu (HQ _ rfl)) (okPC ((bN6 (V := P) rfl lP).addV (HT _ rfl) hA) (okPC ((bN6 (V := P) rfl lP).two (HT _ rfl)) (okPC hor (okPC hp2 (okPC (by decide) (okPC hn (okP1 hi))))))))))))))))).mono fun ex z hz => ?_
        obtain ⟨rfl, ⟨g2, z1⟩, z2⟩ := hz
        exact ⟨rfl, _, g2, z1, .inr ⟨7, by omega, rfl, by rw [z2]; rfl⟩, by rw [z2]; rfl, by rw [z2]; rfl, by rw [z2]; rfl, by rw [z2]; rfl⟩
      · have d2 : decide (0 < (d16 V2).length) = false := decide_eq_false c2
        have z3 : V3 = 0 := by rw [← hV3, len_zero c2, Nat.zero_div]
        have hg := se_e2 x1 x0 p q n c m e P M A V1 V2 f i g
        rw [ef2, ei] at hg
        refine (goesT_runsW (s0 := sc) TT hg (okPC (show rowP (hS5 [x1, x0] [V2, V1, A, M, P]) (aP16 6) (d16 V2).length grown = true from (gN6 (h := hS5 [x1, x0] [V2, V1, A, M, P]) (b := 6) (V := V2) rfl lV2).row) (okPC d2 (okPC ((bN6 (V := V1) rfl lV1).divV hV2) (okPC ((bN6 (V := V1) rfl lV1).sm hfr) (okPC d1 (okPC (by rw [hpr _ rfl rfl]; exact hV1) (okPC (by rw [hpr _ rfl rfl]; exact d20) (okPC ((HT _ rfl).mu (HQ _ rfl)) (okPC ((bN6 (V := P) rfl lP).addV (HT _ rfl) hA) (okPC ((bN6 (V := P) rfl lP).two (HT _ rfl)) (okPC hor (okPC hp2 (okPC (by decide) (okPC hn (okP1 hi)))))))))))))))).mono fun ex z hz => ?_
        obtain ⟨rfl, ⟨g2, z1⟩, z2⟩ := hz
        exact ⟨rfl, _, g2, z1, .inl ⟨rfl, z3⟩, by rw [z2]; rfl, by rw [z2]; rfl, by rw [z2]; rfl, by rw [z2]; rfl⟩
    · have d1 : decide (0 < (d16 V1).length) = false := decide_eq_false c1
      have z3 : V3 = 0 := by rw [← hV3, ← hV2, len_zero c1, Nat.zero_div, Nat.zero_div]
      have hg := se_e1 x1 x0 p q n c m e P M A V1 f i g
      rw [ef2, ei] at hg
      refine (goesT_runsW (s0 := sc) TT hg (okPC rfl (okPC rfl (okPC (show rowP (hS5 [x1, x0] [V1, A, M, P]) (aP16 5) (d16 V1).length (d16 V1).length = true from (bN6 (h := hS5 [x1, x0] [V1, A, M, P]) (b := 5) (V := V1) rfl lV1).row) (okPC d1 (okPC (by rw [hpr _ rfl rfl]; exact hV1) (okPC (by rw [hpr _ rfl rfl]; exact d20) (okPC ((HT _ rfl).mu (HQ _ rfl)) (okPC ((bN6 (V := P) rfl lP).addV (HT _ rfl) hA) (okPC ((bN6 (V := P) rfl lP).two (HT _ rfl)) (okPC hor (okPC hp2 (okPC (by decide) (okPC hn (okP1 hi))))))))))))))).mono fun ex z hz => ?_
      obtain ⟨rfl, ⟨g2, z1⟩, z2⟩ := hz
      exact ⟨rfl, _, g2, z1, .inl ⟨rfl, z3⟩, by rw [z2]; rfl, by rw [z2]; rfl, by rw [z2]; rfl, by rw [z2]; rfl⟩
  · have d20 : decide (20 < (d16 (T * SQ)).length) = false := decide_eq_false c20
    have z3 : V3 = 0 := by
      have h2 : T * SQ / Go.Fx.uD = 0 := Nat.div_eq_of_lt (short20 c20)
      rw [← hV3, ← hV2, ← eV1, h2, Nat.zero_div, Nat.zero_div]
    have hg := se_e0 x1 x0 p q n c m e P M A f i g
    rw [ef2, ei] at hg
    refine (goesT_runsW (s0 := sc) TT hg (okPC rfl (okPC rfl (okPC rfl (okPC rfl (okPC (by rw [hpr _ rfl rfl]; exact d20) (okPC ((HT _ rfl).mu (HQ _ rfl)) (okPC ((bN6 (V := P) rfl lP).addV (HT _ rfl) hA) (okPC ((bN6 (V := P) rfl lP).two (HT _ rfl)) (okPC hor (okPC hp2 (okPC (by decide) (okPC hn (okP1 hi)))))))))))))).mono fun ex z hz => ?_
    obtain ⟨rfl, ⟨g2, z1⟩, z2⟩ := hz
    exact ⟨rfl, _, g2, z1, .inl ⟨rfl, z3⟩, by rw [z2]; rfl, by rw [z2]; rfl, by rw [z2]; rfl, by rw [z2]; rfl⟩
theorem rnd_u {x1 x0 : List Value × TypeId} {p q : Option Addr} {n c m e T SQ A f i : Nat} (HT : ∀ h : Hp, h.blk? 1 = some x1 → N6 h p n c T) (HQ : ∀ h : Hp, h.blk? 0 = some x0 → N6 h q m e SQ) {P : Nat} {M : Nat} (lM : (d16 M).length < 100000) (hA : M + T = A) (hl : (d16 (T * SQ)).length < 100000) (hl2 : ∀ V, V ≤ T * SQ → (d16 V).length < 100000) (hn0 : 0 < n) (hi0 : i < 100) (hpar : i % 2 = 1) (hf : 1 ≤ f ∧ f ≤ 300) (g : Nat → Value) (sc : List Dec) :
    RunsW (tabH Tryd.prog extY conN hcSe) (seL Tryd.f44) (seF (.slice p n c) (.slice q m e) (s16b 2 P) (s16b 3 M) (f : Nat) (i : Nat) ++ tl 31 g, (hS5 [x1, x0] [M, P]), sc) fun ex z => ex = none ∧ ∃ tv g, z.1 = seF tv (.slice q m e) (s16b 2 P) (s16b 4 A) ((f + 2 : Nat) : Int) ((i + 1 : Nat) : Int) ++ tl 31 g ∧ Tv z.2.1 tv (T * SQ / Go.Fx.uD / (f * (f + 1))) ∧ z.2.1.blk? 0 = some x0 ∧ z.2.1.blk? 2 = some (w16 P) ∧ z.2.1.blk? 3 = some (w16 M) ∧ z.2.1.blk? 4 = some (w16 A) := by
  have TT := tabH_ok conN_ok hcSe_ok
  have hi : decide ((i : Int) < 100) = true := decide_eq_true (by omega)
  have hn : decide ((n : Int) > 0) = true := decide_eq_true (by omega)
  have hp2 : ((i : Int).tmod 2 == 0) = false := by
    rw [Int.tmod_eq_emod_of_nonneg (by omega)]
    rw [beq_eq_false_iff_ne]; omega
  have hor : decide (0 < (d16 M).length ∨ 0 < n) = true := decide_eq_true (.inr hn0)
  have hpr : ∀ h : Hp, h.blk? 1 = some x1 → h.blk? 0 = some x0 → vO h p n * vO h q m = T * SQ := fun h h1 h0 => by rw [(HT h h1).vO, (HQ h h0).vO]
  have ef1 : f1 (f : Int) = ((f + 1 : Nat) : Int) := by
    unfold f1
    simp [IntKind.wrap, IntKind.bits, IntKind.signed]
    omega
  have ef2 : IntKind.u32.wrap ((f : Int) + 2) = ((f + 2 : Nat) : Int) := by
    simp [IntKind.wrap, IntKind.bits, IntKind.signed]
    omega
  have ei : IntKind.i64.wrap ((i : Int) + 1) = ((i + 1 : Nat) : Int) := by rw [wrapI (by omega) (by omega)]; omega
  have hfr : 1 ≤ (f : Int) ∧ (f : Int) < 65536 := by omega
  have hf1 : 1 ≤ ((f + 1 : Nat) : Int) ∧ ((f + 1 : Nat) : Int) < 65536 := by omega
  obtain ⟨V1, eV1⟩ : ∃ V, T * SQ / Go.Fx.uD = V := ⟨_, rfl⟩
  obtain ⟨V2, hV2⟩ : ∃ V, V1 / f = V := ⟨_, rfl⟩
  obtain ⟨V3, hV3⟩ : ∃ V, V2 / (f + 1) = V := ⟨_, rfl⟩
  have hV1 : decide (T * SQ / Go.Fx.uD = V1) = true := decide_eq_true eV1
  have e3 : T * SQ / Go.Fx.uD / (f * (f + 1)) = V3 := by rw [eV1, ← Nat.div_div_eq_div_mul, hV2, hV3]
  have bV1 : V1 ≤ T * SQ := by rw [← eV1]; exact Nat.div_le_self _ _
  have bV2 : V2 ≤ T * SQ := Nat.le_trans (by rw [← hV2]; exact Nat.div_le_self _ _) bV1
  have lV1 := hl2 V1 bV1
  have lV2 := hl2 V2 bV2
  rw [e3]
  by_cases c20 : 20 < (d16 (T * SQ)).length
  · have d20 : decide (20 < (d16 (T * SQ)).length ∧ (d16 (T * SQ)).length < 100000) = true := decide_eq_true ⟨c20, hl⟩
    by_cases c1 : 0 < (d16 V1).length
    · have d1 : decide (0 < (d16 V1).length) = true := decide_eq_true c1
      by_cases c2 : 0 < (d16 V2).length
      · have d2 : decide (0 < (d16 V2).length) = true := decide_eq_true c2
        have hg := se_u3 x1 x0 p q n c m e P M A V1 V2 V3 f i g
        rw [ef1, ef2, ei] at hg
        refine (goesT_runsW (s0 := sc) TT hg (okPC ((gN6 (V := V2) rfl lV2).divV hV3) (okPC ((gN6 (V := V2) rfl lV2).sm hf1) (okPC d2 (okPC ((bN6 (V := V1) rfl lV1).divV hV2) (okPC ((bN6 (V := V1) rfl lV1).sm hfr) (okPC d1 (okPC (by rw [hpr _ rfl rfl]; exact hV1) (okPC (by rw [hpr _ rfl rfl]; exact d20) (okPC ((HT _ rfl).mu (HQ _ rfl)) (okPC ((bN6 (V := M) rfl lM).addV (HT _ rfl) hA) (okPC ((bN6 (V := M) rfl lM).two (HT _ rfl)) (okPC hor (okPC hp2 (okPC (by decide) (okPC hn (okP1 hi))))))))))))))))).mono fun ex z hz => ?_
        obtain ⟨rfl, ⟨g2, z1⟩, z2⟩ := hz
        exact ⟨rfl, _, g2, z1, .inr ⟨7, by omega, rfl, by rw [z2]; rfl⟩, by rw [z2]; rfl, by rw [z2]; rfl, by rw [z2]; rfl, by rw [z2]; rfl⟩
      · have d2 : decide (0 < (d16 V2).length) = false := decide_eq_false c2
        have z3 : V3 = 0 := by rw [← hV3, len_zero c2, Nat.zero_div]
        have hg := se_u2 x1 x0 p q n c m e P M A V1 V2 f i g
        rw [ef2, ei] at hg
        refine (goesT_runsW (s0 := sc) TT hg (okPC (show rowP (hS5 [x1, x0] [V2, V1, A, M, P]) (aP16 6) (d16 V2).length grown = true from (gN6 (h := hS5 [x1, x0] [V2, V1, A, M, P]) (b := 6) (V := V2) rfl lV2).row) (okPC d2 (okPC ((bN6 (V := V1) rfl lV1).divV hV2) (okPC ((bN6 (V := V1) rfl lV1).sm hfr) (okPC d1 (okPC (by rw [hpr _ rfl rfl]; exact hV1) (okPC (by rw [hpr _ rfl rfl]; exact d20) (okPC ((HT _ rfl).mu (HQ _ rfl)) (okPC ((bN6 (V := M) rfl lM).addV (HT _ rfl) hA) (okPC ((bN6 (V := M) rfl lM).two (HT _ rfl)) (okPC hor (okPC hp2 (okPC (by decide) (okPC hn (okP1 hi)))))))))))))))).mono fun ex z hz => ?_
        obtain ⟨rfl, ⟨g2, z1⟩, z2⟩ := hz
        exact ⟨rfl, _, g2, z1, .inl ⟨rfl, z3⟩, by rw [z2]; rfl, by rw [z2]; rfl, by rw [z2]; rfl, by rw [z2]; rfl⟩
    · have d1 : decide (0 < (d16 V1).length) = false := decide_eq_false c1
      have z3 : V3 = 0 := by rw [← hV3, ← hV2, len_zero c1, Nat.zero_div, Nat.zero_div]
      have hg := se_u1 x1 x0 p q n c m e P M A V1 f i g
      rw [ef2, ei] at hg
      refine (goesT_runsW (s0 := sc) TT hg (okPC rfl (okPC rfl (okPC (show rowP (hS5 [x1, x0] [V1, A, M, P]) (aP16 5) (d16 V1).length (d16 V1).length = true from (bN6 (h := hS5 [x1, x0] [V1, A, M, P]) (b := 5) (V := V1) rfl lV1).row) (okPC d1 (okPC (by rw [hpr _ rfl rfl]; exact hV1) (okPC (by rw [hpr _ rfl rfl]; exact d20) (okPC ((HT _ rfl).mu (HQ _ rfl)) (okPC ((bN6 (V := M) rfl lM).addV (HT _ rfl) hA) (okPC ((bN6 (V := M) rfl lM).two (HT _ rfl)) (okPC hor (okPC hp2 (okPC (by decide) (okPC hn (okP1 hi))))))))))))))).mono fun ex z hz => ?_
      obtain ⟨rfl, ⟨g2, z1⟩, z2⟩ := hz
      exact ⟨rfl, _, g2, z1, .inl ⟨rfl, z3⟩, by rw [z2]; rfl, by rw [z2]; rfl, by rw [z2]; rfl, by rw [z2]; rfl⟩
  · have d20 : decide (20 < (d16 (T * SQ)).length) = false := decide_eq_false c20
    have z3 : V3 = 0 := by
      have h2 : T * SQ / Go.Fx.uD = 0 := Nat.div_eq_of_lt (short20 c20)
      rw [← hV3, ← hV2, ← eV1, h2, Nat.zero_div, Nat.zero_div]
    have hg := se_u0 x1 x0 p q n c m e P M A f i g
    rw [ef2, ei] at hg
    refine (goesT_runsW (s0 := sc) TT hg (okPC rfl (okPC rfl (okPC rfl (okPC rfl (okPC (by rw [hpr _ rfl rfl]; exact d20) (okPC ((HT _ rfl).mu (HQ _ rfl)) (okPC ((bN6 (V := M) rfl lM).addV (HT _ rfl) hA) (okPC ((bN6 (V := M) rfl lM).two (HT _ rfl)) (okPC hor (okPC hp2 (okPC (by decide) (okPC hn (okP1 hi)))))))))))))).mono fun ex z hz => ?_
    obtain ⟨rfl, ⟨g2, z1⟩, z2⟩ := hz
    exact ⟨rfl, _, g2, z1, .inl ⟨rfl, z3⟩, by rw [z2]; rfl, by rw [z2]; rfl, by rw [z2]; rfl, by rw [z2]; rfl⟩
end Go.Proofs.YtdlpffgekmidnaaDoor
