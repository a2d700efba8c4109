/-
  TuT, TuU, TuV, TuW
-/
import Derived.Test.YtdlpffgekmidnabDoorG17
namespace Go.Proofs.YtdlpffgekmidnabDoor
open Go.KRun Go.Wd
set_option maxRecDepth 100000
set_option linter.unusedVariables false
theorem tk_eP (o n c j : Nat) (u1 u2 u3 u4 u5 : Value) (k m : Int) (u9 u10 u11 u12 u13 u14 u15 : Value) (S L X : List Value) (q : Int) (g : Nat → Value) (sn : Nat)  : GoesT (evC (tabH Tryd.prog extY conTK hcTK) 300 false (kB Tryd.f3) (tkF (lP o n c) u1 u2 u3 u4 u5 obP (.slice none 0 0) (j : Nat) u9 u10 u11 u12 u13 u14 u15 ++ tl 129 g, h4 S 26 (.int .i64 q :: L) X, [at_, vI k, at_, vI m, cmp true, at_, at_, vI k, at_, vI m, cmp true, cmp false, cmp false, cmp false]) ⟨[], [], []⟩) 16 129 none (tkF (lP o n c) u1 u2 u3 u4 u5 obP (.slice none 0 0) (j : Nat) (.pointer (some ⟨4, 0, none⟩)) (.iface 42 (.int .i64 1)) (.pointer (some ⟨5, 0, none⟩)) (.iface 42 (.int .i64 1)) u13 u14 u15) (⟨6, [([.int .u64 0, .int .u64 0], 26), ([.int .u64 0, .int .u64 0], 26), (S, 26), (.int .i64 q :: L, obT), (X, askR), (kV, kT)]⟩) [(q != 0, false), (isMp (.int .i64 q :: L), true), ((1 : Int) != 1, false), (Nat.beq 42 42 && Nat.beq kT kT && kOk kV, true), (Nat.beq 42 42 && Nat.beq kT kT && kOk kV, true), (decide (badP m), true), (decide (badP m), true), (cellIs (X[o + (j * 2 + 1)]?) (.int .i64 m), true), (decide (0 ≤ ((j : Nat) : Int) ∧ ((j : Nat) : Int) < ((n : Nat) : Int)), true), (cellIs (X[o + j * 2]?) (.int .i64 k), true), (decide (0 ≤ ((j : Nat) : Int) ∧ ((j : Nat) : Int) < ((n : Nat) : Int)), true), (true, true), (isMp (.int .i64 q :: L), true), (decide (badP m), true), (true, true), (isMp (.int .i64 q :: L), true), (decide (badP m), true), (cellIs (X[o + (j * 2 + 1)]?) (.int .i64 m), true), (decide (0 ≤ ((j : Nat) : Int) ∧ ((j : Nat) : Int) < ((n : Nat) : Int)), true), (cellIs (X[o + j * 2]?) (.int .i64 k), true), (decide (0 ≤ ((j : Nat) : Int) ∧ ((j : Nat) : Int) < ((n : Nat) : Int)), true)] := ⟨by kernel_rfl, by kernel_rfl, by kernel_rfl⟩
theorem tk_gnP (o n c j : Nat) (u1 u2 u3 u4 u5 : Value) (k m : Int) (u9 u10 u11 u12 u13 u14 u15 : Value) (S L X : List Value) (q : Int) (g : Nat → Value) (sn : Nat)  : GoesT (evL (tabH Tryd.prog extY conTK hcTK) 300 (kP Tryd.f3) (tkF (lP o n c) u1 u2 u3 u4 u5 obP (.slice none 0 0) (j : Nat) u9 u10 u11 u12 u13 u14 u15 ++ tl 129 g, h4 S 26 (.int .i64 q :: L) X, [at_, vI k, at_, vI m, cmp false, cmp false, at_, at_, vI k, at_, vI m, cmp false, sam false, cmp false]) ⟨[], [], []⟩) 16 129 none (tkF (lP o n c) u1 u2 u3 u4 u5 obP (.slice none 0 0) (j : Nat) (.pointer (some ⟨4, 0, none⟩)) .nilIface (.pointer (some ⟨5, 0, none⟩)) .nilIface u13 u14 u15) (⟨6, [([.int .u64 (coI (k % m) m), .int .u64 (siI (k % m) m)], 26), ([.int .u64 (cK k m), .int .u64 (sK k m)], 26), (S, 26), (.int .i64 (q + 1) :: (L ++ [paV (k % m) m, ptV (cK k m) (sK k m)]), obT), (X, askR), (kV, kT)]⟩) [((0 : Int) != 0, false), (!(cK k m == coI (k % m) m && (sK k m == siI (k % m) m && true)), false), (decide (badP m), false), (decide (badP m), false), (cellIs (X[o + (j * 2 + 1)]?) (.int .i64 m), true), (decide (0 ≤ ((j : Nat) : Int) ∧ ((j : Nat) : Int) < ((n : Nat) : Int)), true), (cellIs (X[o + j * 2]?) (.int .i64 k), true), (decide (0 ≤ ((j : Nat) : Int) ∧ ((j : Nat) : Int) < ((n : Nat) : Int)), true), (true, true), (noneT (k % m) m L, true), (isMp (.int .i64 q :: L), true), (decide (badP m), false), (true, true), (noneT (k % m) m L, true), (isMp (.int .i64 q :: L), true), (decide (badP m), false), (cellIs (X[o + (j * 2 + 1)]?) (.int .i64 m), true), (decide (0 ≤ ((j : Nat) : Int) ∧ ((j : Nat) : Int) < ((n : Nat) : Int)), true), (cellIs (X[o + j * 2]?) (.int .i64 k), true), (decide (0 ≤ ((j : Nat) : Int) ∧ ((j : Nat) : Int) < ((n : Nat) : Int)), true)] := ⟨by kernel_rfl, by kernel_rfl, by kernel_rfl⟩
theorem tk_i0P (o n c j : Nat) (u1 u2 u3 u4 u5 : Value) (k m : Int) (u9 u10 u11 u12 u13 u14 u15 : Value) (S L X : List Value) (q : Int) (g : Nat → Value) (sn : Nat)  : GoesT (evL (tabH Tryd.prog extY conTK hcTK) 300 (kI Tryd.f3) (tkF (lP o n c) u1 u2 u3 u4 u5 obP (.slice none 0 0) (j : Nat) u9 u10 u11 u12 u13 u14 u15 ++ tl 129 g, h4 S 26 (.int .i64 q :: L) X, [at_, vI k, at_, vI m, cmp false, cmp false]) ⟨[], [], []⟩) 16 129 none (tkF (lP o n c) u1 u2 u3 u4 u5 obP (.slice none 0 0) (j : Nat) u9 u10 u11 u12 (.int .i64 (k.tmod m)) (.bool false) u15) (h4 S 26 (.int .i64 q :: L) X) [(decide (k.tmod m < 0), false), (decide (m = 0), false), (cellIs (X[o + (j * 2 + 1)]?) (.int .i64 m), true), (decide (0 ≤ ((j : Nat) : Int) ∧ ((j : Nat) : Int) < ((n : Nat) : Int)), true), (cellIs (X[o + j * 2]?) (.int .i64 k), true), (decide (0 ≤ ((j : Nat) : Int) ∧ ((j : Nat) : Int) < ((n : Nat) : Int)), true)] := ⟨by kernel_rfl, by kernel_rfl, by kernel_rfl⟩
theorem tk_i1P (o n c j : Nat) (u1 u2 u3 u4 u5 : Value) (k m : Int) (u9 u10 u11 u12 u13 u14 u15 : Value) (S L X : List Value) (q : Int) (g : Nat → Value) (sn : Nat)  : GoesT (evL (tabH Tryd.prog extY conTK hcTK) 300 (kI Tryd.f3) (tkF (lP o n c) u1 u2 u3 u4 u5 obP (.slice none 0 0) (j : Nat) u9 u10 u11 u12 u13 u14 u15 ++ tl 129 g, h4 S 26 (.int .i64 q :: L) X, [at_, vI k, at_, vI m, cmp false, cmp true, at_, vI m]) ⟨[], [], []⟩) 16 129 none (tkF (lP o n c) u1 u2 u3 u4 u5 obP (.slice none 0 0) (j : Nat) u9 u10 u11 u12 (.int .i64 (IntKind.i64.wrap (k.tmod m + m))) (.bool false) u15) (h4 S 26 (.int .i64 q :: L) X) [(cellIs (X[o + (j * 2 + 1)]?) (.int .i64 m), true), (decide (0 ≤ ((j : Nat) : Int) ∧ ((j : Nat) : Int) < ((n : Nat) : Int)), true), (decide (k.tmod m < 0), true), (decide (m = 0), false), (cellIs (X[o + (j * 2 + 1)]?) (.int .i64 m), true), (decide (0 ≤ ((j : Nat) : Int) ∧ ((j : Nat) : Int) < ((n : Nat) : Int)), true), (cellIs (X[o + j * 2]?) (.int .i64 k), true), (decide (0 ≤ ((j : Nat) : Int) ∧ ((j : Nat) : Int) < ((n : Nat) : Int)), true)] := ⟨by kernel_rfl, by kernel_rfl, by kernel_rfl⟩
theorem tk_dP (o n c j : Nat) (u1 u2 u3 u4 u5 : Value) (k m : Int) (u9 u10 u11 u12 u13 u14 u15 : Value) (S L X : List Value) (q : Int) (g : Nat → Value) (sn : Nat)  : GoesT (evC (tabH Tryd.prog extY conTK hcTK) 300 false (cFst (kD Tryd.f3)) (tkF (lP o n c) u1 u2 u3 u4 u5 obP (.slice none 0 0) (j : Nat) u9 u10 u11 u12 u13 u14 u15 ++ tl 129 g, h4 S 26 (.int .i64 q :: L) X, []) ⟨[], [], []⟩) 16 129 none (tkF (lP o n c) u1 u2 u3 u4 u5 obP (.slice none 0 0) (j : Nat) u9 u10 u11 u12 u13 u14 (.int .i64 0)) (h4 S 26 (.int .i64 q :: L) X) [] := ⟨by kernel_rfl, by kernel_rfl, by kernel_rfl⟩
theorem tk_nP (o n c j : Nat) (u1 u2 u3 u4 u5 : Value) (k m : Int) (u9 u10 u11 u12 u13 u14 u15 : Value) (S L X : List Value) (q : Int) (g : Nat → Value) (sn : Nat)  : GoesT (evC (tabH Tryd.prog extY conTK hcTK) 300 false (kN Tryd.f3) (tkF (lP o n c) u1 u2 u3 u4 u5 obP (.slice none 0 0) (j : Nat) u9 u10 u11 u12 u13 u14 u15 ++ tl 129 g, h4 S 26 (.int .i64 q :: L) X, [cmp false]) ⟨[], [], []⟩) 16 129 none (tkF (lP o n c) u1 u2 u3 u4 u5 obP (.slice none 0 0) (j : Nat) u9 u10 u11 u12 u13 u14 u15) (h4 S 26 (.int .i64 q :: L) X) [(q != 0, false), (isMp (.int .i64 q :: L), true)] := ⟨by kernel_rfl, by kernel_rfl, by kernel_rfl⟩
theorem tk_rP (o n c j : Nat) (u1 u2 u3 u4 u5 : Value) (k m : Int) (u9 u10 u11 u12 u13 u14 u15 : Value) (S L X : List Value) (q : Int) (g : Nat → Value) (sn : Nat)  : GoesT (evC (tabH Tryd.prog extY conTK hcTK) 300 false (kR Tryd.f3) (tkF (lP o n c) u1 u2 u3 u4 u5 obP (.slice none 0 0) (j : Nat) u9 u10 u11 u12 u13 u14 u15 ++ tl 129 g, h4 S 26 (.int .i64 q :: L) X, []) ⟨[], [], []⟩) 16 129 none (tkF (lP o n c) u1 u2 u3 u4 u5 obP (.slice none 0 0) (IntKind.i64.wrap ((j : Nat) + 1)) u9 u10 u11 u12 u13 u14 u15) (h4 S 26 (.int .i64 q :: L) X) [] := ⟨by kernel_rfl, by kernel_rfl, by kernel_rfl⟩
theorem tk_qP (o n c j : Nat) (u1 u2 u3 u4 u5 : Value) (k m : Int) (u9 u10 u11 u12 u13 u14 u15 : Value) (S L X : List Value) (q : Int) (g : Nat → Value) (sn : Nat)  : GoesT (evC (tabH Tryd.prog extY conTK hcTK) 300 false (kQ Tryd.f3) (tkF (lP o n c) u1 u2 u3 u4 u5 obP (.slice none 0 0) (j : Nat) u9 u10 u11 u12 u13 u14 u15 ++ tl 129 g, h4 S 26 (.int .i64 q :: L) X, [cmp true, cmp true]) ⟨[], [], []⟩) 16 129 none (tkF (lP o n c) u1 u2 u3 u4 u5 obP (.slice none 0 0) (j : Nat) u9 u10 u11 u12 u13 u14 u15) (h4 S 26 (.int .i64 q :: L) X) [(decide (((j : Nat) : Int) < 20), true), (decide (((j : Nat) : Int) < ((n : Nat) : Int)), true)] := ⟨by kernel_rfl, by kernel_rfl, by kernel_rfl⟩
theorem tk_qaP (o n c j : Nat) (u1 u2 u3 u4 u5 : Value) (k m : Int) (u9 u10 u11 u12 u13 u14 u15 : Value) (S L X : List Value) (q : Int) (g : Nat → Value) (sn : Nat)  : GoesT (evC (tabH Tryd.prog extY conTK hcTK) 300 false (kQ Tryd.f3) (tkF (lP o n c) u1 u2 u3 u4 u5 obP (.slice none 0 0) (j : Nat) u9 u10 u11 u12 u13 u14 u15 ++ tl 129 g, h4 S 26 (.int .i64 q :: L) X, [cmp false]) ⟨[], [], []⟩) 16 129 (some (some 0)) (tkF (lP o n c) u1 u2 u3 u4 u5 obP (.slice none 0 0) (j : Nat) u9 u10 u11 u12 u13 u14 u15) (h4 S 26 (.int .i64 q :: L) X) [(decide (((j : Nat) : Int) < ((n : Nat) : Int)), false)] := ⟨by kernel_rfl, by kernel_rfl, by kernel_rfl⟩
theorem tk_qbP (o n c j : Nat) (u1 u2 u3 u4 u5 : Value) (k m : Int) (u9 u10 u11 u12 u13 u14 u15 : Value) (S L X : List Value) (q : Int) (g : Nat → Value) (sn : Nat)  : GoesT (evC (tabH Tryd.prog extY conTK hcTK) 300 false (kQ Tryd.f3) (tkF (lP o n c) u1 u2 u3 u4 u5 obP (.slice none 0 0) (j : Nat) u9 u10 u11 u12 u13 u14 u15 ++ tl 129 g, h4 S 26 (.int .i64 q :: L) X, [cmp true, cmp false]) ⟨[], [], []⟩) 16 129 (some (some 0)) (tkF (lP o n c) u1 u2 u3 u4 u5 obP (.slice none 0 0) (j : Nat) u9 u10 u11 u12 u13 u14 u15) (h4 S 26 (.int .i64 q :: L) X) [(decide (((j : Nat) : Int) < 20), false), (decide (((j : Nat) : Int) < ((n : Nat) : Int)), true)] := ⟨by kernel_rfl, by kernel_rfl, by kernel_rfl⟩
theorem tk_eQ (o n c j : Nat) (u1 u2 u3 u4 u5 : Value) (k m : Int) (u9 u10 u11 u12 u13 u14 u15 : Value) (S L X : List Value) (q : Int) (g : Nat → Value) (sn : Nat)  : GoesT (evC (tabH Tryd.prog extY conTK hcTK) 300 false (kB Tryd.f3) (tkF (lP o n c) u1 u2 u3 u4 u5 obP (.slice (some ⟨3, 0, none⟩) sn (dead + 2)) (j : Nat) u9 u10 u11 u12 u13 u14 u15 ++ tl 129 g, h4 S 35 (.int .i64 q :: L) X, [at_, vI k, at_, vI m, cmp true, at_, at_, vI k, at_, vI m, cmp true, cmp false, cmp false, cmp false]) ⟨[], [], []⟩) 16 129 none (tkF (lP o n c) u1 u2 u3 u4 u5 obP (.slice (some ⟨3, 0, none⟩) sn (dead + 2)) (j : Nat) (.pointer (some ⟨4, 0, none⟩)) (.iface 42 (.int .i64 1)) (.pointer (some ⟨5, 0, none⟩)) (.iface 42 (.int .i64 1)) u13 u14 u15) (⟨6, [([.int .u64 0, .int .u64 0], 26), ([.int .u64 0, .int .u64 0], 26), (S, 35), (.int .i64 q :: L, obT), (X, askR), (kV, kT)]⟩) [(q != ((sn : Nat) : Int), false), (isMp (.int .i64 q :: L), true), ((1 : Int) != 1, false), (Nat.beq 42 42 && Nat.beq kT kT && kOk kV, true), (Nat.beq 42 42 && Nat.beq kT kT && kOk kV, true), (decide (badP m), true), (decide (badP m), true), (cellIs (X[o + (j * 2 + 1)]?) (.int .i64 m), true), (decide (0 ≤ ((j : Nat) : Int) ∧ ((j : Nat) : Int) < ((n : Nat) : Int)), true), (cellIs (X[o + j * 2]?) (.int .i64 k), true), (decide (0 ≤ ((j : Nat) : Int) ∧ ((j : Nat) : Int) < ((n : Nat) : Int)), true), (true, true), (isMp (.int .i64 q :: L), true), (decide (badP m), true), (true, true), (isMp (.int .i64 q :: L), true), (decide (badP m), true), (cellIs (X[o + (j * 2 + 1)]?) (.int .i64 m), true), (decide (0 ≤ ((j : Nat) : Int) ∧ ((j : Nat) : Int) < ((n : Nat) : Int)), true), (cellIs (X[o + j * 2]?) (.int .i64 k), true), (decide (0 ≤ ((j : Nat) : Int) ∧ ((j : Nat) : Int) < ((n : Nat) : Int)), true)] := ⟨by kernel_rfl, by kernel_rfl, by kernel_rfl⟩
theorem tk_gkQ (o n c j : Nat) (u1 u2 u3 u4 u5 : Value) (k m : Int) (u9 u10 u11 u12 u13 u14 u15 : Value) (S L X : List Value) (q : Int) (g : Nat → Value) (sn : Nat)  : GoesT (evL (tabH Tryd.prog extY conTK hcTK) 300 (kP Tryd.f3) (tkF (lP o n c) u1 u2 u3 u4 u5 obP (.slice (some ⟨3, 0, none⟩) sn (dead + 2)) (j : Nat) u9 u10 u11 u12 u13 u14 u15 ++ tl 129 g, h4 S 35 (.int .i64 q :: L) X, [at_, vI k, at_, vI m, cmp false, cmp true, at_, at_, vI k, at_, vI m, cmp false, sam false, cmp false]) ⟨[], [], []⟩) 16 129 none (tkF (lP o n c) u1 u2 u3 u4 u5 obP (.slice (some ⟨3, 0, none⟩) sn (dead + 2)) (j : Nat) (.pointer (some ⟨4, 0, none⟩)) .nilIface (.pointer (some ⟨5, 0, none⟩)) .nilIface u13 u14 u15) (⟨6, [([.int .u64 (coI (k % m) m), .int .u64 (siI (k % m) m)], 26), ([.int .u64 (cK k m), .int .u64 (sK k m)], 26), (S, 35), (.int .i64 q :: L, obT), (X, askR), (kV, kT)]⟩) [((0 : Int) != 0, false), (!(cK k m == coI (k % m) m && (sK k m == siI (k % m) m && true)), false), (decide (badP m), false), (decide (badP m), false), (cellIs (X[o + (j * 2 + 1)]?) (.int .i64 m), true), (decide (0 ≤ ((j : Nat) : Int) ∧ ((j : Nat) : Int) < ((n : Nat) : Int)), true), (cellIs (X[o + j * 2]?) (.int .i64 k), true), (decide (0 ≤ ((j : Nat) : Int) ∧ ((j : Nat) : Int) < ((n : Nat) : Int)), true), (true, true), (hereT (k % m) m (ptV (cK k m) (sK k m)) L, true), (isMp (.int .i64 q :: L), true), (decide (badP m), false), (true, true), (hereT (k % m) m (ptV (cK k m) (sK k m)) L, true), (isMp (.int .i64 q :: L), true), (decide (badP m), false), (cellIs (X[o + (j * 2 + 1)]?) (.int .i64 m), true), (decide (0 ≤ ((j : Nat) : Int) ∧ ((j : Nat) : Int) < ((n : Nat) : Int)), true), (cellIs (X[o + j * 2]?) (.int .i64 k), true), (decide (0 ≤ ((j : Nat) : Int) ∧ ((j : Nat) : Int) < ((n : Nat) : Int)), true)] := ⟨by kernel_rfl, by kernel_rfl, by kernel_rfl⟩
theorem tk_gnQ (o n c j : Nat) (u1 u2 u3 u4 u5 : Value) (k m : Int) (u9 u10 u11 u12 u13 u14 u15 : Value) (S L X : List Value) (q : Int) (g : Nat → Value) (sn : Nat)  : GoesT (evL (tabH Tryd.prog extY conTK hcTK) 300 (kP Tryd.f3) (tkF (lP o n c) u1 u2 u3 u4 u5 obP (.slice (some ⟨3, 0, none⟩) sn (dead + 2)) (j : Nat) u9 u10 u11 u12 u13 u14 u15 ++ tl 129 g, h4 S 35 (.int .i64 q :: L) X, [at_, vI k, at_, vI m, cmp false, cmp false, at_, at_, vI k, at_, vI m, cmp false, sam false, cmp false]) ⟨[], [], []⟩) 16 129 none (tkF (lP o n c) u1 u2 u3 u4 u5 obP (.slice (some ⟨3, 0, none⟩) sn (dead + 2)) (j : Nat) (.pointer (some ⟨4, 0, none⟩)) .nilIface (.pointer (some ⟨5, 0, none⟩)) .nilIface u13 u14 u15) (⟨6, [([.int .u64 (coI (k % m) m), .int .u64 (siI (k % m) m)], 26), ([.int .u64 (cK k m), .int .u64 (sK k m)], 26), (S, 35), (.int .i64 (q + 1) :: (L ++ [paV (k % m) m, ptV (cK k m) (sK k m)]), obT), (X, askR), (kV, kT)]⟩) [((0 : Int) != 0, false), (!(cK k m == coI (k % m) m && (sK k m == siI (k % m) m && true)), false), (decide (badP m), false), (decide (badP m), false), (cellIs (X[o + (j * 2 + 1)]?) (.int .i64 m), true), (decide (0 ≤ ((j : Nat) : Int) ∧ ((j : Nat) : Int) < ((n : Nat) : Int)), true), (cellIs (X[o + j * 2]?) (.int .i64 k), true), (decide (0 ≤ ((j : Nat) : Int) ∧ ((j : Nat) : Int) < ((n : Nat) : Int)), true), (true, true), (noneT (k % m) m L, true), (isMp (.int .i64 q :: L), true), (decide (badP m), false), (true, true), (noneT (k % m) m L, true), (isMp (.int .i64 q :: L), true), (decide (badP m), false), (cellIs (X[o + (j * 2 + 1)]?) (.int .i64 m), true), (decide (0 ≤ ((j : Nat) : Int) ∧ ((j : Nat) : Int) < ((n : Nat) : Int)), true), (cellIs (X[o + j * 2]?) (.int .i64 k), true), (decide (0 ≤ ((j : Nat) : Int) ∧ ((j : Nat) : Int) < ((n : Nat) : Int)), true)] := ⟨by kernel_rfl, by kernel_rfl, by kernel_rfl⟩
theorem tk_i0Q (o n c j : Nat) (u1 u2 u3 u4 u5 : Value) (k m : Int) (u9 u10 u11 u12 u13 u14 u15 : Value) (S L X : List Value) (q : Int) (g : Nat → Value) (sn : Nat)  : GoesT (evL (tabH Tryd.prog extY conTK hcTK) 300 (kI Tryd.f3) (tkF (lP o n c) u1 u2 u3 u4 u5 obP (.slice (some ⟨3, 0, none⟩) sn (dead + 2)) (j : Nat) u9 u10 u11 u12 u13 u14 u15 ++ tl 129 g, h4 S 35 (.int .i64 q :: L) X, [at_, vI k, at_, vI m, cmp false, cmp false]) ⟨[], [], []⟩) 16 129 none (tkF (lP o n c) u1 u2 u3 u4 u5 obP (.slice (some ⟨3, 0, none⟩) sn (dead + 2)) (j : Nat) u9 u10 u11 u12 (.int .i64 (k.tmod m)) (.bool false) u15) (h4 S 35 (.int .i64 q :: L) X) [(decide (k.tmod m < 0), false), (decide (m = 0), false), (cellIs (X[o + (j * 2 + 1)]?) (.int .i64 m), true), (decide (0 ≤ ((j : Nat) : Int) ∧ ((j : Nat) : Int) < ((n : Nat) : Int)), true), (cellIs (X[o + j * 2]?) (.int .i64 k), true), (decide (0 ≤ ((j : Nat) : Int) ∧ ((j : Nat) : Int) < ((n : Nat) : Int)), true)] := ⟨by kernel_rfl, by kernel_rfl, by kernel_rfl⟩
theorem tk_i1Q (o n c j : Nat) (u1 u2 u3 u4 u5 : Value) (k m : Int) (u9 u10 u11 u12 u13 u14 u15 : Value) (S L X : List Value) (q : Int) (g : Nat → Value) (sn : Nat)  : GoesT (evL (tabH Tryd.prog extY conTK hcTK) 300 (kI Tryd.f3) (tkF (lP o n c) u1 u2 u3 u4 u5 obP (.slice (some ⟨3, 0, none⟩) sn (dead + 2)) (j : Nat) u9 u10 u11 u12 u13 u14 u15 ++ tl 129 g, h4 S 35 (.int .i64 q :: L) X, [at_, vI k, at_, vI m, cmp false, cmp true, at_, vI m]) ⟨[], [], []⟩) 16 129 none (tkF (lP o n c) u1 u2 u3 u4 u5 obP (.slice (some ⟨3, 0, none⟩) sn (dead + 2)) (j : Nat) u9 u10 u11 u12 (.int .i64 (IntKind.i64.wrap (k.tmod m + m))) (.bool false) u15) (h4 S 35 (.int .i64 q :: L) X) [(cellIs (X[o + (j * 2 + 1)]?) (.int .i64 m), true), (decide (0 ≤ ((j : Nat) : Int) ∧ ((j : Nat) : Int) < ((n : Nat) : Int)), true), (decide (k.tmod m < 0), true), (decide (m = 0), false), (cellIs (X[o + (j * 2 + 1)]?) (.int .i64 m), true), (decide (0 ≤ ((j : Nat) : Int) ∧ ((j : Nat) : Int) < ((n : Nat) : Int)), true), (cellIs (X[o + j * 2]?) (.int .i64 k), true), (decide (0 ≤ ((j : Nat) : Int) ∧ ((j : Nat) : Int) < ((n : Nat) : Int)), true)] := ⟨by kernel_rfl, by kernel_rfl, by kernel_rfl⟩
theorem tk_dQ (o n c j : Nat) (u1 u2 u3 u4 u5 : Value) (k m : Int) (u9 u10 u11 u12 u13 u14 u15 : Value) (S L X : List Value) (q : Int) (g : Nat → Value) (sn : Nat)  : GoesT (evC (tabH Tryd.prog extY conTK hcTK) 300 false (cFst (kD Tryd.f3)) (tkF (lP o n c) u1 u2 u3 u4 u5 obP (.slice (some ⟨3, 0, none⟩) sn (dead + 2)) (j : Nat) u9 u10 u11 u12 u13 u14 u15 ++ tl 129 g, h4 S 35 (.int .i64 q :: L) X, []) ⟨[], [], []⟩) 16 129 none (tkF (lP o n c) u1 u2 u3 u4 u5 obP (.slice (some ⟨3, 0, none⟩) sn (dead + 2)) (j : Nat) u9 u10 u11 u12 u13 u14 (.int .i64 0)) (h4 S 35 (.int .i64 q :: L) X) [] := ⟨by kernel_rfl, by kernel_rfl, by kernel_rfl⟩
theorem tk_nQ (o n c j : Nat) (u1 u2 u3 u4 u5 : Value) (k m : Int) (u9 u10 u11 u12 u13 u14 u15 : Value) (S L X : List Value) (q : Int) (g : Nat → Value) (sn : Nat)  : GoesT (evC (tabH Tryd.prog extY conTK hcTK) 300 false (kN Tryd.f3) (tkF (lP o n c) u1 u2 u3 u4 u5 obP (.slice (some ⟨3, 0, none⟩) sn (dead + 2)) (j : Nat) u9 u10 u11 u12 u13 u14 u15 ++ tl 129 g, h4 S 35 (.int .i64 q :: L) X, [cmp false]) ⟨[], [], []⟩) 16 129 none (tkF (lP o n c) u1 u2 u3 u4 u5 obP (.slice (some ⟨3, 0, none⟩) sn (dead + 2)) (j : Nat) u9 u10 u11 u12 u13 u14 u15) (h4 S 35 (.int .i64 q :: L) X) [(q != ((sn : Nat) : Int), false), (isMp (.int .i64 q :: L), true)] := ⟨by kernel_rfl, by kernel_rfl, by kernel_rfl⟩
theorem tk_rQ (o n c j : Nat) (u1 u2 u3 u4 u5 : Value) (k m : Int) (u9 u10 u11 u12 u13 u14 u15 : Value) (S L X : List Value) (q : Int) (g : Nat → Value) (sn : Nat)  : GoesT (evC (tabH Tryd.prog extY conTK hcTK) 300 false (kR Tryd.f3) (tkF (lP o n c) u1 u2 u3 u4 u5 obP (.slice (some ⟨3, 0, none⟩) sn (dead + 2)) (j : Nat) u9 u10 u11 u12 u13 u14 u15 ++ tl 129 g, h4 S 35 (.int .i64 q :: L) X, []) ⟨[], [], []⟩) 16 129 none (tkF (lP o n c) u1 u2 u3 u4 u5 obP (.slice (some ⟨3, 0, none⟩) sn (dead + 2)) (IntKind.i64.wrap ((j : Nat) + 1)) u9 u10 u11 u12 u13 u14 u15) (h4 S 35 (.int .i64 q :: L) X) [] := ⟨by kernel_rfl, by kernel_rfl, by kernel_rfl⟩
theorem tk_qQ (o n c j : Nat) (u1 u2 u3 u4 u5 : Value) (k m : Int) (u9 u10 u11 u12 u13 u14 u15 : Value) (S L X : List Value) (q : Int) (g : Nat → Value) (sn : Nat)  : GoesT (evC (tabH Tryd.prog extY conTK hcTK) 300 false (kQ Tryd.f3) (tkF (lP o n c) u1 u2 u3 u4 u5 obP (.slice (some ⟨3, 0, none⟩) sn (dead + 2)) (j : Nat) u9 u10 u11 u12 u13 u14 u15 ++ tl 129 g, h4 S 35 (.int .i64 q :: L) X, [cmp true, cmp true]) ⟨[], [], []⟩) 16 129 none (tkF (lP o n c) u1 u2 u3 u4 u5 obP (.slice (some ⟨3, 0, none⟩) sn (dead + 2)) (j : Nat) u9 u10 u11 u12 u13 u14 u15) (h4 S 35 (.int .i64 q :: L) X) [(decide (((j : Nat) : Int) < 20), true), (decide (((j : Nat) : Int) < ((n : Nat) : Int)), true)] := ⟨by kernel_rfl, by kernel_rfl, by kernel_rfl⟩
theorem tk_qaQ (o n c j : Nat) (u1 u2 u3 u4 u5 : Value) (k m : Int) (u9 u10 u11 u12 u13 u14 u15 : Value) (S L X : List Value) (q : Int) (g : Nat → Value) (sn : Nat)  : GoesT (evC (tabH Tryd.prog extY conTK hcTK) 300 false (kQ Tryd.f3) (tkF (lP o n c) u1 u2 u3 u4 u5 obP (.slice (some ⟨3, 0, none⟩) sn (dead + 2)) (j : Nat) u9 u10 u11 u12 u13 u14 u15 ++ tl 129 g, h4 S 35 (.int .i64 q :: L) X, [cmp false]) ⟨[], [], []⟩) 16 129 (some (some 0)) (tkF (lP o n c) u1 u2 u3 u4 u5 obP (.slice (some ⟨3, 0, none⟩) sn (dead + 2)) (j : Nat) u9 u10 u11 u12 u13 u14 u15) (h4 S 35 (.int .i64 q :: L) X) [(decide (((j : Nat) : Int) < ((n : Nat) : Int)), false)] := ⟨by kernel_rfl, by kernel_rfl, by kernel_rfl⟩
theorem tk_qbQ (o n c j : Nat) (u1 u2 u3 u4 u5 : Value) (k m : Int) (u9 u10 u11 u12 u13 u14 u15 : Value) (S L X : List Value) (q : Int) (g : Nat → Value) (sn : Nat)  : GoesT (evC (tabH Tryd.prog extY conTK hcTK) 300 false (kQ Tryd.f3) (tkF (lP o n c) u1 u2 u3 u4 u5 obP (.slice (some ⟨3, 0, none⟩) sn (dead + 2)) (j : Nat) u9 u10 u11 u12 u13 u14 u15 ++ tl 129 g, h4 S 35 (.int .i64 q :: L) X, [cmp true, cmp false]) ⟨[], [], []⟩) 16 129 (some (some 0)) (tkF (lP o n c) u1 u2 u3 u4 u5 obP (.slice (some ⟨3, 0, none⟩) sn (dead + 2)) (j : Nat) u9 u10 u11 u12 u13 u14 u15) (h4 S 35 (.int .i64 q :: L) X) [(decide (((j : Nat) : Int) < 20), false), (decide (((j : Nat) : Int) < ((n : Nat) : Int)), true)] := ⟨by kernel_rfl, by kernel_rfl, by kernel_rfl⟩
theorem tk_utQ (o n c j : Nat) (u1 u2 u3 u4 u5 : Value) (k m : Int) (u9 u10 u11 u12 u13 u14 u15 : Value) (S L X : List Value) (q : Int) (g : Nat → Value) (sn : Nat)  : GoesT (evC (tabH Tryd.prog extY conTK hcTK) 300 false (kU Tryd.f3) (tkF (lP o n c) u1 u2 u3 u4 u5 obP (.slice (some ⟨3, 0, none⟩) sn (dead + 2)) (j : Nat) u9 u10 u11 u12 u13 (.bool true) u15 ++ tl 129 g, h4 S 35 (.int .i64 q :: L) X, []) ⟨[], [], []⟩) 16 129 none (tkF (lP o n c) u1 u2 u3 u4 u5 obP (.slice (some ⟨3, 0, none⟩) sn (dead + 2)) (j : Nat) u9 u10 u11 u12 u13 (.bool true) u15) (h4 S 35 (.int .i64 q :: L) X) [] := ⟨by kernel_rfl, by kernel_rfl, by kernel_rfl⟩
/-! the inner loop -/
theorem tk_eo (o n c j : Nat) (u1 u2 u3 u4 u5 : Value) (k m : Int) (u9 u10 u11 u12 u13 u14 u15 : Value) (S L X : List Value) (q : Int) (g : Nat → Value) (sn : Nat) (K : Int) (d : Bool) (x : Nat) : GoesT (evC (tabH Tryd.prog extY conTK hcTK) 300 false (kE Tryd.f3) (tkF (lP o n c) u1 u2 u3 u4 u5 obP (.slice (some ⟨3, 0, none⟩) sn (dead + 2)) (j : Nat) u9 u10 u11 u12 (.int .i64 K) (.bool d) (.int .i64 (x : Nat)) ++ tl 129 g, h4 S 35 (.int .i64 q :: L) X, [cmp false]) ⟨[], [], []⟩) 16 129 (some (some 2)) (tkF (lP o n c) u1 u2 u3 u4 u5 obP (.slice (some ⟨3, 0, none⟩) sn (dead + 2)) (j : Nat) u9 u10 u11 u12 (.int .i64 K) (.bool d) (.int .i64 (x : Nat))) (h4 S 35 (.int .i64 q :: L) X) [(decide (((x : Nat) : Int) < ((sn : Nat) : Int)), false)] := ⟨by kernel_rfl, by kernel_rfl, by kernel_rfl⟩
theorem tk_eoP (o n c j : Nat) (u1 u2 u3 u4 u5 : Value) (k m : Int) (u9 u10 u11 u12 u13 u14 u15 : Value) (S L X : List Value) (q : Int) (g : Nat → Value) (sn : Nat) (K : Int) (d : Bool) (x : Nat) : GoesT (evC (tabH Tryd.prog extY conTK hcTK) 300 false (kE Tryd.f3) (tkF (lP o n c) u1 u2 u3 u4 u5 obP (.slice none 0 0) (j : Nat) u9 u10 u11 u12 (.int .i64 K) (.bool d) (.int .i64 (x : Nat)) ++ tl 129 g, h4 S 26 (.int .i64 q :: L) X, [cmp false]) ⟨[], [], []⟩) 16 129 (some (some 2)) (tkF (lP o n c) u1 u2 u3 u4 u5 obP (.slice none 0 0) (j : Nat) u9 u10 u11 u12 (.int .i64 K) (.bool d) (.int .i64 (x : Nat))) (h4 S 26 (.int .i64 q :: L) X) [(decide (((x : Nat) : Int) < 0), false)] := ⟨by kernel_rfl, by kernel_rfl, by kernel_rfl⟩
theorem tk_et (o n c j : Nat) (u1 u2 u3 u4 u5 : Value) (k m : Int) (u9 u10 u11 u12 u13 u14 u15 : Value) (S L X : List Value) (q : Int) (g : Nat → Value) (sn : Nat) (K : Int) (x : Nat) : GoesT (evC (tabH Tryd.prog extY conTK hcTK) 300 false (kE Tryd.f3) (tkF (lP o n c) u1 u2 u3 u4 u5 obP (.slice (some ⟨3, 0, none⟩) sn (dead + 2)) (j : Nat) u9 u10 u11 u12 (.int .i64 K) (.bool true) (.int .i64 (x : Nat)) ++ tl 129 g, h4 S 35 (.int .i64 q :: L) X, [cmp true]) ⟨[], [], []⟩) 16 129 none (tkF (lP o n c) u1 u2 u3 u4 u5 obP (.slice (some ⟨3, 0, none⟩) sn (dead + 2)) (j : Nat) u9 u10 u11 u12 (.int .i64 K) (.bool true) (.int .i64 (IntKind.i64.wrap ((x : Nat) + 1)))) (h4 S 35 (.int .i64 q :: L) X) [(decide (((x : Nat) : Int) < ((sn : Nat) : Int)), true)] := ⟨by kernel_rfl, by kernel_rfl, by kernel_rfl⟩
theorem tk_ef (o n c j : Nat) (u1 u2 u3 u4 u5 : Value) (k m : Int) (u9 u10 u11 u12 u13 u14 u15 : Value) (S L X : List Value) (q : Int) (g : Nat → Value) (sn : Nat) (K : Int) (x : Nat) (a b : Int) : GoesT (evC (tabH Tryd.prog extY conTK hcTK) 300 false (kE Tryd.f3) (tkF (lP o n c) u1 u2 u3 u4 u5 obP (.slice (some ⟨3, 0, none⟩) sn (dead + 2)) (j : Nat) u9 u10 u11 u12 (.int .i64 K) (.bool false) (.int .i64 (x : Nat)) ++ tl 129 g, h4 S 35 (.int .i64 q :: L) X, [cmp true, at_, val (paV a b), at_, vI m]) ⟨[], [], []⟩) 16 129 none (tkF (lP o n c) u1 u2 u3 u4 u5 obP (.slice (some ⟨3, 0, none⟩) sn (dead + 2)) (j : Nat) u9 u10 u11 u12 (.int .i64 K) (.bool (a == K && (b == m && true))) (.int .i64 (IntKind.i64.wrap ((x : Nat) + 1)))) (h4 S 35 (.int .i64 q :: L) X) [(cellIs (X[o + (j * 2 + 1)]?) (.int .i64 m), true), (decide (0 ≤ ((j : Nat) : Int) ∧ ((j : Nat) : Int) < ((n : Nat) : Int)), true), (cellsIs ((S.drop (0 + x * 2)).take 2) [.int .i64 a, .int .i64 b], true), (decide (0 ≤ ((x : Nat) : Int) ∧ ((x : Nat) : Int) < ((sn : Nat) : Int)), true), (decide (((x : Nat) : Int) < ((sn : Nat) : Int)), true)] := ⟨by kernel_rfl, by kernel_rfl, by kernel_rfl⟩
/-! seen grows -/
theorem tk_un (o n c j : Nat) (u1 u2 u3 u4 u5 : Value) (k m : Int) (u9 u10 u11 u12 u13 u14 u15 : Value) (S L X : List Value) (q : Int) (g : Nat → Value) (sn : Nat) (K : Int) : GoesT (evC (tabH Tryd.prog extY conTK hcTK) 300 false (kU Tryd.f3) (tkF (lP o n c) u1 u2 u3 u4 u5 obP (.slice none 0 0) (j : Nat) u9 u10 u11 u12 (.int .i64 K) (.bool false) u15 ++ tl 129 g, h4 S 26 (.int .i64 q :: L) X, [at_, vI m]) ⟨[], [], []⟩) 16 129 none (tkF (lP o n c) u1 u2 u3 u4 u5 obP (.slice (some ⟨5, 0, none⟩) 1 (dead + 2)) (j : Nat) u9 u10 u11 u12 (.int .i64 K) (.bool false) u15) (⟨6, [([.int .i64 K, .int .i64 m], 35), ([.int .i64 K, .int .i64 m], 35), (S, 26), (.int .i64 q :: L, obT), (X, askR), (kV, kT)]⟩) [(cellIs (X[o + (j * 2 + 1)]?) (.int .i64 m), true), (decide (0 ≤ ((j : Nat) : Int) ∧ ((j : Nat) : Int) < ((n : Nat) : Int)), true)] := ⟨by kernel_rfl, by kernel_rfl, by kernel_rfl⟩
theorem tk_uq (o n c j : Nat) (u1 u2 u3 u4 u5 : Value) (k m : Int) (u9 u10 u11 u12 u13 u14 u15 : Value) (S L X : List Value) (q : Int) (g : Nat → Value) (sn : Nat) (K : Int) : GoesT (evC (tabH Tryd.prog extY conTK hcTK) 300 false (kU Tryd.f3) (tkF (lP o n c) u1 u2 u3 u4 u5 obP (.slice (some ⟨3, 0, none⟩) sn (dead + 2)) (j : Nat) u9 u10 u11 u12 (.int .i64 K) (.bool false) u15 ++ tl 129 g, h4 S 35 (.int .i64 q :: L) X, [at_, vI m, at_]) ⟨[], [], []⟩) 16 129 none (tkF (lP o n c) u1 u2 u3 u4 u5 obP (.slice (some ⟨5, 0, none⟩) (sn + 1) (dead + 2)) (j : Nat) u9 u10 u11 u12 (.int .i64 K) (.bool false) u15) (⟨6, [(S ++ [.int .i64 K, .int .i64 m], 35), ([.int .i64 K, .int .i64 m], 35), ([], 2 * dead), (.int .i64 q :: L, obT), (X, askR), (kV, kT)]⟩) [(bndK sn 1 && true && Nat.beq (sn * 2) S.length && !ro 35 && Nat.beq 35 35, true), (cellIs (X[o + (j * 2 + 1)]?) (.int .i64 m), true), (decide (0 ≤ ((j : Nat) : Int) ∧ ((j : Nat) : Int) < ((n : Nat) : Int)), true)] := ⟨by kernel_rfl, by kernel_rfl, by kernel_rfl⟩
/-! the first steps, and the last -/
end Go.Proofs.YtdlpffgekmidnabDoor
namespace Go.Proofs.YtdlpffgekmidnabDoor
open Go.KRun Go.Wd
set_option maxRecDepth 100000
def seenC : List (Int × Int) → List Value
  | [] => []
  | p :: r => .int .i64 p.1 :: .int .i64 p.2 :: seenC r
def seenT : List (Int × Int) → List Value
  | [] => []
  | p :: r => paV p.1 p.2 :: ptV (coI p.1 p.2) (siI p.1 p.2) :: seenT r
theorem seenC_len : ∀ s, (seenC s).length = s.length * 2
  | [] => rfl
  | p :: r => by
    have := seenC_len r
    simp only [seenC, List.length_cons]
    omega
theorem seenT_len : ∀ s, (seenT s).length = 2 * s.length
  | [] => rfl
  | p :: r => by
    have := seenT_len r
    simp only [seenT, List.length_cons]
    omega
theorem seenC_app : ∀ s (a b : Int), seenC (s ++ [(a, b)]) = seenC s ++ [.int .i64 a, .int .i64 b]
  | [], _, _ => rfl
  | p :: r, a, b => by simp only [List.cons_append, seenC, seenC_app r a b]
theorem seenT_app : ∀ s (a b : Int), seenT (s ++ [(a, b)]) = seenT s ++ [paV a b, ptV (coI a b) (siI a b)]
  | [], _, _ => rfl
  | p :: r, a, b => by simp only [List.cons_append, seenT, seenT_app r a b]
theorem seenC_still : ∀ s, ∀ v ∈ seenC s, still v = true
  | [], _, h => by cases h
  | p :: r, v, h => by
    simp only [seenC, List.mem_cons] at h
    rcases h with rfl | rfl | h
    · rfl
    · rfl
    · exact seenC_still r v h
theorem seenT_low : ∀ s, ∀ v ∈ seenT s, lt1 0 v = true ∧ still v = true
  | [], _, h => by cases h
  | p :: r, v, h => by
    simp only [seenT, List.mem_cons] at h
    rcases h with rfl | rfl | h
    · exact ⟨rfl, rfl⟩
    · exact ⟨rfl, rfl⟩
    · exact seenT_low r v h
theorem seenT_mp (s : List (Int × Int)) : isMp (.int .i64 (s.length : Nat) :: seenT s) = true := by
  show (decide ((0 : Int) ≤ (s.length : Nat)) && Nat.beq (seenT s).length (2 * ((s.length : Nat) : Int).toNat) && (seenT s).all (lt1 0)) = true
  simp only [Bool.and_eq_true, decide_eq_true_eq, List.all_eq_true]
  refine ⟨⟨by omega, ?_⟩, fun v hv => (seenT_low s v hv).1⟩
  rw [Nat.beq_eq, seenT_len]
  simp
theorem eq_pair (k n a b : Int) : (k == a && (n == b && true)) = decide ((a, b) = (k, n)) := by
  rw [Bool.and_true]
  by_cases h : (a, b) = (k, n)
  · cases h
    simp
  · rw [decide_eq_false h]
    cases e : (k == a && n == b) with
    | false => rfl
    | true =>
      rw [Bool.and_eq_true, beq_iff_eq, beq_iff_eq] at e
      exact absurd (by rw [e.1, e.2]) h
theorem none_of {k n : Int} : ∀ {s : List (Int × Int)}, (k, n) ∉ s → noneT k n (seenT s) = true
  | [], _ => rfl
  | p :: r, h => by
    have h1 : (k == p.1 && (n == p.2 && true)) = false := by
      rw [eq_pair]
      exact decide_eq_false fun e => h (by rw [show p = (k, n) from e]; exact List.mem_cons_self)
    show (!(k == p.1 && (n == p.2 && true)) && noneT k n (seenT r)) = true
    rw [h1, none_of fun c => h (List.mem_cons_of_mem _ c)]
    rfl
theorem valIs_pt (c s : Int) : valIs (ptV c s) (ptV c s) = true := by
  show (decide (IntKind.u64 = .u64 ∧ c = c) && (decide (IntKind.u64 = .u64 ∧ s = s) && true)) = true
  simp
theorem here_of {k n : Int} : ∀ {s : List (Int × Int)}, (k, n) ∈ s → hereT k n (ptV (coI k n) (siI k n)) (seenT s) = true
  | [], h => by cases h
  | p :: r, h => by
    show (match (k == p.1 && (n == p.2 && true)) with | true => valIs (ptV (coI p.1 p.2) (siI p.1 p.2)) (ptV (coI k n) (siI k n)) | false => hereT k n (ptV (coI k n) (siI k n)) (seenT r)) = true
    by_cases c : p = (k, n)
    · subst c
      rw [eq_pair, decide_eq_true rfl]
      exact valIs_pt _ _
    · rw [eq_pair, decide_eq_false fun e => c e]
      exact here_of (by
        rcases List.mem_cons.1 h with e | e
        · exact absurd e.symm c
        · exact e)
/-- the x-th pair in the row -/
theorem seenC_at : ∀ (s : List (Int × Int)) (x : Nat) (h : x < s.length), cellsIs (((seenC s).drop (0 + x * 2)).take 2) [.int .i64 s[x].1, .int .i64 s[x].2] = true
  | [], _, h => absurd h (Nat.not_lt_zero _)
  | p :: r, 0, _ => by
    show (decide (IntKind.i64 = .i64 ∧ p.1 = p.1) && (decide (IntKind.i64 = .i64 ∧ p.2 = p.2) && true)) = true
    simp
  | p :: r, x + 1, h => by
    have := seenC_at r x (by simpa using h)
    rw [show 0 + (x + 1) * 2 = (0 + x * 2) + 2 by omega]
    exact this
theorem tmod_pos {k m : Int} (hm : 0 < m) (h : ¬ k.tmod m < 0) : k.tmod m = k % m := by
  have h1 := Int.emod_nonneg k (show m ≠ 0 by omega)
  have h2 := Int.emod_lt_of_pos k hm
  have h3 := Int.tmod_lt_of_pos k hm
  have e1 := Int.mul_tdiv_add_tmod k m
  have e2 := Int.mul_ediv_add_emod k m
  have h4 : m * (Int.tdiv k m - k / m) = k % m - k.tmod m := by rw [Int.mul_sub]; omega
  have h5 : Int.tdiv k m - k / m = 0 := by
    rcases Int.lt_trichotomy (Int.tdiv k m - k / m) 0 with c | c | c
    · have := Int.mul_le_mul_of_nonneg_left (show Int.tdiv k m - k / m ≤ -1 by omega) (show 0 ≤ m by omega)
      omega
    · exact c
    · have := Int.mul_le_mul_of_nonneg_left (show 1 ≤ Int.tdiv k m - k / m by omega) (show 0 ≤ m by omega)
      omega
  rw [h5, Int.mul_zero] at h4
  omega
theorem tmod_neg {k m : Int} (hm : 0 < m) (h : k.tmod m < 0) : k.tmod m + m = k % m := by
  have h1 := Int.emod_nonneg k (show m ≠ 0 by omega)
  have h2 := Int.emod_lt_of_pos k hm
  have h3 := Int.tmod_lt_of_pos (-k) hm
  rw [Int.neg_tmod] at h3
  have e1 := Int.mul_tdiv_add_tmod k m
  have e2 := Int.mul_ediv_add_emod k m
  have h4 : m * (Int.tdiv k m - k / m) = k % m - k.tmod m := by rw [Int.mul_sub]; omega
  have h5 : Int.tdiv k m - k / m = 1 := by
    rcases Int.lt_trichotomy (Int.tdiv k m - k / m) 1 with c | c | c
    · have := Int.mul_le_mul_of_nonneg_left (show Int.tdiv k m - k / m ≤ 0 by omega) (show 0 ≤ m by omega)
      omega
    · exact c
    · have := Int.mul_le_mul_of_nonneg_left (show 2 ≤ Int.tdiv k m - k / m by omega) (show 0 ≤ m by omega)
      omega
  rw [h5, Int.mul_one] at h4
  omega
theorem wrap_k {n : Int} (h0 : -9223372036854775808 ≤ n) (h1 : n ≤ 9223372036854775807) : IntKind.i64.wrap n = n := by
  simp [IntKind.wrap, IntKind.bits, IntKind.signed]
  omega
theorem cell_k {X : List Value} {i : Nat} {k : Int} (h : X[i]? = some (.int .i64 k)) : cellIs (X[i]?) (.int .i64 k) = true := by
  rw [h]
  show decide (IntKind.i64 = .i64 ∧ k = k) = true
  simp
end Go.Proofs.YtdlpffgekmidnabDoor
namespace Go.Proofs.YtdlpffgekmidnabDoor
open Go.KRun Go.Wd
set_option maxRecDepth 100000
set_option linter.unusedVariables false
theorem tkT : TabOk (tabH Tryd.prog extY conTK hcTK) := tabH_ok conTK_ok hcTK_ok
theorem kB_is : kB Tryd.f3 = seqs (kP Tryd.f3) (.seq (kH Tryd.f3) (kN Tryd.f3)) := by kernel_rfl
theorem kH_is : kH Tryd.f3 = .seq (cFst (kH Tryd.f3)) (.cond (.tmp 85) (kG Tryd.f3) .skip) := by kernel_rfl
theorem kG_is : kG Tryd.f3 = seqs (kI Tryd.f3) (.seq (kD Tryd.f3) (kU Tryd.f3)) := by kernel_rfl
theorem kD_is : kD Tryd.f3 = .seq (cFst (kD Tryd.f3)) (.block 2 (.loop (kE Tryd.f3))) := by kernel_rfl
theorem kA_is : kA Tryd.f3 = .seq (kQ Tryd.f3) (.seq (.block 1 (kB Tryd.f3)) (kR Tryd.f3)) := by kernel_rfl
theorem goesB_runsW {T : Tab} (hT : TabOk T) {N : Nat} {c : Code} {t : List Value} {h h' : Hp} {s s0 : List Dec} {k n : Nat} {e : Ex} {front : List Value} {cs : Log} {b : Operand} {v : Bool} (hG : GoesT (evC T N false c (t, h, s) ⟨[], [], []⟩) k n e front h' cs)
    (hb : (evC T N false c (t, h, s) ⟨[], [], []⟩).map (fun r => ev r.2.1.1 b) = some (.bool v)) (hcs : okLog cs) :
    RunsW T c (t, h, s0) fun e' y => e' = e ∧ (∃ g, y.1 = front ++ tl n g) ∧ y.2.1 = h' ∧ ev y.1 b = .bool v := by
  obtain ⟨g, s', L, hr, hL⟩ := goesT_some hG hcs
  rw [hr] at hb
  have hb2 : ev (front ++ tl n g) b = .bool v := Option.some.inj hb
  refine (Runs.script ((Runs.ev hT hr hL).mono fun e2 y he => ?_)).w
  obtain ⟨rfl, rfl⟩ := he
  exact ⟨rfl, ⟨g, rfl⟩, rfl, hb2⟩
theorem still_rk {l : List Value} (h : ∀ v ∈ l, still v = true) (f : Nat → Nat) {k : Nat} (hk : 0 < k) : (l.all (lt1 k)) = true ∧ l.map (rn1 f) = l := by
  refine ⟨List.all_eq_true.2 fun v hv => still_lt hk (h v hv), ?_⟩
  refine (List.map_congr_left fun v hv => ?_).trans (List.map_id' _)
  have := h v hv
  cases v with
  | pointer a => cases a <;> simp_all [still, rn1]
  | slice a _ _ => cases a <;> simp_all [still, rn1]
  | map a => cases a <;> simp_all [still, rn1]
  | _ => rfl
theorem kept_k {h : Hp} {b : Nat} {x : List Value × TypeId} (hs : ∀ v ∈ x.1, still v = true) (hb : h.blk? b = some x) (f : Nat → Nat) {k : Nat} (hk : 0 < k) : (x.1.all (lt1 k)) = true ∧ h.blk? b = some (x.1.map (rn1 f), x.2) := by
  obtain ⟨h1, h2⟩ := still_rk hs f hk
  exact ⟨h1, by rw [h2]; exact hb⟩
theorem kV_still : ∀ v ∈ kV, still v = true := fun v hv => by rw [List.mem_singleton.1 hv]; rfl
theorem cons_still {q : Int} {L : List Value} (h : ∀ v ∈ L, still v = true) : ∀ v ∈ Value.int .i64 q :: L, still v = true := fun v hv => by
  rcases List.mem_cons.1 hv with rfl | hv
  · rfl
  · exact h v hv
/-- what is seen, in the memory -/
def TkSeen (s : List (Int × Int)) (sv : Value) (h : Hp) : Prop :=
  (s = [] ∧ sv = .slice none 0 0 ∧ ∃ S, h.blk? 3 = some (S, 26) ∧ ∀ v ∈ S, still v = true) ∨
  ∃ b, 2 < b ∧ sv = .slice (some ⟨b, 0, none⟩) s.length (dead + 2) ∧ h.blk? b = some (seenC s, 35)
def TkAt (X : List Value) (o n c : Nat) (q : Int) (L : List Value) (s : List (Int × Int)) (j : Nat) (u12 : Value) (y : Lf) : Prop :=
  ∃ u1 u2 u3 u4 u5 u9 u10 u11 u13 u14 u15 sv g h sc, y = (tkF (lP o n c) u1 u2 u3 u4 u5 obP sv (j : Nat) u9 u10 u11 u12 u13 u14 u15 ++ tl 129 g, h, sc) ∧ h.blk? 0 = some (kV, kT) ∧ h.blk? 1 = some (X, askR) ∧ h.blk? 2 = some (.int .i64 q :: L, obT) ∧ TkSeen s sv h
theorem nd_k {b : Nat} (h : 2 < b) : [0, 1, 2, b].Nodup := by
  simp only [List.nodup_cons, List.mem_cons, List.not_mem_nil, or_false, not_or, List.nodup_nil, and_true, not_false_eq_true]
  omega
/-- the memory made small -/
theorem canon {T : Tab} {cd : Code} {P : Ex → Lf → Prop} {X : List Value} {o n c : Nat} {q : Int} {L : List Value} {s : List (Int × Int)} {j : Nat} {v12 : Value} {y : Lf} (SX : ∀ v ∈ X, still v = true) (SL : ∀ v ∈ L, still v = true) (h : TkAt X o n c q L s j v12 y)
    (hP : s = [] → ∀ u1 u2 u3 u4 u5 u9 u10 u11 u12 u13 u14 u15 S g, (∀ v ∈ S, still v = true) → RunsW T cd (tkF (lP o n c) u1 u2 u3 u4 u5 obP (.slice none 0 0) (j : Nat) u9 u10 u11 u12 u13 u14 u15 ++ tl 129 g, h4 S 26 (.int .i64 q :: L) X, []) P)
    (hQ : ∀ u1 u2 u3 u4 u5 u9 u10 u11 u12 u13 u14 u15 g, RunsW T cd (tkF (lP o n c) u1 u2 u3 u4 u5 obP (.slice (some ⟨3, 0, none⟩) s.length (dead + 2)) (j : Nat) u9 u10 u11 u12 u13 u14 u15 ++ tl 129 g, h4 (seenC s) 35 (.int .i64 q :: L) X, []) P) : RunsW T cd y P := by
  obtain ⟨u1, u2, u3, u4, u5, u9, u10, u11, u13, u14, u15, sv, g, h, sc, rfl, b0, b1, b2, hs⟩ := h
  rcases hs with ⟨e0, rfl, S, b3, hS⟩ | ⟨b, hb, rfl, b3⟩
  · refine RunsW.preP (s' := []) [some (lP o n c), none, none, none, none, none, some obP, some (.slice none 0 0), some (.int .i64 (j : Nat)), none, none, none, none, none, none, none] [0, 1, 2, 3] [(kV, kT), (X, askR), (.int .i64 q :: L, obT), (S, 26)] (fun jj g2 => hP e0 _ _ _ _ _ _ _ _ _ _ _ _ S g2 hS) rfl (Nat.succ_pos 3) ⟨rfl, rfl, rfl, rfl, trivial⟩ ?_ (nd_k (by omega)) (by rfl)
    intro qq hq
    simp only [List.zip_cons_cons, List.zip_nil_right, List.mem_cons, List.not_mem_nil, or_false] at hq
    rcases hq with rfl | rfl | rfl | rfl
    · exact kept_k kV_still b0 _ (Nat.succ_pos 3)
    · exact kept_k SX b1 _ (Nat.succ_pos 3)
    · exact kept_k (cons_still SL) b2 _ (Nat.succ_pos 3)
    · exact kept_k hS b3 _ (Nat.succ_pos 3)
  · refine RunsW.preP (s' := []) [some (lP o n c), none, none, none, none, none, some obP, some (.slice (some ⟨3, 0, none⟩) s.length (dead + 2)), some (.int .i64 (j : Nat)), none, none, none, none, none, none, none] [0, 1, 2, b] [(kV, kT), (X, askR), (.int .i64 q :: L, obT), (seenC s, 35)] (fun jj g2 => hQ _ _ _ _ _ _ _ _ _ _ _ _ g2) rfl (Nat.succ_pos 3) ⟨rfl, rfl, rfl, rfl, trivial⟩ ?_ (nd_k (by omega)) (by rfl)
    intro qq hq
    simp only [List.zip_cons_cons, List.zip_nil_right, List.mem_cons, List.not_mem_nil, or_false] at hq
    rcases hq with rfl | rfl | rfl | rfl
    · exact kept_k kV_still b0 _ (Nat.succ_pos 3)
    · exact kept_k SX b1 _ (Nat.succ_pos 3)
    · exact kept_k (cons_still SL) b2 _ (Nat.succ_pos 3)
    · exact kept_k (seenC_still s) b3 _ (Nat.succ_pos 3)
/-- the memory made small -/
theorem canonN {T : Tab} {cd : Code} {P : Ex → Lf → Prop} {X : List Value} {o n c : Nat} {q : Int} {L : List Value} {s : List (Int × Int)} {j : Nat} {v12 : Value} {y : Lf} (SX : ∀ v ∈ X, still v = true) (SL : ∀ v ∈ L, still v = true) (h : TkAt X o n c q L s j .nilIface y)
    (hP : s = [] → ∀ u1 u2 u3 u4 u5 u9 u10 u11 u13 u14 u15 S g, (∀ v ∈ S, still v = true) → RunsW T cd (tkF (lP o n c) u1 u2 u3 u4 u5 obP (.slice none 0 0) (j : Nat) u9 u10 u11 .nilIface u13 u14 u15 ++ tl 129 g, h4 S 26 (.int .i64 q :: L) X, []) P)
    (hQ : ∀ u1 u2 u3 u4 u5 u9 u10 u11 u13 u14 u15 g, RunsW T cd (tkF (lP o n c) u1 u2 u3 u4 u5 obP (.slice (some ⟨3, 0, none⟩) s.length (dead + 2)) (j : Nat) u9 u10 u11 .nilIface u13 u14 u15 ++ tl 129 g, h4 (seenC s) 35 (.int .i64 q :: L) X, []) P) : RunsW T cd y P := by
  obtain ⟨u1, u2, u3, u4, u5, u9, u10, u11, u13, u14, u15, sv, g, h, sc, rfl, b0, b1, b2, hs⟩ := h
  rcases hs with ⟨e0, rfl, S, b3, hS⟩ | ⟨b, hb, rfl, b3⟩
  · refine RunsW.preP (s' := []) [some (lP o n c), none, none, none, none, none, some obP, some (.slice none 0 0), some (.int .i64 (j : Nat)), none, none, none, some .nilIface, none, none, none] [0, 1, 2, 3] [(kV, kT), (X, askR), (.int .i64 q :: L, obT), (S, 26)] (fun jj g2 => hP e0 _ _ _ _ _ _ _ _ _ _ _ S g2 hS) rfl (Nat.succ_pos 3) ⟨rfl, rfl, rfl, rfl, rfl, trivial⟩ ?_ (nd_k (by omega)) (by rfl)
    intro qq hq
    simp only [List.zip_cons_cons, List.zip_nil_right, List.mem_cons, List.not_mem_nil, or_false] at hq
    rcases hq with rfl | rfl | rfl | rfl
    · exact kept_k kV_still b0 _ (Nat.succ_pos 3)
    · exact kept_k SX b1 _ (Nat.succ_pos 3)
    · exact kept_k (cons_still SL) b2 _ (Nat.succ_pos 3)
    · exact kept_k hS b3 _ (Nat.succ_pos 3)
  · refine RunsW.preP (s' := []) [some (lP o n c), none, none, none, none, none, some obP, some (.slice (some ⟨3, 0, none⟩) s.length (dead + 2)), some (.int .i64 (j : Nat)), none, none, none, some .nilIface, none, none, none] [0, 1, 2, b] [(kV, kT), (X, askR), (.int .i64 q :: L, obT), (seenC s, 35)] (fun jj g2 => hQ _ _ _ _ _ _ _ _ _ _ _ g2) rfl (Nat.succ_pos 3) ⟨rfl, rfl, rfl, rfl, rfl, trivial⟩ ?_ (nd_k (by omega)) (by rfl)
    intro qq hq
    simp only [List.zip_cons_cons, List.zip_nil_right, List.mem_cons, List.not_mem_nil, or_false] at hq
    rcases hq with rfl | rfl | rfl | rfl
    · exact kept_k kV_still b0 _ (Nat.succ_pos 3)
    · exact kept_k SX b1 _ (Nat.succ_pos 3)
    · exact kept_k (cons_still SL) b2 _ (Nat.succ_pos 3)
    · exact kept_k (seenC_still s) b3 _ (Nat.succ_pos 3)
theorem tk_hP (o n c j : Nat) (u1 u2 u3 u4 u5 : Value) (u9 u10 u11 u13 u14 u15 : Value) (S L X : List Value) (q : Int) (g : Nat → Value) (sn : Nat) : GoesT (evC (tabH Tryd.prog extY conTK hcTK) 300 false (cFst (kH Tryd.f3)) (tkF (lP o n c) u1 u2 u3 u4 u5 obP (.slice none 0 0) (j : Nat) u9 u10 u11 .nilIface u13 u14 u15 ++ tl 129 g, h4 S 26 (.int .i64 q :: L) X, []) ⟨[], [], []⟩) 16 129 none (tkF (lP o n c) u1 u2 u3 u4 u5 obP (.slice none 0 0) (j : Nat) u9 u10 u11 .nilIface u13 u14 u15) (h4 S 26 (.int .i64 q :: L) X) [] := ⟨by kernel_rfl, by kernel_rfl, by kernel_rfl⟩
theorem tk_hbP (o n c j : Nat) (u1 u2 u3 u4 u5 : Value) (u9 u10 u11 u13 u14 u15 : Value) (S L X : List Value) (q : Int) (g : Nat → Value) (sn : Nat) : (evC (tabH Tryd.prog extY conTK hcTK) 300 false (cFst (kH Tryd.f3)) (tkF (lP o n c) u1 u2 u3 u4 u5 obP (.slice none 0 0) (j : Nat) u9 u10 u11 .nilIface u13 u14 u15 ++ tl 129 g, h4 S 26 (.int .i64 q :: L) X, []) ⟨[], [], []⟩).map (fun r => ev r.2.1.1 (.tmp 85)) = some (.bool true) := by kernel_rfl
theorem tk_hQ (o n c j : Nat) (u1 u2 u3 u4 u5 : Value) (u9 u10 u11 u13 u14 u15 : Value) (S L X : List Value) (q : Int) (g : Nat → Value) (sn : Nat) : GoesT (evC (tabH Tryd.prog extY conTK hcTK) 300 false (cFst (kH Tryd.f3)) (tkF (lP o n c) u1 u2 u3 u4 u5 obP (.slice (some ⟨3, 0, none⟩) sn (dead + 2)) (j : Nat) u9 u10 u11 .nilIface u13 u14 u15 ++ tl 129 g, h4 S 35 (.int .i64 q :: L) X, []) ⟨[], [], []⟩) 16 129 none (tkF (lP o n c) u1 u2 u3 u4 u5 obP (.slice (some ⟨3, 0, none⟩) sn (dead + 2)) (j : Nat) u9 u10 u11 .nilIface u13 u14 u15) (h4 S 35 (.int .i64 q :: L) X) [] := ⟨by kernel_rfl, by kernel_rfl, by kernel_rfl⟩
theorem tk_hbQ (o n c j : Nat) (u1 u2 u3 u4 u5 : Value) (u9 u10 u11 u13 u14 u15 : Value) (S L X : List Value) (q : Int) (g : Nat → Value) (sn : Nat) : (evC (tabH Tryd.prog extY conTK hcTK) 300 false (cFst (kH Tryd.f3)) (tkF (lP o n c) u1 u2 u3 u4 u5 obP (.slice (some ⟨3, 0, none⟩) sn (dead + 2)) (j : Nat) u9 u10 u11 .nilIface u13 u14 u15 ++ tl 129 g, h4 S 35 (.int .i64 q :: L) X, []) ⟨[], [], []⟩).map (fun r => ev r.2.1.1 (.tmp 85)) = some (.bool true) := by kernel_rfl
/-! the inner loop -/
section
variable {X : List Value} {o n c : Nat} {k m : Int} {j : Nat} (hj : j < n) (hk : X[o + j * 2]? = some (.int .i64 k)) (hm : X[o + (j * 2 + 1)]? = some (.int .i64 m))
theorem in_j (hj : j < n) : decide (0 ≤ ((j : Nat) : Int) ∧ ((j : Nat) : Int) < ((n : Nat) : Int)) = true := decide_eq_true (by omega)
def KFq (X : List Value) (o n c j : Nat) (u1 u2 u3 u4 u5 u9 u10 u11 u12 : Value) (q : Int) (L : List Value) (s : List (Int × Int)) (K : Int) (d : Bool) (x : Nat) (y : Lf) : Prop :=
  ∃ g, y.1 = tkF (lP o n c) u1 u2 u3 u4 u5 obP (.slice (some ⟨3, 0, none⟩) s.length (dead + 2)) (j : Nat) u9 u10 u11 u12 (.int .i64 K) (.bool d) (.int .i64 (x : Nat)) ++ tl 129 g ∧ y.2.1 = h4 (seenC s) 35 (.int .i64 q :: L) X
include hj hm in
theorem inner {u1 u2 u3 u4 u5 u9 u10 u11 u12 : Value} {q : Int} {L : List Value} {s : List (Int × Int)} (hs : s.length ≤ 100) {K : Int} {y : Lf} (h : KFq X o n c j u1 u2 u3 u4 u5 u9 u10 u11 u12 q L s K false 0 y) :
    RunsW (tabH Tryd.prog extY conTK hcTK) (.block 2 (.loop (kE Tryd.f3))) y fun ex z => ex = none ∧ KFq X o n c j u1 u2 u3 u4 u5 u9 u10 u11 u12 q L s K (decide ((K, m) ∈ s)) s.length z := by
  refine (RunsW.forLoop (R := fun _ => False) (P := KFq X o n c j u1 u2 u3 u4 u5 u9 u10 u11 u12 q L s K (decide ((K, m) ∈ s)) s.length) (fun r y => ∃ x, r = s.length - x ∧ x ≤ s.length ∧ KFq X o n c j u1 u2 u3 u4 u5 u9 u10 u11 u12 q L s K (decide ((K, m) ∈ s.take x)) x y) ?_ (n := s.length - 0) ⟨0, rfl, Nat.zero_le _, by simpa using h⟩).mono fun ex z hz => ?_
  · rintro r ⟨tt, hh, sc⟩ ⟨x, rfl, hx, g, e1, e2⟩
    simp only at e1 e2
    subst e1 e2
    by_cases c1 : x < s.length
    · have hw : IntKind.i64.wrap (((x : Nat) : Int) + 1) = ((x + 1 : Nat) : Int) := by
        rw [show IntKind.i64.wrap (((x : Nat) : Int) + 1) = ((x : Nat) : Int) + 1 from wrap_k (by omega) (by omega)]
        omega
      have tk : s.take (x + 1) = s.take x ++ [s[x]] := (List.take_append_getElem c1).symm
      cases d : decide ((K, m) ∈ s.take x) with
      | true =>
        refine (goesT_runsW (s0 := sc) tkT (tk_et o n c j u1 u2 u3 u4 u5 0 m u9 u10 u11 u12 undef undef undef (seenC s) L X q g s.length K x) (okP1 (decide_eq_true (by omega)))).mono fun ex z hz => ?_
        obtain ⟨rfl, ⟨g2, z1⟩, z2⟩ := hz
        refine ⟨s.length - (x + 1), by omega, x + 1, rfl, c1, g2, ?_, z2⟩
        rw [z1, hw, show decide ((K, m) ∈ s.take (x + 1)) = true from decide_eq_true (by rw [tk]; exact List.mem_append_left _ (of_decide_eq_true d))]
      | false =>
        refine (goesT_runsW (s0 := sc) tkT (tk_ef o n c j u1 u2 u3 u4 u5 0 m u9 u10 u11 u12 undef undef undef (seenC s) L X q g s.length K x s[x].1 s[x].2) (okPC (cell_k hm) (okPC (in_j hj) (okPC (seenC_at s x c1) (okPC (in_j c1) (okP1 (decide_eq_true (by omega)))))))).mono fun ex z hz => ?_
        obtain ⟨rfl, ⟨g2, z1⟩, z2⟩ := hz
        refine ⟨s.length - (x + 1), by omega, x + 1, rfl, c1, g2, ?_, z2⟩
        have hd : decide ((K, m) ∈ s.take (x + 1)) = (s[x].1 == K && (s[x].2 == m && true)) := by
          rw [eq_pair]
          have hn := of_decide_eq_false d
          refine decide_eq_decide.2 ?_
          rw [tk, List.mem_append, List.mem_singleton]
          exact ⟨fun e => e.resolve_left hn, fun e => .inr e⟩
        rw [z1, hw, hd]
    · have hx2 : x = s.length := by omega
      subst hx2
      refine (goesT_runsW (s0 := sc) tkT (tk_eo o n c j u1 u2 u3 u4 u5 0 m u9 u10 u11 u12 undef undef undef (seenC s) L X q g s.length K _ s.length) (okP1 (decide_eq_false (by omega)))).mono fun ex z hz => ?_
      obtain ⟨rfl, ⟨g2, z1⟩, z2⟩ := hz
      refine ⟨rfl, g2, ?_, z2⟩
      rw [z1, List.take_length]
  · match ex, hz with
    | none, hz => exact ⟨rfl, hz⟩
end
theorem tkAt_mk {X : List Value} {o n c : Nat} {q : Int} {L : List Value} {s : List (Int × Int)} {j : Nat} {u12 : Value} {u1 u2 u3 u4 u5 u9 u10 u11 u13 u14 u15 sv : Value} {g : Nat → Value} {z : Lf} (h1 : z.1 = tkF (lP o n c) u1 u2 u3 u4 u5 obP sv (j : Nat) u9 u10 u11 u12 u13 u14 u15 ++ tl 129 g) (b0 : z.2.1.blk? 0 = some (kV, kT)) (b1 : z.2.1.blk? 1 = some (X, askR)) (b2 : z.2.1.blk? 2 = some (.int .i64 q :: L, obT)) (hs : TkSeen s sv z.2.1) : TkAt X o n c q L s j u12 z :=
  ⟨u1, u2, u3, u4, u5, u9, u10, u11, u13, u14, u15, sv, g, z.2.1, z.2.2, by rw [← h1], b0, b1, b2, hs⟩
def grow (s : List (Int × Int)) (K m : Int) : List (Int × Int) := if (K, m) ∈ s then s else s ++ [(K, m)]
section
variable {X : List Value} {o n c : Nat} {k m : Int} {j : Nat} (hj : j < n) (hk : X[o + j * 2]? = some (.int .i64 k)) (hm : X[o + (j * 2 + 1)]? = some (.int .i64 m)) (SX : ∀ v ∈ X, still v = true)
theorem bad_bd {m : Int} (h : ¬ badP m) : 1 ≤ m ∧ m ≤ 67108864 := by unfold badP at h; omega
include hj hk hm SX in
theorem goodH (hg : ¬ badP m) {q : Int} {L : List Value} {s : List (Int × Int)} (hs : s.length ≤ 100) (SL : ∀ v ∈ L, still v = true) {y : Lf} (h : TkAt X o n c q L s j .nilIface y) :
    RunsW (tabH Tryd.prog extY conTK hcTK) (kH Tryd.f3) y fun ex z => ex = none ∧ ∃ u12, TkAt X o n c q L (grow s (k % m) m) j u12 z := by
  have mb := bad_bd hg
  have m0 : decide (m = 0) = false := decide_eq_false (by omega)
  have hw : k.tmod m < 0 → IntKind.i64.wrap (k.tmod m + m) = k % m := fun hn => by
    have e := tmod_neg (k := k) (m := m) (by omega) hn
    have := Int.emod_nonneg k (show m ≠ 0 by omega)
    have := Int.emod_lt_of_pos k (show 0 < m by omega)
    rw [e]
    exact wrap_k (by omega) (by omega)
  rw [kH_is]
  refine canonN (v12 := undef) SX SL h (fun hs0 u1 u2 u3 u4 u5 u9 u10 u11 u13 u14 u15 S g hS => ?_) (fun u1 u2 u3 u4 u5 u9 u10 u11 u13 u14 u15 g => ?_)
  · subst hs0
    have gr : grow [] (k % m) m = [(k % m, m)] := rfl
    refine RunsW.seq (goesB_runsW tkT (tk_hP o n c j u1 u2 u3 u4 u5 u9 u10 u11 u13 u14 u15 S L X q g 0) (tk_hbP o n c j u1 u2 u3 u4 u5 u9 u10 u11 u13 u14 u15 S L X q g 0) okNil) ?_ (fun ex y he => by cases he.1)
    rintro ⟨tt, hh, sc⟩ ⟨_, ⟨g1, e1⟩, e2, hb⟩
    simp only at e1 e2 hb
    subst e1 e2
    refine RunsW.cond true rfl hb ?_
    show RunsW (tabH Tryd.prog extY conTK hcTK) (kG Tryd.f3) _ _
    rw [kG_is]
    have mid : ∀ g2 sc, RunsW (tabH Tryd.prog extY conTK hcTK) (.seq (kD Tryd.f3) (kU Tryd.f3)) (tkF (lP o n c) u1 u2 u3 u4 u5 obP (.slice none 0 0) (j : Nat) u9 u10 u11 .nilIface (.int .i64 (k % m)) (.bool false) u15 ++ tl 129 g2, h4 S 26 (.int .i64 q :: L) X, sc) fun ex z => ex = none ∧ ∃ u12, TkAt X o n c q L (grow [] (k % m) m) j u12 z := by
      intro g2 sc
      rw [kD_is]
      refine RunsW.seq (P1 := fun ex y => ex = none ∧ (∃ g, y.1 = tkF (lP o n c) u1 u2 u3 u4 u5 obP (.slice none 0 0) (j : Nat) u9 u10 u11 .nilIface (.int .i64 (k % m)) (.bool false) (.int .i64 ((0 : Nat) : Int)) ++ tl 129 g) ∧ y.2.1 = h4 S 26 (.int .i64 q :: L) X) ?_ ?_ (fun ex y he => by cases he.1)
      · refine RunsW.seq (goesT_runsW (s0 := sc) tkT (tk_dP o n c j u1 u2 u3 u4 u5 k m u9 u10 u11 .nilIface _ _ u15 S L X q g2 0) okNil) ?_ (fun ex y he => by cases he.1)
        rintro ⟨tt, hh, sc⟩ ⟨_, ⟨g3, e1⟩, e2⟩
        simp only at e1 e2
        subst e1 e2
        refine (RunsW.forLoop (R := fun _ => False) (P := fun y => (∃ g, y.1 = tkF (lP o n c) u1 u2 u3 u4 u5 obP (.slice none 0 0) (j : Nat) u9 u10 u11 .nilIface (.int .i64 (k % m)) (.bool false) (.int .i64 ((0 : Nat) : Int)) ++ tl 129 g) ∧ y.2.1 = h4 S 26 (.int .i64 q :: L) X) (fun r y => (∃ g, y.1 = tkF (lP o n c) u1 u2 u3 u4 u5 obP (.slice none 0 0) (j : Nat) u9 u10 u11 .nilIface (.int .i64 (k % m)) (.bool false) (.int .i64 ((0 : Nat) : Int)) ++ tl 129 g) ∧ y.2.1 = h4 S 26 (.int .i64 q :: L) X) ?_ (n := 0) ⟨⟨g3, rfl⟩, rfl⟩).mono fun ex z hz => ?_
        · rintro r ⟨tt, hh, sc⟩ ⟨⟨g4, e1⟩, e2⟩
          simp only at e1 e2
          subst e1 e2
          refine (goesT_runsW (s0 := sc) tkT (tk_eoP o n c j u1 u2 u3 u4 u5 k m u9 u10 u11 .nilIface undef undef undef S L X q g4 0 (k % m) false 0) (okP1 (by decide))).mono fun ex z hz => ?_
          obtain ⟨rfl, z1, z2⟩ := hz
          exact ⟨rfl, z1, z2⟩
        · match ex, hz with
          | none, hz => exact ⟨rfl, hz⟩
      · rintro ⟨tt, hh, sc⟩ ⟨_, ⟨g3, e1⟩, e2⟩
        simp only at e1 e2
        subst e1 e2
        refine (goesT_runsW (s0 := sc) tkT (tk_un o n c j u1 u2 u3 u4 u5 k m u9 u10 u11 .nilIface undef undef (.int .i64 ((0 : Nat) : Int)) S L X q g3 0 (k % m)) (okPC (cell_k hm) (okP1 (in_j hj)))).mono fun ex z hz => ?_
        obtain ⟨rfl, ⟨g4, z1⟩, z2⟩ := hz
        refine ⟨rfl, .nilIface, tkAt_mk z1 (by rw [z2]; rfl) (by rw [z2]; rfl) (by rw [z2]; rfl) (.inr ⟨5, by omega, rfl, by rw [z2, gr]; rfl⟩)⟩
    by_cases hneg : k.tmod m < 0
    · refine goesT_listW tkT (tk_i1P o n c j u1 u2 u3 u4 u5 k m u9 u10 u11 .nilIface u13 u14 u15 S L X q g1 0) (okPC (cell_k hm) (okPC (in_j hj) (okPC (decide_eq_true hneg) (okPC m0 (okPC (cell_k hm) (okPC (in_j hj) (okPC (cell_k hk) (okP1 (in_j hj))))))))) fun g2 => ?_
      rw [hw hneg]
      exact mid g2 _
    · refine goesT_listW tkT (tk_i0P o n c j u1 u2 u3 u4 u5 k m u9 u10 u11 .nilIface u13 u14 u15 S L X q g1 0) (okPC (decide_eq_false hneg) (okPC m0 (okPC (cell_k hm) (okPC (in_j hj) (okPC (cell_k hk) (okP1 (in_j hj))))))) fun g2 => ?_
      rw [tmod_pos (k := k) (m := m) (by omega) hneg]
      exact mid g2 _
  · refine RunsW.seq (goesB_runsW tkT (tk_hQ o n c j u1 u2 u3 u4 u5 u9 u10 u11 u13 u14 u15 (seenC s) L X q g s.length) (tk_hbQ o n c j u1 u2 u3 u4 u5 u9 u10 u11 u13 u14 u15 (seenC s) L X q g s.length) okNil) ?_ (fun ex y he => by cases he.1)
    rintro ⟨tt, hh, sc⟩ ⟨_, ⟨g1, e1⟩, e2, hb⟩
    simp only at e1 e2 hb
    subst e1 e2
    refine RunsW.cond true rfl hb ?_
    show RunsW (tabH Tryd.prog extY conTK hcTK) (kG Tryd.f3) _ _
    rw [kG_is]
    have mid : ∀ g2 sc, RunsW (tabH Tryd.prog extY conTK hcTK) (.seq (kD Tryd.f3) (kU Tryd.f3)) (tkF (lP o n c) u1 u2 u3 u4 u5 obP (.slice (some ⟨3, 0, none⟩) s.length (dead + 2)) (j : Nat) u9 u10 u11 .nilIface (.int .i64 (k % m)) (.bool false) u15 ++ tl 129 g2, h4 (seenC s) 35 (.int .i64 q :: L) X, sc) fun ex z => ex = none ∧ ∃ u12, TkAt X o n c q L (grow s (k % m) m) j u12 z := by
      intro g2 sc
      rw [kD_is]
      refine RunsW.seq (P1 := fun ex y => ex = none ∧ KFq X o n c j u1 u2 u3 u4 u5 u9 u10 u11 .nilIface q L s (k % m) (decide ((k % m, m) ∈ s)) s.length y) ?_ ?_ (fun ex y he => by cases he.1)
      · refine RunsW.seq (goesT_runsW (s0 := sc) tkT (tk_dQ o n c j u1 u2 u3 u4 u5 k m u9 u10 u11 .nilIface _ _ u15 (seenC s) L X q g2 s.length) okNil) ?_ (fun ex y he => by cases he.1)
        rintro ⟨tt, hh, sc⟩ ⟨_, ⟨g3, e1⟩, e2⟩
        simp only at e1 e2
        subst e1 e2
        exact inner hj hm hs ⟨g3, rfl, rfl⟩
      · rintro ⟨tt, hh, sc⟩ ⟨_, g3, e1, e2⟩
        simp only at e1 e2
        subst e1 e2
        by_cases hin : (k % m, m) ∈ s
        · rw [decide_eq_true hin]
          refine (goesT_runsW (s0 := sc) tkT (tk_utQ o n c j u1 u2 u3 u4 u5 k m u9 u10 u11 .nilIface _ undef _ (seenC s) L X q g3 s.length) okNil).mono fun ex z hz => ?_
          obtain ⟨rfl, ⟨g4, z1⟩, z2⟩ := hz
          refine ⟨rfl, .nilIface, tkAt_mk z1 (by rw [z2]; rfl) (by rw [z2]; rfl) (by rw [z2]; rfl) (.inr ⟨3, by omega, ?_, ?_⟩)⟩
          · rw [show grow s (k % m) m = s from if_pos hin]
          · rw [z2, show grow s (k % m) m = s from if_pos hin]; rfl
        · rw [decide_eq_false hin]
          have hb2 : (bndK s.length 1 && true && Nat.beq (s.length * 2) (seenC s).length && !ro 35 && Nat.beq 35 35) = true := by
            rw [seenC_len, show Nat.beq (s.length * 2) (s.length * 2) = true from Nat.beq_refl _, show bndK s.length 1 = true from by
              unfold bndK
              rw [Nat.ble_eq_true_of_le (show s.length + 1 ≤ 1073741824 by omega)]
              rfl]
            rfl
          refine (goesT_runsW (s0 := sc) tkT (tk_uq o n c j u1 u2 u3 u4 u5 k m u9 u10 u11 .nilIface undef undef _ (seenC s) L X q g3 s.length (k % m)) (okPC hb2 (okPC (cell_k hm) (okP1 (in_j hj))))).mono fun ex z hz => ?_
          obtain ⟨rfl, ⟨g4, z1⟩, z2⟩ := hz
          refine ⟨rfl, .nilIface, tkAt_mk z1 (by rw [z2]; rfl) (by rw [z2]; rfl) (by rw [z2]; rfl) (.inr ⟨5, by omega, ?_, ?_⟩)⟩
          · rw [show grow s (k % m) m = s ++ [(k % m, m)] from if_neg hin, List.length_append]
            rfl
          · rw [z2, show grow s (k % m) m = s ++ [(k % m, m)] from if_neg hin, seenC_app]
            rfl
    by_cases hneg : k.tmod m < 0
    · refine goesT_listW tkT (tk_i1Q o n c j u1 u2 u3 u4 u5 k m u9 u10 u11 .nilIface u13 u14 u15 (seenC s) L X q g1 s.length) (okPC (cell_k hm) (okPC (in_j hj) (okPC (decide_eq_true hneg) (okPC m0 (okPC (cell_k hm) (okPC (in_j hj) (okPC (cell_k hk) (okP1 (in_j hj))))))))) fun g2 => ?_
      rw [hw hneg]
      exact mid g2 _
    · refine goesT_listW tkT (tk_i0Q o n c j u1 u2 u3 u4 u5 k m u9 u10 u11 .nilIface u13 u14 u15 (seenC s) L X q g1 s.length) (okPC (decide_eq_false hneg) (okPC m0 (okPC (cell_k hm) (okPC (in_j hj) (okPC (cell_k hk) (okP1 (in_j hj))))))) fun g2 => ?_
      rw [tmod_pos (k := k) (m := m) (by omega) hneg]
      exact mid g2 _
end
end Go.Proofs.YtdlpffgekmidnabDoor
