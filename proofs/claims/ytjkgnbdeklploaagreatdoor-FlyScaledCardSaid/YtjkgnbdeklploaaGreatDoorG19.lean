/-
  ConVD, ConVE, ConVF, RfA, RfN, RfB, R16, RfC
-/
import Derived.Test.YtjkgnbdeklploaaGreatDoorG18
namespace Go.Proofs.YtjkgnbdeklploaaGreatDoor
open Go.KRun Go.Nt
set_option maxRecDepth 100000
def rB (F : Func) : Code := cSnd (cSnd (cSnd (cSnd (cBody F))))
def rPr (F : Func) : List Code := [cFst (cBody F), cFst (cSnd (cBody F)), cFst (cSnd (cSnd (cBody F))), cFst (cSnd (cSnd (cSnd (cBody F))))]
def rR5 (F : Func) : Code := cFst (cFst (rB F))
def rL1 (F : Func) : Code := cIn (cIn (cSnd (cFst (rB F))))
def rC (F : Func) : Code := cSnd (rB F)
def rIf (F : Func) : Code := cFst (rC F)
def rR11 (F : Func) : Code := cFst (cSnd (rC F))
def rD (F : Func) : Code := cSnd (cSnd (rC F))
def rR12 (F : Func) : Code := cFst (cFst (rD F))
def rL2 (F : Func) : Code := cIn (cIn (cSnd (cFst (rD F))))
def rR16 (F : Func) : Code := cFst (cSnd (rD F))
def rR17 (F : Func) : Code := cFst (cSnd (cSnd (rD F)))
def rE (F : Func) : Code := cSnd (cSnd (cSnd (rD F)))
def rR18 (F : Func) : Code := cFst (cFst (rE F))
def rL3 (F : Func) : Code := cIn (cIn (cSnd (cFst (rE F))))
def rEn (F : Func) : Code := cSnd (rE F)
theorem ushr_body : Tryz.f65.body = some (seqs (rPr Tryz.f65) (.seq (.seq (rR5 Tryz.f65) (.block 0 (.loop (rL1 Tryz.f65)))) (.seq (rIf Tryz.f65) (.seq (rR11 Tryz.f65) (.seq (.seq (rR12 Tryz.f65) (.block 2 (.loop (rL2 Tryz.f65)))) (.seq (rR16 Tryz.f65) (.seq (rR17 Tryz.f65) (.seq (.seq (rR18 Tryz.f65) (.block 4 (.loop (rL3 Tryz.f65)))) (rEn Tryz.f65))))))))) := by kernel_rfl
theorem ushr_body1 : Tryz.f65.body = some (cBody Tryz.f65) := by kernel_rfl
theorem usr_pre (p : Option Addr) (n c : Nat) (k : Int) (h : Hp) : GoesT (evL (tabH Tryz.prog extY conN hcV) 100 (rPr Tryz.f65) ([.slice p n c, .int .i64 k] ++ List.replicate 87 undef, h, [cmp false]) ⟨[], [], []⟩) 8 81 none [.slice p n c, .int .i64 k, undef, undef, nilS, .bool false, .bool false, .int .i64 (k16 k)] h [(decide (k ≤ 0), false)] := ⟨by kernel_rfl, by kernel_rfl, by kernel_rfl⟩
theorem usr_r5 (a : Value) (k b : Int) (h : Hp) (g : Nat → Value) : GoesT (evC (tabH Tryz.prog extY conN hcV) 100 false (rR5 Tryz.f65) ([a, .int .i64 k, undef, undef, nilS, .bool false, .bool false, .int .i64 b] ++ tl 81 g, h, []) ⟨[], [], []⟩) 9 80 none [a, .int .i64 k, undef, undef, nilS, .bool false, .bool false, .int .i64 b, .int .i64 0] h [] := ⟨by kernel_rfl, by kernel_rfl, by kernel_rfl⟩
theorem usr_l1t (p : Option Addr) (n c : Nat) (k b i : Int) (h : Hp) (g : Nat → Value) : GoesT (evC (tabH Tryz.prog extY conN hcV) 100 false (rL1 Tryz.f65) ([.slice p n c, .int .i64 k, undef, undef, nilS, .bool false, .bool true, .int .i64 b, .int .i64 i] ++ tl 80 g, h, [cmp true, cmp true]) ⟨[], [], []⟩) 9 80 none [.slice p n c, .int .i64 k, undef, undef, nilS, .bool false, .bool true, .int .i64 b, .int .i64 (IntKind.i64.wrap (i + 1))] h [(decide (i < n), true), (decide (i < b), true)] := ⟨by kernel_rfl, by kernel_rfl, by kernel_rfl⟩
theorem usr_l1f (o n c : Nat) (k b i x : Int) (l : List Value) (d : Bool) (g : Nat → Value) : GoesT (evC (tabH Tryz.prog extY conN hcV) 100 false (rL1 Tryz.f65) ([sl 0 o n c, .int .i64 k, undef, undef, nilS, .bool false, .bool false, .int .i64 b, .int .i64 i] ++ tl 80 g, ⟨1, [(l, tR)]⟩, [cmp true, cmp true, at_, val (.int .u32 x), cmp d]) ⟨[], [], []⟩) 9 80 none [sl 0 o n c, .int .i64 k, undef, undef, nilS, .bool false, .bool d, .int .i64 b, .int .i64 (IntKind.i64.wrap (i + 1))] ⟨1, [(l, tR)]⟩ [(x != 0, d), (cellIs (l[o + i.toNat * 1]?) (.int .u32 x), true), (decide (0 ≤ i ∧ i < n), true), (decide (i < n), true), (decide (i < b), true)] := ⟨by kernel_rfl, by kernel_rfl, by kernel_rfl⟩
theorem usr_o1a (p : Option Addr) (n c : Nat) (k b i : Int) (e : Bool) (h : Hp) (g : Nat → Value) : GoesT (evC (tabH Tryz.prog extY conN hcV) 100 false (rL1 Tryz.f65) ([.slice p n c, .int .i64 k, undef, undef, nilS, .bool false, .bool e, .int .i64 b, .int .i64 i] ++ tl 80 g, h, [cmp false]) ⟨[], [], []⟩) 9 80 (some (some 0)) [.slice p n c, .int .i64 k, undef, undef, nilS, .bool false, .bool e, .int .i64 b, .int .i64 i] h [(decide (i < b), false)] := ⟨by kernel_rfl, by kernel_rfl, by kernel_rfl⟩
theorem usr_o1b (p : Option Addr) (n c : Nat) (k b i : Int) (e : Bool) (h : Hp) (g : Nat → Value) : GoesT (evC (tabH Tryz.prog extY conN hcV) 100 false (rL1 Tryz.f65) ([.slice p n c, .int .i64 k, undef, undef, nilS, .bool false, .bool e, .int .i64 b, .int .i64 i] ++ tl 80 g, h, [cmp true, cmp false]) ⟨[], [], []⟩) 9 80 (some (some 0)) [.slice p n c, .int .i64 k, undef, undef, nilS, .bool false, .bool e, .int .i64 b, .int .i64 i] h [(decide (i < n), false), (decide (i < b), true)] := ⟨by kernel_rfl, by kernel_rfl, by kernel_rfl⟩
theorem usr_ift (p : Option Addr) (n c : Nat) (k b i : Int) (e : Bool) (h : Hp) (g : Nat → Value) : GoesT (evC (tabH Tryz.prog extY conN hcV) 100 false (rIf Tryz.f65) ([.slice p n c, .int .i64 k, undef, undef, nilS, .bool false, .bool e, .int .i64 b, .int .i64 i] ++ tl 80 g, h, [cmp true]) ⟨[], [], []⟩) 6 83 (some none) [.slice p n c, .int .i64 k, undef, undef, nilS, .bool e] h [(decide (b ≥ n), true)] := ⟨by kernel_rfl, by kernel_rfl, by kernel_rfl⟩
theorem usr_iff (p : Option Addr) (n c : Nat) (k b i : Int) (e : Bool) (h : Hp) (g : Nat → Value) : GoesT (evC (tabH Tryz.prog extY conN hcV) 100 false (rIf Tryz.f65) ([.slice p n c, .int .i64 k, undef, undef, nilS, .bool false, .bool e, .int .i64 b, .int .i64 i] ++ tl 80 g, h, [cmp false]) ⟨[], [], []⟩) 9 80 none [.slice p n c, .int .i64 k, undef, undef, nilS, .bool false, .bool e, .int .i64 b, .int .i64 i] h [(decide (b ≥ n), false)] := ⟨by kernel_rfl, by kernel_rfl, by kernel_rfl⟩
theorem usr_r11 (a : Value) (k b i : Int) (e : Bool) (h : Hp) (g : Nat → Value) : GoesT (evC (tabH Tryz.prog extY conN hcV) 100 false (rR11 Tryz.f65) ([a, .int .i64 k, undef, undef, nilS, .bool false, .bool e, .int .i64 b, .int .i64 i] ++ tl 80 g, h, []) ⟨[], [], []⟩) 10 79 none [a, .int .i64 k, undef, undef, nilS, .bool false, .bool e, .int .i64 b, .int .i64 i, .int .u32 1] h [] := ⟨by kernel_rfl, by kernel_rfl, by kernel_rfl⟩
theorem usr_r12 (a : Value) (k b i : Int) (e : Bool) (h : Hp) (g : Nat → Value) : GoesT (evC (tabH Tryz.prog extY conN hcV) 100 false (rR12 Tryz.f65) ([a, .int .i64 k, undef, undef, nilS, .bool false, .bool e, .int .i64 b, .int .i64 i, .int .u32 1] ++ tl 79 g, h, []) ⟨[], [], []⟩) 11 78 none [a, .int .i64 k, undef, undef, nilS, .bool false, .bool e, .int .i64 b, .int .i64 i, .int .u32 1, .int .i64 0] h [] := ⟨by kernel_rfl, by kernel_rfl, by kernel_rfl⟩
theorem usr_l2 (a : Value) (k b u i q : Int) (e : Bool) (h : Hp) (g : Nat → Value) : GoesT (evC (tabH Tryz.prog extY conN hcV) 100 false (rL2 Tryz.f65) ([a, .int .i64 k, undef, undef, nilS, .bool false, .bool e, .int .i64 b, .int .i64 u, .int .u32 q, .int .i64 i] ++ tl 78 g, h, [cmp true, cmp true]) ⟨[], [], []⟩) 11 78 none [a, .int .i64 k, undef, undef, nilS, .bool false, .bool e, .int .i64 b, .int .i64 u, .int .u32 (IntKind.u32.wrap (2 * q)), .int .i64 (IntKind.i64.wrap (i + 1))] h [(decide (i < k.tmod 16), true), (decide ((16 : Int) = 0), false)] := ⟨by kernel_rfl, by kernel_rfl, by kernel_rfl⟩
theorem usr_o2 (a : Value) (k b u i q : Int) (e : Bool) (h : Hp) (g : Nat → Value) : GoesT (evC (tabH Tryz.prog extY conN hcV) 100 false (rL2 Tryz.f65) ([a, .int .i64 k, undef, undef, nilS, .bool false, .bool e, .int .i64 b, .int .i64 u, .int .u32 q, .int .i64 i] ++ tl 78 g, h, [cmp true, cmp false]) ⟨[], [], []⟩) 11 78 (some (some 2)) [a, .int .i64 k, undef, undef, nilS, .bool false, .bool e, .int .i64 b, .int .i64 u, .int .u32 q, .int .i64 i] h [(decide (i < k.tmod 16), false), (decide ((16 : Int) = 0), false)] := ⟨by kernel_rfl, by kernel_rfl, by kernel_rfl⟩
theorem usr_16t (a : Value) (k b u i q : Int) (h : Hp) (g : Nat → Value) : GoesT (evC (tabH Tryz.prog extY conN hcV) 100 false (rR16 Tryz.f65) ([a, .int .i64 k, undef, undef, nilS, .bool false, .bool true, .int .i64 b, .int .i64 u, .int .u32 q, .int .i64 i] ++ tl 78 g, h, []) ⟨[], [], []⟩) 11 78 none [a, .int .i64 k, undef, undef, nilS, .bool false, .bool true, .int .i64 b, .int .i64 u, .int .u32 q, .int .i64 i] h [] := ⟨by kernel_rfl, by kernel_rfl, by kernel_rfl⟩
theorem usr_16f (o n c : Nat) (k b u i q x : Int) (l : List Value) (d : Bool) (g : Nat → Value) : GoesT (evC (tabH Tryz.prog extY conN hcV) 100 false (rR16 Tryz.f65) ([sl 0 o n c, .int .i64 k, undef, undef, nilS, .bool false, .bool false, .int .i64 b, .int .i64 u, .int .u32 q, .int .i64 i] ++ tl 78 g, ⟨1, [(l, tR)]⟩, [at_, val (.int .u32 x), cmp false, cmp d]) ⟨[], [], []⟩) 11 78 none [sl 0 o n c, .int .i64 k, undef, undef, nilS, .bool false, .bool d, .int .i64 b, .int .i64 u, .int .u32 q, .int .i64 i] ⟨1, [(l, tR)]⟩ [(x.tmod q != 0, d), (decide (q = 0), false), (cellIs (l[o + b.toNat * 1]?) (.int .u32 x), true), (decide (0 ≤ b ∧ b < n), true)] := ⟨by kernel_rfl, by kernel_rfl, by kernel_rfl⟩
theorem usr_r17 (a : Value) (k b u i q : Int) (e : Bool) (h : Hp) (g : Nat → Value) : GoesT (evC (tabH Tryz.prog extY conN hcV) 100 false (rR17 Tryz.f65) ([a, .int .i64 k, undef, undef, nilS, .bool false, .bool e, .int .i64 b, .int .i64 u, .int .u32 q, .int .i64 i] ++ tl 78 g, h, []) ⟨[], [], []⟩) 12 77 none [a, .int .i64 k, undef, undef, nilS, .bool false, .bool e, .int .i64 b, .int .i64 u, .int .u32 q, .int .i64 i, nilS] h [] := ⟨by kernel_rfl, by kernel_rfl, by kernel_rfl⟩
theorem usr_r18 (a : Value) (k b u i q : Int) (e : Bool) (h : Hp) (g : Nat → Value) : GoesT (evC (tabH Tryz.prog extY conN hcV) 100 false (rR18 Tryz.f65) ([a, .int .i64 k, undef, undef, nilS, .bool false, .bool e, .int .i64 b, .int .i64 u, .int .u32 q, .int .i64 i, nilS] ++ tl 77 g, h, []) ⟨[], [], []⟩) 13 76 none [a, .int .i64 k, undef, undef, nilS, .bool false, .bool e, .int .i64 b, .int .i64 u, .int .u32 q, .int .i64 i, nilS, .int .i64 b] h [] := ⟨by kernel_rfl, by kernel_rfl, by kernel_rfl⟩
theorem usr_o3 (p : Option Addr) (n c : Nat) (v : Value) (k b u u2 i q : Int) (e : Bool) (h : Hp) (g : Nat → Value) : GoesT (evC (tabH Tryz.prog extY conN hcV) 100 false (rL3 Tryz.f65) ([.slice p n c, .int .i64 k, undef, undef, nilS, .bool false, .bool e, .int .i64 b, .int .i64 u, .int .u32 q, .int .i64 u2, v, .int .i64 i] ++ tl 76 g, h, [cmp false]) ⟨[], [], []⟩) 13 76 (some (some 4)) [.slice p n c, .int .i64 k, undef, undef, nilS, .bool false, .bool e, .int .i64 b, .int .i64 u, .int .u32 q, .int .i64 u2, v, .int .i64 i] h [(decide (i < n), false)] := ⟨by kernel_rfl, by kernel_rfl, by kernel_rfl⟩
def dwn (h : Hp) (o n : Nat) (i q q1 q2 : Int) : Int := IntKind.u32.wrap (q1 + IntKind.u32.wrap ((atN (rowOf h (some ⟨0, o, none⟩) n) (IntKind.i64.wrap (i + 1))).tmod q * q2))
def lDw (h : Hp) (l : List Value) (o n c : Nat) (i q x q1 q2 : Int) : Log := [(decide (q = 0), false), (rowP h (some ⟨0, o, none⟩) n c, true), (decide (q = 0), false), (decide (IntKind.u32.wrap (Int.tdiv 65536 q) = q2), true), (decide (q = 0), false), (decide (IntKind.u32.wrap (x.tdiv q) = q1), true), (cellIs (l[o + i.toNat * 1]?) (.int .u32 x), true), (decide (0 ≤ i ∧ i < n), true), (decide (i < n), true)]
theorem usr_fst (o n c : Nat) (k b u u2 i q x q1 q2 : Int) (e : Bool) (l : List Value) (g : Nat → Value) : GoesT (evC (tabH Tryz.prog extY conN hcV) 100 false (rL3 Tryz.f65) ([sl 0 o n c, .int .i64 k, undef, undef, nilS, .bool false, .bool e, .int .i64 b, .int .i64 u, .int .u32 q, .int .i64 u2, nilS, .int .i64 i] ++ tl 76 g, ⟨1, [(l, tR)]⟩, [cmp true, at_, val (.int .u32 x), num q1, num q2, cmp false]) ⟨[], [], []⟩) 13 76 none [sl 0 o n c, .int .i64 k, undef, undef, nilS, .bool false, .bool e, .int .i64 b, .int .i64 u, .int .u32 q, .int .i64 u2, sl 2 0 1 grown, .int .i64 (IntKind.i64.wrap (i + 1))] ⟨3, [([.int .u32 (dwn ⟨1, [(l, tR)]⟩ o n i q q1 q2)], tU), ([.int .u32 (dwn ⟨1, [(l, tR)]⟩ o n i q q1 q2)], tU), (l, tR)]⟩ (lDw ⟨1, [(l, tR)]⟩ l o n c i q x q1 q2) := ⟨by kernel_rfl, by kernel_rfl, by kernel_rfl⟩
theorem usr_nxt (o n c z : Nat) (k b u u2 i q x q1 q2 : Int) (e : Bool) (l lo : List Value) (g : Nat → Value) : GoesT (evC (tabH Tryz.prog extY conN hcV) 100 false (rL3 Tryz.f65) ([sl 0 o n c, .int .i64 k, undef, undef, nilS, .bool false, .bool e, .int .i64 b, .int .i64 u, .int .u32 q, .int .i64 u2, sl 1 0 z grown, .int .i64 i] ++ tl 76 g, ⟨2, [(lo, tU), (l, tR)]⟩, [cmp true, at_, val (.int .u32 x), num q1, num q2, cmp false, at_]) ⟨[], [], []⟩) 13 76 none [sl 0 o n c, .int .i64 k, undef, undef, nilS, .bool false, .bool e, .int .i64 b, .int .i64 u, .int .u32 q, .int .i64 u2, sl 3 0 (z + 1) grown, .int .i64 (IntKind.i64.wrap (i + 1))] ⟨4, [(lo ++ [.int .u32 (dwn ⟨2, [(lo, tU), (l, tR)]⟩ o n i q q1 q2)], tU), ([.int .u32 (dwn ⟨2, [(lo, tU), (l, tR)]⟩ o n i q q1 q2)], tU), ([], 2 * dead), (l, tR)]⟩ ((appChk tU (lo, tU) ([.int .u32 (dwn ⟨2, [(lo, tU), (l, tR)]⟩ o n i q q1 q2)], tU) z 0 1, true) :: lDw ⟨2, [(lo, tU), (l, tR)]⟩ l o n c i q x q1 q2) := ⟨by kernel_rfl, by kernel_rfl, by kernel_rfl⟩
theorem usr_end (a : Value) (k b u u2 q u3 : Int) (e : Bool) (z : Nat) (x : List Value × TypeId) (lo : List Value) (g : Nat → Value) : GoesT (evC (tabH Tryz.prog extY conN hcV) 100 false (rEn Tryz.f65) ([a, .int .i64 k, undef, undef, nilS, .bool false, .bool e, .int .i64 b, .int .i64 u, .int .u32 q, .int .i64 u2, sl 1 0 z grown, .int .i64 u3] ++ tl 76 g, ⟨2, [(lo, tU), x]⟩, []) ⟨[], [], []⟩) 6 83 (some none) [a, .int .i64 k, undef, undef, sl 1 0 (trimN (cutI lo 0 z)) (trimN (cutI lo 0 z)), .bool e] ⟨2, [(lo, tU), x]⟩ [(rowC tU lo 0 z grown, true)] := ⟨by kernel_rfl, by kernel_rfl, by kernel_rfl⟩
theorem usr_empty (p : Option Addr) (c : Nat) (k : Int) (h : Hp) : GoesT (evC (tabH Tryz.prog extY conN hcV) 100 false (cBody Tryz.f65) ([.slice p 0 c, .int .i64 k] ++ List.replicate 87 undef, h, [cmp false, cmp true, cmp false, cmp true]) ⟨[], [], []⟩) 6 83 (some none) [.slice p 0 c, .int .i64 k, undef, undef, nilS, .bool false] h [(decide (k16 k ≥ ((0 : Nat) : Int)), true), (decide ((0 : Int) < ((0 : Nat) : Int)), false), (decide (0 < k16 k), true), (decide (k ≤ 0), false)] := ⟨by kernel_rfl, by kernel_rfl, by kernel_rfl⟩
theorem usr_empty0 (p : Option Addr) (c : Nat) (k : Int) (h : Hp) : GoesT (evC (tabH Tryz.prog extY conN hcV) 100 false (cBody Tryz.f65) ([.slice p 0 c, .int .i64 k] ++ List.replicate 87 undef, h, [cmp false, cmp false, cmp true]) ⟨[], [], []⟩) 6 83 (some none) [.slice p 0 c, .int .i64 k, undef, undef, nilS, .bool false] h [(decide (k16 k ≥ ((0 : Nat) : Int)), true), (decide (0 < k16 k), false), (decide (k ≤ 0), false)] := ⟨by kernel_rfl, by kernel_rfl, by kernel_rfl⟩
section
variable {l : List Value} {o c : Nat} {A : List Int}
theorem lost_take (A : List Int) (j : Nat) : vb 65536 (A.take (j + 1)) = vb 65536 (A.take j) + 65536 ^ j * dgN A j := vb_take 65536 A j
theorem ushr_loop1 (hR : Row l o A) (hA : ∀ x ∈ A, Dg 65536 x) (hn : A.length < 1073741824) (k : Int) {z : Nat} (hz : z < 4611686018427387904) (g : Nat → Value) :
    Runs (tabH Tryz.prog extY conN hcV) (.block 0 (.loop (rL1 Tryz.f65))) ([sl 0 o A.length c, .int .i64 k, undef, undef, nilS, .bool false, .bool false, .int .i64 (z : Nat), .int .i64 0] ++ tl 80 g, ⟨1, [(l, tR)]⟩, []) fun e Y => match e with | none => (∃ g u, Y.1 = [sl 0 o A.length c, .int .i64 k, undef, undef, nilS, .bool false, .bool (decide (vb 65536 (A.take z) ≠ 0)), .int .i64 (z : Nat), .int .i64 u] ++ tl 80 g) ∧ Y.2.1 = ⟨1, [(l, tR)]⟩ | some none => False | some (some _) => False := by
  refine Runs.forLoop (P := fun Y => (∃ g u, Y.1 = [sl 0 o A.length c, .int .i64 k, undef, undef, nilS, .bool false, .bool (decide (vb 65536 (A.take z) ≠ 0)), .int .i64 (z : Nat), .int .i64 u] ++ tl 80 g) ∧ Y.2.1 = ⟨1, [(l, tR)]⟩) (R := fun _ => False)
    (fun m Y => ∃ j : Nat, j ≤ z ∧ j ≤ A.length ∧ m = A.length - j ∧ (∃ g, Y.1 = [sl 0 o A.length c, .int .i64 k, undef, undef, nilS, .bool false, .bool (decide (vb 65536 (A.take j) ≠ 0)), .int .i64 (z : Nat), .int .i64 (j : Nat)] ++ tl 80 g) ∧ Y.2.1 = ⟨1, [(l, tR)]⟩) ?_ (n := A.length) ⟨0, by omega, by omega, by omega, ⟨g, by simp [vb]⟩, rfl⟩
  rintro m ⟨t, h', s⟩ ⟨j, hj, hj', hm, ⟨g, ht⟩, hh⟩
  simp only at ht hh
  subst ht hh
  have e2 : IntKind.i64.wrap ((j : Int) + 1) = ((j + 1 : Nat) : Int) := by rw [wrapI (by omega) (by omega)]; omega
  have hs := lost_take A j
  have hp : 0 < 65536 ^ j := Nat.pow_pos (by omega)
  by_cases h1 : j < z
  · by_cases h2 : j < A.length
    · have hd := dgN_lt hA j
      by_cases h0 : vb 65536 (A.take j) = 0
      · have ef : decide (vb 65536 (A.take j) ≠ 0) = false := decide_eq_false (by omega)
        rw [ef]
        refine (goesT_runs (tabH_ok conN_ok hcV_ok) (usr_l1f o A.length c k z j (A.getD j 0) l (A.getD j 0 != 0) g) (okTwo rfl (okTwo (by rw [Int.toNat_natCast, Nat.mul_one, hR.cell h2]; simp [cellIs]) (okTwo (decide_eq_true (by omega)) (okTwo (decide_eq_true (by omega)) (okOne (decide_eq_true (by omega)))))))).mono fun e w hw => ?_
        obtain ⟨rfl, ⟨g', z1⟩, z2⟩ := hw
        have e3 : (A.getD j 0 != 0) = decide (vb 65536 (A.take (j + 1)) ≠ 0) := by
          rw [hs, h0, Nat.zero_add, ← hd.2, Bool.eq_iff_iff]
          simp only [bne_iff_ne, ne_eq, decide_eq_true_eq, Nat.mul_eq_zero]
          omega
        exact ⟨A.length - (j + 1), by omega, j + 1, by omega, by omega, rfl, ⟨g', by rw [z1, e2, e3]⟩, z2⟩
      · have ef : decide (vb 65536 (A.take j) ≠ 0) = true := decide_eq_true h0
        rw [ef]
        refine (goesT_runs (tabH_ok conN_ok hcV_ok) (usr_l1t _ A.length c k z j _ g) (okTwo (decide_eq_true (by omega)) (okOne (decide_eq_true (by omega))))).mono fun e w hw => ?_
        obtain ⟨rfl, ⟨g', z1⟩, z2⟩ := hw
        have e3 : true = decide (vb 65536 (A.take (j + 1)) ≠ 0) := (decide_eq_true (by rw [hs]; omega)).symm
        exact ⟨A.length - (j + 1), by omega, j + 1, by omega, by omega, rfl, ⟨g', by rw [z1, e2, ← e3]; rfl⟩, z2⟩
    · have hjl : A.take j = A.take z := by rw [List.take_of_length_le (by omega), List.take_of_length_le (by omega)]
      rw [hjl]
      refine (goesT_runs (tabH_ok conN_ok hcV_ok) (usr_o1b _ A.length c k z j _ _ g) (okTwo (decide_eq_false (by omega)) (okOne (decide_eq_true (by omega))))).mono fun e w hw => ?_
      obtain ⟨rfl, ⟨g', z1⟩, z2⟩ := hw
      exact ⟨rfl, ⟨g', _, z1⟩, z2⟩
  · have hjz : j = z := by omega
    subst hjz
    refine (goesT_runs (tabH_ok conN_ok hcV_ok) (usr_o1a _ A.length c k j j _ _ g) (okOne (decide_eq_false (by omega)))).mono fun e w hw => ?_
    obtain ⟨rfl, ⟨g', z1⟩, z2⟩ := hw
    exact ⟨rfl, ⟨g', _, z1⟩, z2⟩
theorem ushr_loop2 (a : Value) (k : Nat) (b u : Int) (e : Bool) (h : Hp) (g : Nat → Value) :
    Runs (tabH Tryz.prog extY conN hcV) (.block 2 (.loop (rL2 Tryz.f65))) ([a, .int .i64 (k : Nat), undef, undef, nilS, .bool false, .bool e, .int .i64 b, .int .i64 u, .int .u32 1, .int .i64 0] ++ tl 78 g, h, []) fun ex Y => match ex with | none => (∃ g u2, Y.1 = [a, .int .i64 (k : Nat), undef, undef, nilS, .bool false, .bool e, .int .i64 b, .int .i64 u, .int .u32 ((2 ^ (k % 16) : Nat) : Int), .int .i64 u2] ++ tl 78 g) ∧ Y.2.1 = h | some none => False | some (some _) => False := by
  have em : (k : Int).tmod 16 = ((k % 16 : Nat) : Int) := by rw [Int.tmod_eq_emod_of_nonneg (by omega)]; omega
  refine Runs.forLoop (P := fun Y => (∃ g u2, Y.1 = [a, .int .i64 (k : Nat), undef, undef, nilS, .bool false, .bool e, .int .i64 b, .int .i64 u, .int .u32 ((2 ^ (k % 16) : Nat) : Int), .int .i64 u2] ++ tl 78 g) ∧ Y.2.1 = h) (R := fun _ => False)
    (fun m Y => ∃ j : Nat, j ≤ k % 16 ∧ m = k % 16 - j ∧ (∃ g, Y.1 = [a, .int .i64 (k : Nat), undef, undef, nilS, .bool false, .bool e, .int .i64 b, .int .i64 u, .int .u32 ((2 ^ j : Nat) : Int), .int .i64 (j : Nat)] ++ tl 78 g) ∧ Y.2.1 = h) ?_ (n := k % 16) ⟨0, by omega, by omega, ⟨g, rfl⟩, rfl⟩
  rintro m ⟨t, h', s⟩ ⟨j, hj, hm, ⟨g, ht⟩, hh⟩
  simp only at ht hh
  subst ht hh
  by_cases hlt : j < k % 16
  · refine (goesT_runs (tabH_ok conN_ok hcV_ok) (usr_l2 a k b u j _ e h' g) (okTwo (by rw [em]; exact decide_eq_true (by omega)) (okOne rfl))).mono fun ex w hw => ?_
    obtain ⟨rfl, ⟨g', z1⟩, z2⟩ := hw
    have hp : 2 ^ j ≤ 32768 := by
      have := Nat.pow_le_pow_right (show 0 < 2 by omega) (show j ≤ 15 by omega)
      omega
    have e1 : IntKind.u32.wrap (2 * ((2 ^ j : Nat) : Int)) = ((2 ^ (j + 1) : Nat) : Int) := by
      rw [Nat.pow_succ]
      generalize 2 ^ j = Q at hp ⊢
      rw [wrap32 (by omega) (by omega)]
      omega
    have e2 : IntKind.i64.wrap ((j : Int) + 1) = ((j + 1 : Nat) : Int) := by rw [wrapI (by omega) (by omega)]; omega
    exact ⟨k % 16 - (j + 1), by omega, j + 1, by omega, rfl, ⟨g', by rw [z1, e1, e2]⟩, z2⟩
  · have hj' : j = k % 16 := by omega
    subst hj'
    refine (goesT_runs (tabH_ok conN_ok hcV_ok) (usr_o2 a k b u _ _ e h' g) (okTwo (by rw [em]; exact decide_eq_false (by omega)) (okOne rfl))).mono fun ex w hw => ?_
    obtain ⟨rfl, ⟨g', z1⟩, z2⟩ := hw
    exact ⟨rfl, ⟨g', _, z1⟩, z2⟩
/-! ### its third loop -/
/-- the row is so in any memory whose first block is it -/
def Fst (l : List Value) (o c : Nat) (A : List Int) : Prop := ∀ h : Hp, h.blk? 0 = some (l, tR) → rowP h (some ⟨0, o, none⟩) A.length c = true ∧ rowOf h (some ⟨0, o, none⟩) A.length = A
def dwV (A : List Int) (P R i : Nat) : Nat := dgN A i / P + dgN A (i + 1) % P * R
def rSt (l : List Value) (o c : Nat) (A : List Int) (k b u u2 : Int) (e : Bool) (P j i : Nat) (O : List Int) (Y : Lf) : Prop :=
  (j = 0 ∧ (∃ g, Y.1 = [sl 0 o A.length c, .int .i64 k, undef, undef, nilS, .bool false, .bool e, .int .i64 b, .int .i64 u, .int .u32 (P : Nat), .int .i64 u2, nilS, .int .i64 (i : Nat)] ++ tl 76 g) ∧ Y.2.1 = ⟨1, [(l, tR)]⟩) ∨
  (0 < j ∧ (∃ g, Y.1 = [sl 0 o A.length c, .int .i64 k, undef, undef, nilS, .bool false, .bool e, .int .i64 b, .int .i64 u, .int .u32 (P : Nat), .int .i64 u2, sl 1 0 j grown, .int .i64 (i : Nat)] ++ tl 76 g) ∧ Y.2.1 = ⟨2, [(wU O, tU), (l, tR)]⟩)
theorem ushr_round (hR : Row l o A) (hF : Fst l o c A) (hs : ∀ v ∈ l, still v = true) (hA : ∀ x ∈ A, Dg 65536 x) (hn : A.length + 2 < 1073741824) {k b u u2 : Int} {e : Bool} {P R j i : Nat} {O : List Int} (hP : 0 < P) (hPR : P * R = 65536) (hO : O.length = j) (hj : j ≤ i) (hi : i < A.length) {Y : Lf} (hY : rSt l o c A k b u u2 e P j i O Y) :
    RunsW (tabH Tryz.prog extY conN hcV) (rL3 Tryz.f65) Y fun ex W => ex = none ∧ (∃ g, W.1 = [sl 0 o A.length c, .int .i64 k, undef, undef, nilS, .bool false, .bool e, .int .i64 b, .int .i64 u, .int .u32 (P : Nat), .int .i64 u2, sl 1 0 (j + 1) grown, .int .i64 ((i + 1 : Nat) : Int)] ++ tl 76 g) ∧ W.2.1 = ⟨2, [(wU (O ++ [((dwV A P R i : Nat) : Int)]), tU), (l, tR)]⟩ := by
  obtain ⟨t, h', s⟩ := Y
  have hd := dgN_lt hA i
  have hd1 := dgN_lt hA (i + 1)
  have hPb : P ≤ 65536 := by
    rcases Nat.eq_zero_or_pos R with h0 | h0
    · rw [h0] at hPR; omega
    · have := Nat.mul_le_mul_left P h0; omega
  have hRb : R ≤ 65536 := by
    have := Nat.mul_le_mul_right R hP; omega
  have e3 : IntKind.i64.wrap ((i : Int) + 1) = ((i + 1 : Nat) : Int) := by rw [wrapI (by omega) (by omega)]; omega
  have ne0 : decide ((P : Int) = 0) = false := decide_eq_false (by omega)
  have hdiv : dgN A i / P ≤ dgN A i := Nat.div_le_self _ _
  have eq1 : IntKind.u32.wrap ((A.getD i 0).tdiv (P : Int)) = ((dgN A i / P : Nat) : Int) := by
    rw [← hd.2, Int.tdiv_eq_ediv_of_nonneg (by omega), show ((dgN A i : Nat) : Int) / (P : Int) = ((dgN A i / P : Nat) : Int) from rfl]
    generalize dgN A i / P = y at hdiv ⊢
    exact wrap32 (by omega) (by omega)
  have eq2 : IntKind.u32.wrap (Int.tdiv 65536 (P : Int)) = (R : Int) := by
    have : 65536 / P = R := by rw [← hPR, Nat.mul_div_cancel_left _ hP]
    rw [Int.tdiv_eq_ediv_of_nonneg (by omega), show (65536 : Int) / (P : Int) = ((65536 / P : Nat) : Int) from rfl, this]
    exact wrap32 (by omega) (by omega)
  have hlt := down_lt (x1 := dgN A (i + 1)) hP hPR hd.1
  have hdw : ∀ h : Hp, h.blk? 0 = some (l, tR) → dwn h o A.length i P ((dgN A i / P : Nat) : Int) R = ((dwV A P R i : Nat) : Int) := fun h hh => by
    unfold dwn dwV
    rw [(hF h hh).2, e3, atN_nat, ← hd1.2, Int.tmod_eq_emod_of_nonneg (by omega), show ((dgN A (i + 1) : Nat) : Int) % (P : Int) = ((dgN A (i + 1) % P : Nat) : Int) from rfl, show ((dgN A (i + 1) % P : Nat) : Int) * (R : Int) = ((dgN A (i + 1) % P * R : Nat) : Int) from by simp]
    generalize dgN A i / P = y1 at hlt ⊢
    generalize dgN A (i + 1) % P * R = y2 at hlt ⊢
    rw [wrap32 (n := (y2 : Int)) (by omega) (by omega), wrap32 (by omega) (by omega)]
    omega
  have hlog : ∀ h : Hp, h.blk? 0 = some (l, tR) → okLog (lDw h l o A.length c i P (A.getD i 0) ((dgN A i / P : Nat) : Int) R) := fun h hh => okTwo ne0 (okTwo (hF h hh).1 (okTwo ne0 (okTwo (decide_eq_true eq2) (okTwo ne0 (okTwo (decide_eq_true eq1) (okTwo (by
    show cellIs (l[o + (i : Int).toNat * 1]?) _ = true
    rw [Int.toNat_natCast, Nat.mul_one, hR.cell hi]; simp [cellIs]) (okTwo (decide_eq_true (by omega)) (okOne (decide_eq_true (by omega))))))))))
  have key : ∀ {h : Hp} {bb : Nat}, 1 ≤ bb → h.blk? 0 = some (l, tR) → h.blk? bb = some (wU (O ++ [((dwV A P R i : Nat) : Int)]), tU) → RunsW (tabH Tryz.prog extY conN hcV) (rL3 Tryz.f65) (t, h', s) (fun ex W => ex = none ∧ (∃ g, W.1 = [sl 0 o A.length c, .int .i64 k, undef, undef, nilS, .bool false, .bool e, .int .i64 b, .int .i64 u, .int .u32 (P : Nat), .int .i64 u2, sl bb 0 (j + 1) grown, .int .i64 ((i + 1 : Nat) : Int)] ++ tl 76 g) ∧ W.2.1 = h) →
      RunsW (tabH Tryz.prog extY conN hcV) (rL3 Tryz.f65) (t, h', s) fun ex W => ex = none ∧ (∃ g, W.1 = [sl 0 o A.length c, .int .i64 k, undef, undef, nilS, .bool false, .bool e, .int .i64 b, .int .i64 u, .int .u32 (P : Nat), .int .i64 u2, sl 1 0 (j + 1) grown, .int .i64 ((i + 1 : Nat) : Int)] ++ tl 76 g) ∧ W.2.1 = ⟨2, [(wU (O ++ [((dwV A P R i : Nat) : Int)]), tU), (l, tR)]⟩ := fun {h bb} hb h0 hB fin =>
    fin.kept (k := 1) (b := bb) (base := [(l, tR)]) (y := (wU (O ++ [((dwV A P R i : Nat) : Int)]), tU)) (front' := [sl 0 o A.length c, .int .i64 k, undef, undef, nilS, .bool false, .bool e, .int .i64 b, .int .i64 u, .int .u32 (P : Nat), .int .i64 u2, sl 1 0 (j + 1) grown, .int .i64 ((i + 1 : Nat) : Int)]) rfl
      (by kernel_rfl) (fun j x hx => by
        obtain ⟨rfl, rfl⟩ := blkOne hx
        exact ⟨h0, hs⟩) hB hb (wU_still _) (fun v hv => by
        simp only [List.mem_cons, List.not_mem_nil, or_false] at hv
        rcases hv with rfl | rfl | rfl | rfl | rfl | rfl | rfl | rfl | rfl | rfl | rfl | rfl | rfl <;> rfl)
  rcases hY with ⟨h0, ⟨g, ht⟩, hh⟩ | ⟨h0, ⟨g, ht⟩, hh⟩
  · simp only at ht hh
    subst ht hh
    have hO0 : O = [] := List.length_eq_zero_iff.1 (by omega)
    subst hO0
    subst h0
    have fin := goesT_runsW (tabH_ok conN_ok hcV_ok) (s0 := s) (usr_fst o A.length c k b u u2 i P (A.getD i 0) ((dgN A i / P : Nat) : Int) R e l g) (hlog _ rfl)
    rw [e3, hdw _ rfl] at fin
    exact key (bb := 2) (by omega) rfl rfl fin
  · simp only at ht hh
    subst ht hh
    have hchk : appChk tU (wU O, tU) ([.int .u32 ((dwV A P R i : Nat) : Int)], tU) j 0 1 = true :=
      appChk_of (L := O) (M := [((dwV A P R i : Nat) : Int)]) hO.symm (show 0 < 1 by omega) (by show O.length + 1 ≤ _; omega)
    have ew : wU O ++ [.int .u32 ((dwV A P R i : Nat) : Int)] = wU (O ++ [((dwV A P R i : Nat) : Int)]) := by rw [wU_append]; rfl
    have fin := goesT_runsW (tabH_ok conN_ok hcV_ok) (s0 := s) (usr_nxt o A.length c j k b u u2 i P (A.getD i 0) ((dgN A i / P : Nat) : Int) R e l (wU O) g) (okTwo (by rw [hdw _ rfl]; exact hchk) (hlog _ rfl))
    rw [e3, hdw _ rfl, ew] at fin
    exact key (bb := 3) (by omega) rfl rfl fin
def rFin (l : List Value) (o c : Nat) (A : List Int) (k b u u2 : Int) (e : Bool) (P z : Nat) (Y : Lf) : Prop :=
  ∃ O : List Int, O.length = A.length - z ∧ (∀ x ∈ O, Dg 65536 x) ∧ vb 65536 O * P + dgN A z % P = vb 65536 (A.drop z) ∧ rSt l o c A k b u u2 e P (A.length - z) A.length O Y
def rInv (l : List Value) (o c : Nat) (A : List Int) (k b u u2 : Int) (e : Bool) (P z : Nat) (m : Nat) (Y : Lf) : Prop :=
  ∃ (i : Nat) (O : List Int), m = A.length - i ∧ z ≤ i ∧ i ≤ A.length ∧ O.length = i - z ∧ (∀ x ∈ O, Dg 65536 x) ∧ vb 65536 O * P + dgN A z % P = vb 65536 ((A.drop z).take (i - z)) + 65536 ^ (i - z) * (dgN A i % P) ∧ rSt l o c A k b u u2 e P (i - z) i O Y
theorem getD_drop (A : List Int) (z j : Nat) : (A.drop z).getD j 0 = A.getD (z + j) 0 := by simp [List.getD, List.getElem?_drop]
theorem ushr_loop3 (hR : Row l o A) (hF : Fst l o c A) (hs : ∀ v ∈ l, still v = true) (hA : ∀ x ∈ A, Dg 65536 x) (hn : A.length + 2 < 1073741824) {k b u u2 : Int} {e : Bool} {P R z : Nat} (hP : 0 < P) (hPR : P * R = 65536) (hz : z ≤ A.length) (g : Nat → Value) :
    RunsW (tabH Tryz.prog extY conN hcV) (.block 4 (.loop (rL3 Tryz.f65))) ([sl 0 o A.length c, .int .i64 k, undef, undef, nilS, .bool false, .bool e, .int .i64 b, .int .i64 u, .int .u32 (P : Nat), .int .i64 u2, nilS, .int .i64 (z : Nat)] ++ tl 76 g, ⟨1, [(l, tR)]⟩, []) fun ex Y => match ex with | none => rFin l o c A k b u u2 e P z Y | some none => False | some (some _) => False := by
  refine RunsW.forLoop (P := rFin l o c A k b u u2 e P z) (R := fun _ => False) (rInv l o c A k b u u2 e P z) ?_ (n := A.length - z) ⟨z, [], rfl, Nat.le_refl _, hz, by simp, (fun x hx => by cases hx), by simp [vb], .inl ⟨by omega, ⟨g, rfl⟩, rfl⟩⟩
  rintro m Y ⟨i, O, hm, hzi, hi, hO, hOd, hv, hY⟩
  by_cases hlt : i < A.length
  · refine (ushr_round hR hF hs hA hn hP hPR hO (by omega) hlt hY).mono fun ex W hW => ?_
    obtain ⟨rfl, z1, z2⟩ := hW
    have hd := dgN_lt hA i
    have hl := down_lt (x1 := dgN A (i + 1)) hP hPR hd.1
    have ej : i + 1 - z = i - z + 1 := by omega
    refine ⟨A.length - (i + 1), by omega, i + 1, O ++ [((dwV A P R i : Nat) : Int)], rfl, by omega, by omega, by rw [List.length_append, hO, ej]; rfl, fun x hx => ?_, ?_, .inr ⟨by omega, by rw [ej]; exact z1, z2⟩⟩
    · rcases List.mem_append.1 hx with hx | hx
      · exact hOd x hx
      · rw [List.mem_singleton.1 hx]
        unfold dwV
        exact ⟨Int.natCast_nonneg _, Int.ofNat_lt.2 hl⟩
    · have h1 := down_step (x1 := dgN A (i + 1)) hPR hO hv
      have h2 : vb 65536 ((A.drop z).take (i - z + 1)) = vb 65536 ((A.drop z).take (i - z)) + 65536 ^ (i - z) * dgN A i := by
        rw [vb_take, getD_drop, show z + (i - z) = i by omega]
        rfl
      rw [ej, h2]
      exact h1
  · have hil : i = A.length := by omega
    subst hil
    have hz0 : dgN A A.length = 0 := by unfold dgN; simp [List.getD]
    rw [List.take_of_length_le (by simp), hz0] at hv
    simp only [Nat.zero_mod, Nat.mul_zero, Nat.add_zero] at hv
    obtain ⟨t, h', s⟩ := Y
    rcases hY with ⟨h0, ⟨g, ht⟩, hh⟩ | ⟨h0, ⟨g, ht⟩, hh⟩
    · simp only at ht hh
      subst ht hh
      refine (goesT_runsW (tabH_ok conN_ok hcV_ok) (usr_o3 _ _ _ _ _ _ _ _ _ _ _ _ g) (okOne (decide_eq_false (by omega)))).mono fun ex W hW => ?_
      obtain ⟨rfl, ⟨g', z1⟩, z2⟩ := hW
      exact ⟨rfl, O, hO, hOd, hv, .inl ⟨h0, ⟨g', z1⟩, z2⟩⟩
    · simp only at ht hh
      subst ht hh
      refine (goesT_runsW (tabH_ok conN_ok hcV_ok) (usr_o3 _ _ _ _ _ _ _ _ _ _ _ _ g) (okOne (decide_eq_false (by omega)))).mono fun ex W hW => ?_
      obtain ⟨rfl, ⟨g', z1⟩, z2⟩ := hW
      exact ⟨rfl, O, hO, hOd, hv, .inr ⟨h0, ⟨g', z1⟩, z2⟩⟩
end
def rCode (F : Func) : Code := seqs (rPr F) (.seq (.seq (rR5 F) (.block 0 (.loop (rL1 F)))) (.seq (rIf F) (.seq (rR11 F) (.seq (.seq (rR12 F) (.block 2 (.loop (rL2 F)))) (.seq (rR16 F) (.seq (rR17 F) (.seq (.seq (rR18 F) (.block 4 (.loop (rL3 F)))) (rEn F))))))))
section
variable {l : List Value} {o c : Nat} {A : List Int}
/-- behind the first loop -/
theorem ushr_first (hR : Row l o A) (hA : ∀ x ∈ A, Dg 65536 x) (hn : A.length + 2 < 1073741824) {k : Nat} (hk0 : 0 < k) (hk : k < 4611686018427387904) {P : Ex → Lf → Prop} {rest : Code}
    (h : ∀ (g : Nat → Value) (u : Int), RunsW (tabH Tryz.prog extY conN hcV) rest ([sl 0 o A.length c, .int .i64 (k : Nat), undef, undef, nilS, .bool false, .bool (decide (vb 65536 (A.take (k / 16)) ≠ 0)), .int .i64 ((k / 16 : Nat) : Int), .int .i64 u] ++ tl 80 g, ⟨1, [(l, tR)]⟩, []) P) :
    RunsW (tabH Tryz.prog extY conN hcV) (seqs (rPr Tryz.f65) (.seq (.seq (rR5 Tryz.f65) (.block 0 (.loop (rL1 Tryz.f65)))) rest)) ([sl 0 o A.length c, .int .i64 (k : Nat)] ++ List.replicate 87 undef, ⟨1, [(l, tR)]⟩, []) P := by
  have ek : k16 (k : Int) = ((k / 16 : Nat) : Int) := by unfold k16; rw [Int.tdiv_eq_ediv_of_nonneg (by omega), wrapI (by omega) (by omega)]; omega
  refine goesT_listW (tabH_ok conN_ok hcV_ok) (usr_pre _ A.length c k _) (okOne (decide_eq_false (by omega))) fun g => ?_
  rw [ek]
  refine seqW3 (goesT_runsW (tabH_ok conN_ok hcV_ok) (usr_r5 _ k _ _ g) (fun x hx => by cases hx)) (fun e y he => by cases he.1) (P2 := fun e Y => match e with | none => (∃ g u, Y.1 = [sl 0 o A.length c, .int .i64 (k : Nat), undef, undef, nilS, .bool false, .bool (decide (vb 65536 (A.take (k / 16)) ≠ 0)), .int .i64 ((k / 16 : Nat) : Int), .int .i64 u] ++ tl 80 g) ∧ Y.2.1 = ⟨1, [(l, tR)]⟩ | some none => False | some (some _) => False) ?_ (fun e y he => by match e, he with | none, he => exact he | some id, he => exact he) ?_
  · rintro ⟨t, h', s⟩ ⟨_, ⟨g', ht⟩, hh⟩
    simp only at ht hh
    subst ht hh
    exact RunsW.script (ushr_loop1 hR hA (by omega) _ (by omega) g').w
  · rintro ⟨t, h', s⟩ ⟨⟨g', u, ht⟩, hh⟩
    simp only at ht hh
    subst ht hh
    exact RunsW.script (h g' u)
theorem ushr_short (hR : Row l o A) (hA : ∀ x ∈ A, Dg 65536 x) (hn : A.length + 2 < 1073741824) {k : Nat} (hk0 : 0 < k) (hk : k < 4611686018427387904) (hz : A.length ≤ k / 16) :
    RunsW (tabH Tryz.prog extY conN hcV) (rCode Tryz.f65) ([sl 0 o A.length c, .int .i64 (k : Nat)] ++ List.replicate 87 undef, ⟨1, [(l, tR)]⟩, []) fun e z => (e = none ∨ e = some none) ∧ resS Tryz.prog Tryz.f65 z.1 z.2.1 = some (.tuple #[nilS, .bool (decide (vb 65536 A % 2 ^ k ≠ 0))]) := by
  have el : decide (vb 65536 (A.take (k / 16)) ≠ 0) = decide (vb 65536 A % 2 ^ k ≠ 0) := by
    congr 1
    have h1 := Go.Nt.lost_iff hA k
    have h2 : dgS A (k / 16) = 0 := by unfold dgS; simp [List.getD, List.getElem?_eq_none hz]
    rw [h2, Nat.zero_mod] at h1
    simp only [ne_eq, not_true_eq_false, or_false] at h1
    simp only [ne_eq, eq_iff_iff]
    exact h1.symm
  refine ushr_first hR hA hn hk0 hk fun g u => ?_
  refine RunsW.seq (P1 := fun e Y => e = some none ∧ (∃ g, Y.1 = [sl 0 o A.length c, .int .i64 (k : Nat), undef, undef, nilS, .bool (decide (vb 65536 (A.take (k / 16)) ≠ 0))] ++ tl 83 g) ∧ Y.2.1 = ⟨1, [(l, tR)]⟩) (goesT_runsW (tabH_ok conN_ok hcV_ok) (usr_ift _ A.length c k _ u _ _ g) (okOne (decide_eq_true (by omega)))) (fun y he => by cases he.1) (fun e y he => ?_)
  obtain ⟨he, ⟨g', z1⟩, z2⟩ := he
  refine ⟨.inr he, ?_⟩
  rw [z1, z2, el]
  rfl
theorem ushr_long (hR : Row l o A) (hF : Fst l o c A) (hs : ∀ v ∈ l, still v = true) (hA : ∀ x ∈ A, Dg 65536 x) (hn : A.length + 2 < 1073741824) {k : Nat} (hk0 : 0 < k) (hk : k < 4611686018427387904) (hz : k / 16 < A.length) {V : Nat} (hV : V = vb 65536 A / 2 ^ k) :
    RunsW (tabH Tryz.prog extY conN hcV) (rCode Tryz.f65) ([sl 0 o A.length c, .int .i64 (k : Nat)] ++ List.replicate 87 undef, ⟨1, [(l, tR)]⟩, []) fun e z => (e = none ∨ e = some none) ∧ resS Tryz.prog Tryz.f65 z.1 z.2.1 = some (.tuple #[sl 1 0 (d16 V).length (d16 V).length, .bool (decide (vb 65536 A % 2 ^ k ≠ 0))]) ∧ ∃ r, z.2.1.blk? 1 = some (wU (d16 V) ++ r, tU) := by
  have hP0 : 0 < 2 ^ (k % 16) := Nat.pow_pos (by omega)
  have hPR := dvd_pow (s := k % 16) (by omega)
  have hPb : 2 ^ (k % 16) ≤ 32768 := by
    have := Nat.pow_le_pow_right (show 0 < 2 by omega) (show k % 16 ≤ 15 by omega)
    omega
  have hd := dgN_lt hA (k / 16)
  have hl := Go.Nt.lost_iff hA k
  refine ushr_first hR hA hn hk0 hk fun g u => ?_
  refine RunsW.seq (P1 := fun e Y => e = none ∧ (∃ g, Y.1 = [sl 0 o A.length c, .int .i64 (k : Nat), undef, undef, nilS, .bool false, .bool (decide (vb 65536 (A.take (k / 16)) ≠ 0)), .int .i64 ((k / 16 : Nat) : Int), .int .i64 u] ++ tl 80 g) ∧ Y.2.1 = ⟨1, [(l, tR)]⟩) (goesT_runsW (tabH_ok conN_ok hcV_ok) (usr_iff _ A.length c k _ u _ _ g) (okOne (decide_eq_false (by omega)))) ?_ (fun e y he => by cases he.1)
  rintro ⟨t, h', s⟩ ⟨_, ⟨g, ht⟩, hh⟩
  simp only at ht hh
  subst ht hh
  refine RunsW.seq (P1 := fun e Y => e = none ∧ (∃ g, Y.1 = [sl 0 o A.length c, .int .i64 (k : Nat), undef, undef, nilS, .bool false, .bool (decide (vb 65536 (A.take (k / 16)) ≠ 0)), .int .i64 ((k / 16 : Nat) : Int), .int .i64 u, .int .u32 1] ++ tl 79 g) ∧ Y.2.1 = ⟨1, [(l, tR)]⟩) (goesT_runsW (tabH_ok conN_ok hcV_ok) (usr_r11 _ k _ u _ _ g) (fun x hx => by cases hx)) ?_ (fun e y he => by cases he.1)
  rintro ⟨t, h', s⟩ ⟨_, ⟨g, ht⟩, hh⟩
  simp only at ht hh
  subst ht hh
  refine seqW3 (goesT_runsW (tabH_ok conN_ok hcV_ok) (usr_r12 _ k _ u _ _ g) (fun x hx => by cases hx)) (fun e y he => by cases he.1) (P2 := fun e Y => match e with | none => (∃ g u2, Y.1 = [sl 0 o A.length c, .int .i64 (k : Nat), undef, undef, nilS, .bool false, .bool (decide (vb 65536 (A.take (k / 16)) ≠ 0)), .int .i64 ((k / 16 : Nat) : Int), .int .i64 u, .int .u32 ((2 ^ (k % 16) : Nat) : Int), .int .i64 u2] ++ tl 78 g) ∧ Y.2.1 = ⟨1, [(l, tR)]⟩ | some none => False | some (some _) => False) ?_ (fun e y he => by match e, he with | none, he => exact he | some id, he => exact he) ?_
  · rintro ⟨t, h', s⟩ ⟨_, ⟨g', ht⟩, hh⟩
    simp only at ht hh
    subst ht hh
    exact RunsW.script (ushr_loop2 _ k _ u _ _ g').w
  rintro ⟨t, h', s⟩ ⟨⟨g, u2, ht⟩, hh⟩
  simp only at ht hh
  subst ht hh
  refine RunsW.seq (P1 := fun e Y => e = none ∧ (∃ g, Y.1 = [sl 0 o A.length c, .int .i64 (k : Nat), undef, undef, nilS, .bool false, .bool (decide (vb 65536 A % 2 ^ k ≠ 0)), .int .i64 ((k / 16 : Nat) : Int), .int .i64 u, .int .u32 ((2 ^ (k % 16) : Nat) : Int), .int .i64 u2] ++ tl 78 g) ∧ Y.2.1 = ⟨1, [(l, tR)]⟩) ?_ ?_ (fun e y he => by cases he.1)
  · by_cases h0 : vb 65536 (A.take (k / 16)) = 0
    · rw [decide_eq_false (show ¬ (vb 65536 (A.take (k / 16)) ≠ 0) by omega)]
      have ev : (((A.getD (k / 16) 0)).tmod ((2 ^ (k % 16) : Nat) : Int) != 0) = decide (vb 65536 A % 2 ^ k ≠ 0) := by
        rw [← hd.2, Int.tmod_eq_emod_of_nonneg (by omega), show ((dgN A (k / 16) : Nat) : Int) % ((2 ^ (k % 16) : Nat) : Int) = ((dgN A (k / 16) % 2 ^ (k % 16) : Nat) : Int) from rfl, Bool.eq_iff_iff]
        rw [h0] at hl
        simp only [ne_eq, not_true_eq_false, false_or] at hl
        simp only [bne_iff_ne, ne_eq, decide_eq_true_eq, hl, dg_dgN]
        omega
      refine (goesT_runsW (tabH_ok conN_ok hcV_ok) (usr_16f o A.length c k ((k / 16 : Nat) : Int) u u2 ((2 ^ (k % 16) : Nat) : Int) (A.getD (k / 16) 0) l (decide (vb 65536 A % 2 ^ k ≠ 0)) g) (okTwo ev (okTwo (decide_eq_false (by omega)) (okTwo (by rw [Int.toNat_natCast, Nat.mul_one, hR.cell hz]; simp [cellIs]) (okOne (decide_eq_true (by omega))))))).mono fun e w hw => hw
    · rw [decide_eq_true h0, decide_eq_true (hl.2 (.inl h0))]
      exact goesT_runsW (tabH_ok conN_ok hcV_ok) (usr_16t _ k _ u u2 _ _ g) (fun x hx => by cases hx)
  rintro ⟨t, h', s⟩ ⟨_, ⟨g, ht⟩, hh⟩
  simp only at ht hh
  subst ht hh
  refine RunsW.seq (P1 := fun e Y => e = none ∧ (∃ g, Y.1 = [sl 0 o A.length c, .int .i64 (k : Nat), undef, undef, nilS, .bool false, .bool (decide (vb 65536 A % 2 ^ k ≠ 0)), .int .i64 ((k / 16 : Nat) : Int), .int .i64 u, .int .u32 ((2 ^ (k % 16) : Nat) : Int), .int .i64 u2, nilS] ++ tl 77 g) ∧ Y.2.1 = ⟨1, [(l, tR)]⟩) (goesT_runsW (tabH_ok conN_ok hcV_ok) (usr_r17 _ k _ u u2 _ _ _ g) (fun x hx => by cases hx)) ?_ (fun e y he => by cases he.1)
  rintro ⟨t, h', s⟩ ⟨_, ⟨g, ht⟩, hh⟩
  simp only at ht hh
  subst ht hh
  refine seqW3 (goesT_runsW (tabH_ok conN_ok hcV_ok) (usr_r18 _ k _ u u2 _ _ _ g) (fun x hx => by cases hx)) (fun e y he => by cases he.1) (P2 := fun e Y => match e with | none => rFin l o c A k ((k / 16 : Nat) : Int) u u2 (decide (vb 65536 A % 2 ^ k ≠ 0)) (2 ^ (k % 16)) (k / 16) Y | some none => False | some (some _) => False) ?_ (fun e y he => by match e, he with | none, he => exact he | some id, he => exact he) ?_
  · rintro ⟨t, h', s⟩ ⟨_, ⟨g', ht⟩, hh⟩
    simp only at ht hh
    subst ht hh
    exact RunsW.script (ushr_loop3 hR hF hs hA hn hP0 hPR (by omega) g')
  rintro ⟨t, h', s⟩ ⟨O, hO, hOd, hv, hY⟩
  rcases hY with ⟨e0, _⟩ | ⟨_, ⟨g', ht⟩, hh⟩
  · omega
  · simp only at ht hh
    subst ht hh
    have hval : vb 65536 O = V := by rw [hV]; exact down_end hA hv
    have hrow : rowC tU (wU O) 0 (A.length - k / 16) grown = true := by
      rw [← hO]
      exact rowC_wU (fun x hx => ⟨(hOd x hx).1, by have := (hOd x hx).2; omega⟩) (by omega) (capG _)
    refine (goesT_runsW (tabH_ok conN_ok hcV_ok) (usr_end _ k _ u u2 _ _ _ (A.length - k / 16) (l, tR) (wU O) g') (okOne hrow)).mono fun e z he => ?_
    obtain ⟨rfl, ⟨g2, e1⟩, e2⟩ := he
    have et : trimN (cutI (wU O) 0 (A.length - k / 16)) = (d16 V).length := by
      rw [← hO, cut_wU, trim_len (by omega) hOd, hval]
      rfl
    refine ⟨.inr rfl, ?_, ?_⟩
    · rw [e1, e2, et]
      rfl
    · rw [e2]
      refine ⟨wU (O.drop (trimN O)), ?_⟩
      have e3 : wU (d16 V) ++ wU (O.drop (trimN O)) = wU O := by
        unfold d16
        rw [← hval, ← take_trim (by omega) _ hOd, ← wU_append, List.take_append_drop]
      rw [e3]
      rfl
end
theorem ushr_bodyC : Tryz.f65.body = some (rCode Tryz.f65) := ushr_body
/-- a caller's row, in the smallest memory -/
theorem fst_of {ty : TypeId} {l : List Value} {o n c : Nat} (r : rowC ty l o n c = true) (hs : ∀ v ∈ l, still v = true) : Fst l o c (cutI l o n) := by
  intro h hb
  have hlen := (rowC_of r).2.1
  rw [hlen]
  constructor
  · simp only [rowP, hb, Bool.and_eq_true]
    refine ⟨?_, List.all_eq_true.2 hs⟩
    unfold rowC at r ⊢
    simp only [Bool.and_eq_true, Bool.not_eq_true'] at r ⊢
    obtain ⟨⟨⟨⟨⟨⟨_, _⟩, p3⟩, p4⟩, p5⟩, p6⟩, p7⟩ := r
    exact ⟨⟨⟨⟨⟨⟨tR_tomb, by kernel_rfl⟩, p3⟩, p4⟩, p5⟩, p6⟩, p7⟩
  · simp [rowOf, hb]
def okShr (h : Hp) (p : Option Addr) (n c : Nat) (k : Int) : Bool := rowP h p n c && dgB (rowOf h p n) && Nat.blt (n + 2) 1073741824 && decide (0 < k ∧ k < 4611686018427387904)
def gUshr : AnsH := fun vals h s =>
  match vals, s with
  | [.slice p n c, .int .i64 k], .inr (.inr (.inr (.inl d))) :: .inr (.inr (.inr (.inl e))) :: s' =>
    match d with
    | true => some (.tuple #[sl h.n 0 (d16 (vO h p n / 2 ^ k.toNat)).length (d16 (vO h p n / 2 ^ k.toNat)).length, .bool e], h.push (wU (d16 (vO h p n / 2 ^ k.toNat))) tU, s', [(decide (vO h p n % 2 ^ k.toNat ≠ 0), e), (decide (k.toNat / 16 < n), true), (okShr h p n c k, true)])
    | false => some (.tuple #[nilS, .bool e], h, s', [(decide (vO h p n % 2 ^ k.toNat ≠ 0), e), (decide (k.toNat / 16 < n), false), (okShr h p n c k, true)])
  | _, _ => none
theorem gUshr_ok : AnsHOk 65 gUshr := by
  intro vals h s v h' s' lg hg hl m B w E hv
  unfold gUshr at hg
  split at hg
  · rename_i p n c k d e s2
    split at hg
    · cases hg
      have l1 := hl _ (List.mem_cons_self)
      have l2 := hl _ (List.mem_cons_of_mem _ (List.mem_cons_self))
      have l3 := hl _ (List.mem_cons_of_mem _ (List.mem_cons_of_mem _ (List.mem_singleton.2 rfl)))
      simp only at l1 l2 l3
      simp only [okShr, Bool.and_eq_true, decide_eq_true_eq] at l2 l3
      obtain ⟨⟨⟨q1, q2⟩, q3⟩, q4⟩ := l3
      have q2 := dgB_of q2
      have q3 := blt_iff.1 q3
      obtain ⟨K, rfl⟩ := Int.eq_ofNat_of_zero_le (show 0 ≤ k by omega)
      rw [Int.toNat_natCast] at l1 l2 ⊢
      rcases rowP_cases q1 with ⟨rfl, rfl, rfl, e0⟩ | ⟨b, o, x, rfl, hx, r1, rs, e0⟩
      · omega
      · rw [e0] at q2
        obtain ⟨h1, h2, h3, h4, h5, h6, h7⟩ := rowC_of r1
        have ev : vO h (some ⟨b, o, none⟩) n = vb 65536 (cutI x.1 o n) := by unfold vO; rw [e0]
        have r := ushr_long h1 (fst_of r1 rs) rs q2 (by rw [h2]; exact q3) (k := K) (by omega) (by omega) (by rw [h2]; exact l2) rfl
        rw [h2, ← ev, l1] at r
        have e2 : ∀ L : Nat, rn (fun _ => h.n) (.tuple #[sl 1 0 L L, .bool e]) = .tuple #[sl h.n 0 L L, .bool e] := fun L => by simp [rn, rn2, rn1, sl]
        have fin := row_calls1 (T := tabH Tryz.prog extY conN hcV) Tryz.func65 ushr_bodyC (rows1 h7) (vals := [sl 0 o n c, .int .i64 (K : Nat)]) (fun v hv => by
          simp only [List.mem_cons, List.not_mem_nil, or_false] at hv
          rcases hv with rfl | rfl <;> rfl) (k := 1) (cs := wU (d16 (vO h (some ⟨b, o, none⟩) n / 2 ^ K))) (ty := tU) (wU_lt _) (by kernel_rfl) r (by rfl) E (s := fun _ => b) (fitsR1 hx h5 h6 rfl)
        rw [e2] at fin
        exact fin
    · cases hg
      have l1 := hl _ (List.mem_cons_self)
      have l2 := hl _ (List.mem_cons_of_mem _ (List.mem_cons_self))
      have l3 := hl _ (List.mem_cons_of_mem _ (List.mem_cons_of_mem _ (List.mem_singleton.2 rfl)))
      simp only at l1 l2 l3
      simp only [okShr, Bool.and_eq_true, decide_eq_true_eq, decide_eq_false_iff_not] at l2 l3
      obtain ⟨⟨⟨q1, q2⟩, q3⟩, q4⟩ := l3
      have q2 := dgB_of q2
      have q3 := blt_iff.1 q3
      obtain ⟨K, rfl⟩ := Int.eq_ofNat_of_zero_le (show 0 ≤ k by omega)
      rw [Int.toNat_natCast] at l1 l2
      by_cases hn : n = 0
      · subst hn
        have hlen := rowOf_len q1
        have e0 : rowOf h p 0 = [] := List.length_eq_zero_iff.1 hlen
        have ev : vO h p 0 = 0 := by unfold vO; rw [e0]; rfl
        have ee : e = false := by rw [← l1, ev]; simp
        subst ee
        obtain ⟨x, p', a, NA, eA, fA⟩ := nu_of 0 q1
        have ek : k16 (K : Int) = ((K / 16 : Nat) : Int) := by unfold k16; rw [Int.tdiv_eq_ediv_of_nonneg (by omega), wrapI (by omega) (by omega)]; omega
        have hr : Runs (tabH Tryz.prog extY conN hcV) (cBody Tryz.f65) ([.slice p' 0 c, .int .i64 (K : Nat)] ++ List.replicate 87 undef, ⟨1, [x]⟩, []) fun e z => (e = none ∨ e = some none) ∧ resS Tryz.prog Tryz.f65 z.1 z.2.1 = some (.tuple #[nilS, .bool false]) := by
          by_cases hk : 0 < K / 16
          · refine (goesT_runs (tabH_ok conN_ok hcV_ok) (usr_empty p' c K _) (okTwo (show decide (k16 (K : Int) ≥ ((0 : Nat) : Int)) = true by rw [ek]; exact decide_eq_true (by omega)) (okTwo rfl (okTwo (show decide (0 < k16 (K : Int)) = true by rw [ek]; exact decide_eq_true (by omega)) (okOne (decide_eq_false (by omega))))))).mono fun e z he => ?_
            obtain ⟨rfl, ⟨g, e2⟩, e3⟩ := he
            refine ⟨.inr rfl, ?_⟩
            rw [e2, e3]
            rfl
          · refine (goesT_runs (tabH_ok conN_ok hcV_ok) (usr_empty0 p' c K _) (okTwo (show decide (k16 (K : Int) ≥ ((0 : Nat) : Int)) = true by rw [ek]; exact decide_eq_true (by omega)) (okTwo (show decide (0 < k16 (K : Int)) = false by rw [ek]; exact decide_eq_false (by omega)) (okOne (decide_eq_false (by omega)))))).mono fun e z he => ?_
            obtain ⟨rfl, ⟨g, e2⟩, e3⟩ := he
            refine ⟨.inr rfl, ?_⟩
            rw [e2, e3]
            rfl
        have := row_calls0 (T := tabH Tryz.prog extY conN hcV) Tryz.func65 ushr_body1 (h0 := ⟨1, [x]⟩) ⟨rfl, fun b z hz => by obtain ⟨_, rfl⟩ := blkOne hz; exact ⟨NA.ros.1, NA.lt0, NA.ros.2⟩⟩ (vals := [.slice p' 0 c, .int .i64 (K : Nat)]) (fun v hv => by
          simp only [List.mem_cons, List.not_mem_nil, or_false] at hv
          rcases hv with rfl | rfl
          · exact NA.lt (by show 0 < 1; omega)
          · rfl) (by rfl) hr.w E (s := fun _ => a) (fun i z hz ht => by obtain ⟨_, rfl⟩ := blkOne hz; exact fA ht)
        simp only [List.map_cons, List.map_nil] at this
        rw [eA _ rfl] at this
        exact this
      · rcases rowP_cases q1 with ⟨rfl, rfl, rfl, e0⟩ | ⟨b, o, x, rfl, hx, r1, rs, e0⟩
        · exact absurd rfl hn
        · rw [e0] at q2
          obtain ⟨h1, h2, h3, h4, h5, h6, h7⟩ := rowC_of r1
          have ev : vO h (some ⟨b, o, none⟩) n = vb 65536 (cutI x.1 o n) := by unfold vO; rw [e0]
          have r := ushr_short (c := c) h1 q2 (by rw [h2]; exact q3) (k := K) (by omega) (by omega) (by rw [h2]; omega)
          rw [h2, ← ev, l1] at r
          exact row_calls0 (T := tabH Tryz.prog extY conN hcV) Tryz.func65 ushr_bodyC (rows1 h7) (vals := [sl 0 o n c, .int .i64 (K : Nat)]) (fun v hv => by
            simp only [List.mem_cons, List.not_mem_nil, or_false] at hv
            rcases hv with rfl | rfl <;> rfl) (by rfl) r E (s := fun _ => b) (fitsR1 hx h5 h6 rfl)
  · cases hg
def hcW : Hc := altH 87 gFrom (altH 61 gUof (altH 81 gUlow (altH 98 gUbit (altH 65 gUshr (altH 64 gUshl (altH 82 gUadd (altH 66 gUsub (altH 83 gUcmp (altH 78 gUlen hcV)))))))))
theorem hcW_ok : HcOk hcW := altH_ok Tryz.func87 rfl gFrom_ok (altH_ok Tryz.func61 rfl gUof_ok (altH_ok Tryz.func81 rfl gUlow_ok (altH_ok Tryz.func98 rfl gUbit_ok (altH_ok Tryz.func65 rfl gUshr_ok (altH_ok Tryz.func64 rfl gUshl_ok (altH_ok Tryz.func82 rfl gUadd_ok (altH_ok Tryz.func66 rfl gUsub_ok (altH_ok Tryz.func83 rfl gUcmp_ok (altH_ok Tryz.func78 rfl gUlen_ok hcV_ok)))))))))
end Go.Proofs.YtjkgnbdeklploaaGreatDoor
namespace Go.Proofs.YtjkgnbdeklploaaGreatDoor
open Go.KRun Go.Nt
def bOf (m : Bool) (e : Int) (v : Value) : List Value × TypeId := ([.bool m, .int .i64 e, v], 81)
def sOf (b V : Nat) : Value := sl b 0 (d16 V).length (d16 V).length
def vRN (m : Bool) (e : Int) (v : Value) : Value := .agg #[.bool m, .int .i64 e, v]
end Go.Proofs.YtjkgnbdeklploaaGreatDoor
namespace Go.Proofs.YtjkgnbdeklploaaGreatDoor
open Go.KRun Go.Nt Go.Wd
set_option maxRecDepth 100000
def bNum : List Value × TypeId := ([.bool false, .int .i64 0, nilS], 81)
def nxt (h : Hp) (V : Nat) : Hp := h.push (wU (d16 V)) tU
def okOne1 : Bool × Bool := (decide (0 ≤ (1 : Int) ∧ (1 : Int) < 18446744073709551616), true)
end Go.Proofs.YtjkgnbdeklploaaGreatDoor
namespace Go.Proofs.YtjkgnbdeklploaaGreatDoor
open Go.KRun Go.Nt
set_option maxRecDepth 100000
/-! ### rows that were made -/
theorem d16_len {A k : Nat} (h : A < 2 ^ (16 * k)) : (d16 A).length ≤ k := db_len (by omega) k A (by rw [pow16]; exact h)
theorem rowOf_d16 {h : Hp} {b A : Nat} {ty : TypeId} (hb : h.blk? b = some (wU (d16 A), ty)) : rowOf h (some ⟨b, 0, none⟩) (d16 A).length = d16 A := by
  simp only [rowOf, hb]
  exact cut_wU _
theorem vO_d16 {h : Hp} {b A : Nat} {ty : TypeId} (hb : h.blk? b = some (wU (d16 A), ty)) : vO h (some ⟨b, 0, none⟩) (d16 A).length = A := by
  unfold vO
  rw [rowOf_d16 hb]
  exact vb_db (by omega) A
theorem vO_nil (h : Hp) : vO h none 0 = 0 := rfl
theorem rowP_d16 {h : Hp} {b A : Nat} (hb : h.blk? b = some (wU (d16 A), tU)) (hl : (d16 A).length < 1073741824) : rowP h (some ⟨b, 0, none⟩) (d16 A).length (d16 A).length = true := by
  simp only [rowP, hb, Bool.and_eq_true]
  refine ⟨rowC_wU (fun x hx => ⟨(d16_dg A x hx).1, by have := (d16_dg A x hx).2; omega⟩) (by omega) ?_, List.all_eq_true.2 (wU_still _)⟩
  unfold capOk
  simp only [Bool.or_eq_true, Bool.and_eq_true]
  exact .inl ⟨blt_iff.2 (by unfold dead; omega), Nat.ble_eq_true_of_le (Nat.le_refl _)⟩
theorem dgB_d16 {h : Hp} {b A : Nat} {ty : TypeId} (hb : h.blk? b = some (wU (d16 A), ty)) : dgB (rowOf h (some ⟨b, 0, none⟩) (d16 A).length) = true := by
  rw [rowOf_d16 hb]
  exact dgB_mk (d16_dg A)
theorem two_d16 {h : Hp} {b b' A A' : Nat} (hb : h.blk? b = some (wU (d16 A), tU)) (hb' : h.blk? b' = some (wU (d16 A'), tU)) (hl : (d16 A).length < 1073741800) (hl' : (d16 A').length < 1073741800) : two16 h (some ⟨b, 0, none⟩) (some ⟨b', 0, none⟩) (d16 A).length (d16 A).length (d16 A').length (d16 A').length = true := by
  unfold two16
  rw [rowP_d16 hb (by omega), rowP_d16 hb' (by omega), dgB_d16 hb, dgB_d16 hb']
  simp only [Bool.true_and]
  exact blt_iff.2 (by omega)
theorem two_nil {h : Hp} {b A : Nat} (hb : h.blk? b = some (wU (d16 A), tU)) (hl : (d16 A).length < 1073741800) : two16 h none (some ⟨b, 0, none⟩) 0 0 (d16 A).length (d16 A).length = true := by
  unfold two16
  rw [rowP_d16 hb (by omega), dgB_d16 hb]
  simp only [Bool.and_true]
  exact Bool.and_eq_true_iff.2 ⟨rfl, blt_iff.2 (by omega)⟩
theorem d16_pos {A : Nat} (h : 0 < (d16 A).length) : A ≠ 0 := by
  rintro rfl
  unfold d16 at h
  rw [db_zero] at h
  simp at h
end Go.Proofs.YtjkgnbdeklploaaGreatDoor
namespace Go.Proofs.YtjkgnbdeklploaaGreatDoor
open Go.KRun Go.Nt Go.Wd
set_option maxRecDepth 100000
theorem d16_one : (d16 1).length = 1 := by
  unfold d16
  rw [db_pos (by omega) (by omega), show 1 / 65536 = 0 from rfl, db_zero]
  rfl
theorem d16_zero {A : Nat} (h : ¬ 0 < (d16 A).length) : A = 0 := by
  have : d16 A = [] := List.length_eq_zero_iff.1 (by omega)
  exact (db_nil (by omega)).1 this
/-! ### its words -/
/-! ### the call -/
end Go.Proofs.YtjkgnbdeklploaaGreatDoor
