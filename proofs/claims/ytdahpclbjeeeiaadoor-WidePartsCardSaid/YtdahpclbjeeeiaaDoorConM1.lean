/-
  The document's own product (tillerref01.Mul), I: piece by piece.
-/
import Derived.Test.YtdahpclbjeeeiaaDoorCon3
import Derived.Test.YtdahpclbjeeeiaaDoorRunT
namespace Go.Proofs.YtdahpclbjeeeiaaDoor
open Go.KRun Go.Wd
set_option maxRecDepth 100000

def vU (l : List Int) : List Value := l.map (Value.int .u64)
def m_ (n : Nat) : Value := .pointer (some ⟨n, 0, none⟩)
def kW (x : W4) : List Value × TypeId := ([.int .u64 x.a, .int .u64 x.b, .int .u64 x.c, .int .u64 x.d], 31)
def kZ : List Value × TypeId := ([.int .u64 0, .int .u64 0, .int .u64 0, .int .u64 0], 31)
def pt (a : Int) (j : Int) : Int := (a.fdiv (2 ^ min j.toNat 64)).tmod 65536
def x16 (x : W4) : List Int := [pt x.a 0, pt x.a 16, pt x.a 32, pt x.a 48, pt x.b 0, pt x.b 16, pt x.b 32, pt x.b 48, pt x.c 0, pt x.c 16, pt x.c 32, pt x.c 48, pt x.d 0, pt x.d 16, pt x.d 32, pt x.d 48]
def zf : Bool × Bool := (decide ((0 : Int) < 0), false)
def uPre (F : Func) : List Code := [cFst (cBody F), cFst (cSnd (cBody F)), cFst (cSnd (cSnd (cBody F))), cFst (cSnd (cSnd (cSnd (cBody F))))]
def uRest (F : Func) : Code := cSnd (cSnd (cSnd (cSnd (cBody F))))
def uR (F : Func) : Code := cFst (cFst (uRest F))
def uL (F : Func) : Code := cIn (cIn (cSnd (cFst (uRest F))))
def uHead (F : Func) : Code := cFst (uL F)
def uK (F : Func) : Code := cFst (cIn (cFst (cSnd (uL F))))
def uIn (F : Func) : Code := cIn (cIn (cSnd (cIn (cFst (cSnd (uL F))))))
def uTail (F : Func) : Code := cSnd (cSnd (uL F))
def uEnd (F : Func) : Code := cSnd (uRest F)
theorem rmul_body : Tryd.f7.body = some (seqs (uPre Tryd.f7) (.seq (.seq (uR Tryd.f7) (.block 2 (.loop (.seq (uHead Tryd.f7) (.seq (.block 3 (.seq (uK Tryd.f7) (.block 4 (.loop (uIn Tryd.f7))))) (uTail Tryd.f7)))))) (uEnd Tryd.f7))) := by kernel_rfl
def uHp (xs ys zs : List Value) (b0 b1 b2 b3 : List Value × TypeId) : Hp := ⟨7, [(zs, 53), (ys, 52), (xs, 52), b3, b2, b1, b0]⟩
def uFr (v0 v1 v8 v10 v11 v12 v13 v14 : Value) : List Value := [v0, v1, m_ 0, m_ 1, m_ 2, m_ 3, m_ 4, m_ 5, v8, m_ 6, v10, v11, v12, v13, v14]
theorem rmul_pre (x y : W4) : GoesT (evL (tabOf Tryd.prog extY conN true) 2000 (uPre Tryd.f7) ([vW x, vW y] ++ List.replicate 107 undef, ⟨0, []⟩, []) ⟨[], [], []⟩) 15 94 none
    (uFr (vW x) (vW y) (.int .i64 16) undef undef undef undef undef) (uHp (vU (x16 x)) (vU (x16 y)) (vU (List.replicate 33 0)) (kW x) (kW y) kZ kZ) (List.replicate 32 zf) := ⟨by kernel_rfl, by kernel_rfl, by kernel_rfl⟩
abbrev i6 (n : Int) : Value := .int .i64 n
abbrev u6 (n : Int) : Value := .int .u64 n
def in_ (n : Nat) (i : Int) : Bool × Bool := (decide (0 ≤ i ∧ i < (n : Int)), true)
def ceu (l : List Value) (i g : Int) : Bool × Bool := (cellIs (l[0 + i.toNat * 1]?) (.int .u64 g), true)
def stu (l : List Value) (i : Int) : Bool × Bool := (decide (0 + i.toNat * 1 < l.length), true)
def ij (i k : Int) : Int := IntKind.i64.wrap (i + k)
theorem rmul_r (v0 v1 v8 v10 v11 v12 v13 v14 : Value) (h : Hp) (g : Nat → Value) :
    GoesE (evC (tabOf Tryd.prog extY conN true) 200 false (uR Tryd.f7) (uFr v0 v1 v8 v10 v11 v12 v13 v14 ++ tl 94 g, h, []) ⟨[], [], []⟩) 15 94 none (uFr v0 v1 v8 (i6 0) v11 v12 v13 v14) h [] := by unfold GoesE; kernel_rfl
theorem rmul_head (d : Bool) (v0 v1 v8 v11 v12 v13 v14 : Value) (i : Int) (h : Hp) (g : Nat → Value) :
    GoesE (evC (tabOf Tryd.prog extY conN true) 200 false (uHead Tryd.f7) (uFr v0 v1 v8 (i6 i) v11 v12 v13 v14 ++ tl 94 g, h, [tst d]) ⟨[], [], []⟩) 15 94 (match d with | true => none | false => some (some 2)) (uFr v0 v1 v8 (i6 i) v11 v12 v13 v14) h [(decide (i < 16), d)] := by
  cases d <;> (unfold GoesE; kernel_rfl)
theorem rmul_k (v0 v1 v8 v11 v12 v13 v14 : Value) (i : Int) (h : Hp) (g : Nat → Value) :
    GoesE (evC (tabOf Tryd.prog extY conN true) 200 false (uK Tryd.f7) (uFr v0 v1 v8 (i6 i) v11 v12 v13 v14 ++ tl 94 g, h, []) ⟨[], [], []⟩) 15 94 none (uFr v0 v1 v8 (i6 i) (i6 0) v12 v13 v14) h [] := by unfold GoesE; kernel_rfl
theorem rmul_tail (v0 v1 v8 v11 v12 v13 v14 : Value) (i : Int) (h : Hp) (g : Nat → Value) :
    GoesE (evC (tabOf Tryd.prog extY conN true) 200 false (uTail Tryd.f7) (uFr v0 v1 v8 (i6 i) v11 v12 v13 v14 ++ tl 94 g, h, []) ⟨[], [], []⟩) 15 94 none (uFr v0 v1 v8 (i6 (ij i 1)) v11 v12 v13 v14) h [] := by unfold GoesE; kernel_rfl
theorem rmul_out (v0 v1 v8 v12 v13 v14 : Value) (i k : Int) (h : Hp) (g : Nat → Value) :
    GoesE (evC (tabOf Tryd.prog extY conN true) 200 false (uIn Tryd.f7) (uFr v0 v1 v8 (i6 i) (i6 k) v12 v13 v14 ++ tl 94 g, h, [tst false]) ⟨[], [], []⟩) 15 94 (some (some 4)) (uFr v0 v1 v8 (i6 i) (i6 k) v12 v13 v14) h [(decide (k < 16), false)] := by unfold GoesE; kernel_rfl
end Go.Proofs.YtdahpclbjeeeiaaDoor
