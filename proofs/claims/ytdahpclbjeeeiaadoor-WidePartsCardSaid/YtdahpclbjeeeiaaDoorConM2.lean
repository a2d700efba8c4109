/-
  The document's own product (tillerref01.Mul), II: a round of the rows, and the carries.
-/
import Derived.Test.YtdahpclbjeeeiaaDoorConM1
namespace Go.Proofs.YtdahpclbjeeeiaaDoor
open Go.KRun Go.Wd
set_option maxRecDepth 100000

def mz (d p q : Int) : Int := IntKind.u64.wrap (d + IntKind.u64.wrap (p * q))
theorem rmul_round (v0 v1 v8 v12 v13 v14 : Value) (i k p q d : Int) (xs ys zs : List Value) (b0 b1 b2 b3 : List Value × TypeId) (g : Nat → Value) :
    GoesT (evC (tabOf Tryd.prog extY conN true) 200 false (uIn Tryd.f7) (uFr v0 v1 v8 (i6 i) (i6 k) v12 v13 v14 ++ tl 94 g, uHp xs ys zs b0 b1 b2 b3, [tst true, at_, at_, val (u6 p), at_, val (u6 q), val (u6 d), at_, at_]) ⟨[], [], []⟩) 15 94 none
      (uFr v0 v1 v8 (i6 i) (i6 (ij k 1)) v12 v13 v14) (uHp xs ys (zs.set (0 + (ij i k).toNat * 1) (u6 (mz d p q))) b0 b1 b2 b3)
      [stu zs (ij i k), in_ 33 (ij i k), ceu zs (ij i k) d, ceu ys k q, in_ 16 k, ceu xs i p, in_ 16 i, in_ 33 (ij i k), (decide (k < 16), true)] := ⟨by kernel_rfl, by kernel_rfl, by kernel_rfl⟩
def cz (c z : Int) : Int := IntKind.u64.wrap (c + z)
def cq (c z : Int) : Int := IntKind.u64.wrap ((cz c z).tdiv 65536)
def digs : List Int → Int → List Int
  | z :: zs, c => (cz c z).tmod 65536 :: digs zs (cq c z)
  | [], _ => []
def digE : List Int → Int → Int
  | z :: zs, c => digE zs (cq c z)
  | [], c => c
def shm (j d : Int) : Int := IntKind.u64.wrap (d * 2 ^ min j.toNat 64)
def out4 (l : List Int) : Int := IntKind.u64.wrap (IntKind.u64.wrap (IntKind.u64.wrap (IntKind.u64.wrap (0 + shm 0 (l.getD 0 0)) + shm 16 (l.getD 1 0)) + shm 32 (l.getD 2 0)) + shm 48 (l.getD 3 0))
def outW (l : List Int) (k : Nat) : Int := out4 (l.drop (4 * k))
def oHp (xs ys zs os : List Value) (b0 b1 b2 b3 : List Value × TypeId) : Hp := ⟨8, [(os, 54), (zs, 53), (ys, 52), (xs, 52), b3, b2, b1, b0]⟩
def outs (l : List Int) : List Int := [outW l 0, outW l 1, outW l 2, outW l 3, outW l 4, outW l 5, outW l 6, outW l 7]
def dg (f : Nat → Int) : List Int := digs ((List.range 32).map f) 0
theorem rmul_end (v0 v1 v8 v10 v11 v12 v13 v14 : Value) (f : Nat → Int) (xs ys : List Value) (b0 b1 : List Value × TypeId) (g : Nat → Value) :
    GoesT (evC (tabOf Tryd.prog extY conN true) 2000 false (uEnd Tryd.f7) (uFr v0 v1 v8 v10 v11 v12 v13 v14 ++ tl 94 g, uHp xs ys (vU ((List.range 33).map f)) b0 b1 kZ kZ, []) ⟨[], [], []⟩) 6 103 (some none)
      [v0, v1, m_ 0, m_ 1, m_ 2, m_ 3] (oHp xs ys (vU ((List.range 33).map f)) (vU (outs (dg f))) b0 b1 (kW ⟨outW (dg f) 0, outW (dg f) 1, outW (dg f) 2, outW (dg f) 3⟩) (kW ⟨outW (dg f) 4, outW (dg f) 5, outW (dg f) 6, outW (dg f) 7⟩)) (List.replicate 32 zf) := ⟨by kernel_rfl, by kernel_rfl, by kernel_rfl⟩
end Go.Proofs.YtdahpclbjeeeiaaDoor
