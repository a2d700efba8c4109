/-
  NumRn, RpE, RpF, RpH
-/
import Derived.Test.YtjlponbdflkbjaaGreatDoorG18
import Derived.Test.YtjlponbdflkbjaaGreatDoorG16
import Derived.Test.YtjlponbdflkbjaaGreatDoorG20
import Derived.Test.YtjlponbdflkbjaaGreatDoorG09
import Derived.Test.YtjlponbdflkbjaaGreatDoorG12
import Derived.Test.YtjlponbdflkbjaaGreatDoorG15
import Derived.Test.YtjlponbdflkbjaaGreatDoorG14
namespace Go.Rd
open Go.Wd
/-- a word with another one's bits put above -/
def orW (y w : Int) (s : Nat) : Int := IntKind.u64.wrap (((BitVec.ofInt 64 y ||| BitVec.ofInt 64 (IntKind.u64.wrap (IntKind.u64.wrap w * 2 ^ s))).toNat : Nat) : Int)
theorem wrapU64 {z : Int} (h0 : 0 ≤ z) (h1 : z < 18446744073709551616) : IntKind.u64.wrap z = z := by
  simp [IntKind.wrap, IntKind.bits, IntKind.signed]
  omega
theorem orW_add {y w s : Nat} (hs : s = 0 ∨ s = 32) (hy : y < 2 ^ s) (hw : w < 4294967296) : orW (y : Int) (w : Int) s = ((y + w * 2 ^ s : Nat) : Int) := by
  have e32 : (2 : Nat) ^ 32 = 4294967296 := rfl
  have e0 : (2 : Nat) ^ 0 = 1 := rfl
  have hb : y + w * 2 ^ s < 18446744073709551616 := by rcases hs with rfl | rfl <;> omega
  have hy2 : y < 18446744073709551616 := by omega
  have e1 : ((w : Nat) : Int) * 2 ^ s = ((w * 2 ^ s : Nat) : Int) := by rw [cast_pow, Int.natCast_mul]
  have h64 : ((2 : Nat) ^ 64 : Nat) = 18446744073709551616 := rfl
  have b1 : ∀ z : Nat, z < 18446744073709551616 → (BitVec.ofInt 64 (z : Int)).toNat = z := fun z hz => by
    rw [BitVec.toNat_ofInt]
    omega
  unfold orW
  rw [wrapU64 (z := (w : Int)) (by omega) (by omega), e1, wrapU64 (z := ((w * 2 ^ s : Nat) : Int)) (by omega) (by omega), BitVec.toNat_or, b1 y hy2, b1 _ (by omega)]
  have h := Nat.shiftLeft_add_eq_or_of_lt (i := s) hy w
  rw [Nat.shiftLeft_eq, Nat.or_comm] at h
  rw [← h, wrapU64 (by omega) (by omega), Nat.add_comm]
def put0 (x : W4) (w : Int) : W4 := ⟨orW x.a w 0, x.b, x.c, x.d⟩
theorem put0_ok {V w : Nat} (hV : V < 1) (hw : w < 4294967296) : put0 (ofN V) (w : Int) = ofN (V + 1 * w) := by
  have e : (ofN V).a = ((V : Nat) : Int) := by
    show ((V : Nat) : Int) % 18446744073709551616 = _
    omega
  have q := orW_add (y := V) (w := w) (s := 0) (by omega) (by have h1 : (2 : Nat) ^ 0 = 1 := rfl; omega) hw
  have h2 : (2 : Nat) ^ 0 = 1 := rfl
  rw [h2] at q
  unfold put0
  refine W4.ext' ?_ ?_ ?_ ?_
  · show orW (ofN V).a w 0 = ((V + 1 * w : Nat) : Int) % 18446744073709551616
    rw [e, q]
    omega
  · show ((V : Nat) : Int) / 18446744073709551616 % 18446744073709551616 = ((V + 1 * w : Nat) : Int) / 18446744073709551616 % 18446744073709551616
    omega
  · show ((V : Nat) : Int) / 340282366920938463463374607431768211456 % 18446744073709551616 = ((V + 1 * w : Nat) : Int) / 340282366920938463463374607431768211456 % 18446744073709551616
    omega
  · show ((V : Nat) : Int) / 6277101735386680763835789423207666416102355444464034512896 % 18446744073709551616 = ((V + 1 * w : Nat) : Int) / 6277101735386680763835789423207666416102355444464034512896 % 18446744073709551616
    omega
def put1 (x : W4) (w : Int) : W4 := ⟨orW x.a w 32, x.b, x.c, x.d⟩
theorem put1_ok {V w : Nat} (hV : V < 4294967296) (hw : w < 4294967296) : put1 (ofN V) (w : Int) = ofN (V + 4294967296 * w) := by
  have e : (ofN V).a = ((V : Nat) : Int) := by
    show ((V : Nat) : Int) % 18446744073709551616 = _
    omega
  have q := orW_add (y := V) (w := w) (s := 32) (by omega) (by have h1 : (2 : Nat) ^ 32 = 4294967296 := rfl; omega) hw
  have h2 : (2 : Nat) ^ 32 = 4294967296 := rfl
  rw [h2] at q
  unfold put1
  refine W4.ext' ?_ ?_ ?_ ?_
  · show orW (ofN V).a w 32 = ((V + 4294967296 * w : Nat) : Int) % 18446744073709551616
    rw [e, q]
    omega
  · show ((V : Nat) : Int) / 18446744073709551616 % 18446744073709551616 = ((V + 4294967296 * w : Nat) : Int) / 18446744073709551616 % 18446744073709551616
    omega
  · show ((V : Nat) : Int) / 340282366920938463463374607431768211456 % 18446744073709551616 = ((V + 4294967296 * w : Nat) : Int) / 340282366920938463463374607431768211456 % 18446744073709551616
    omega
  · show ((V : Nat) : Int) / 6277101735386680763835789423207666416102355444464034512896 % 18446744073709551616 = ((V + 4294967296 * w : Nat) : Int) / 6277101735386680763835789423207666416102355444464034512896 % 18446744073709551616
    omega
def put2 (x : W4) (w : Int) : W4 := ⟨x.a, orW x.b w 0, x.c, x.d⟩
theorem put2_ok {V w : Nat} (hV : V < 18446744073709551616) (hw : w < 4294967296) : put2 (ofN V) (w : Int) = ofN (V + 18446744073709551616 * w) := by
  have e : (ofN V).b = ((V / 18446744073709551616 : Nat) : Int) := by
    show ((V : Nat) : Int) / 18446744073709551616 % 18446744073709551616 = _
    omega
  have q := orW_add (y := V / 18446744073709551616) (w := w) (s := 0) (by omega) (by have h1 : (2 : Nat) ^ 0 = 1 := rfl; omega) hw
  have h2 : (2 : Nat) ^ 0 = 1 := rfl
  rw [h2] at q
  unfold put2
  refine W4.ext' ?_ ?_ ?_ ?_
  · show ((V : Nat) : Int) % 18446744073709551616 = ((V + 18446744073709551616 * w : Nat) : Int) % 18446744073709551616
    omega
  · show orW (ofN V).b w 0 = ((V + 18446744073709551616 * w : Nat) : Int) / 18446744073709551616 % 18446744073709551616
    rw [e, q]
    omega
  · show ((V : Nat) : Int) / 340282366920938463463374607431768211456 % 18446744073709551616 = ((V + 18446744073709551616 * w : Nat) : Int) / 340282366920938463463374607431768211456 % 18446744073709551616
    omega
  · show ((V : Nat) : Int) / 6277101735386680763835789423207666416102355444464034512896 % 18446744073709551616 = ((V + 18446744073709551616 * w : Nat) : Int) / 6277101735386680763835789423207666416102355444464034512896 % 18446744073709551616
    omega
def put3 (x : W4) (w : Int) : W4 := ⟨x.a, orW x.b w 32, x.c, x.d⟩
theorem put3_ok {V w : Nat} (hV : V < 79228162514264337593543950336) (hw : w < 4294967296) : put3 (ofN V) (w : Int) = ofN (V + 79228162514264337593543950336 * w) := by
  have e : (ofN V).b = ((V / 18446744073709551616 : Nat) : Int) := by
    show ((V : Nat) : Int) / 18446744073709551616 % 18446744073709551616 = _
    omega
  have q := orW_add (y := V / 18446744073709551616) (w := w) (s := 32) (by omega) (by have h1 : (2 : Nat) ^ 32 = 4294967296 := rfl; omega) hw
  have h2 : (2 : Nat) ^ 32 = 4294967296 := rfl
  rw [h2] at q
  unfold put3
  refine W4.ext' ?_ ?_ ?_ ?_
  · show ((V : Nat) : Int) % 18446744073709551616 = ((V + 79228162514264337593543950336 * w : Nat) : Int) % 18446744073709551616
    omega
  · show orW (ofN V).b w 32 = ((V + 79228162514264337593543950336 * w : Nat) : Int) / 18446744073709551616 % 18446744073709551616
    rw [e, q]
    omega
  · show ((V : Nat) : Int) / 340282366920938463463374607431768211456 % 18446744073709551616 = ((V + 79228162514264337593543950336 * w : Nat) : Int) / 340282366920938463463374607431768211456 % 18446744073709551616
    omega
  · show ((V : Nat) : Int) / 6277101735386680763835789423207666416102355444464034512896 % 18446744073709551616 = ((V + 79228162514264337593543950336 * w : Nat) : Int) / 6277101735386680763835789423207666416102355444464034512896 % 18446744073709551616
    omega
def put4 (x : W4) (w : Int) : W4 := ⟨x.a, x.b, orW x.c w 0, x.d⟩
theorem put4_ok {V w : Nat} (hV : V < 340282366920938463463374607431768211456) (hw : w < 4294967296) : put4 (ofN V) (w : Int) = ofN (V + 340282366920938463463374607431768211456 * w) := by
  have e : (ofN V).c = ((V / 340282366920938463463374607431768211456 : Nat) : Int) := by
    show ((V : Nat) : Int) / 340282366920938463463374607431768211456 % 18446744073709551616 = _
    omega
  have q := orW_add (y := V / 340282366920938463463374607431768211456) (w := w) (s := 0) (by omega) (by have h1 : (2 : Nat) ^ 0 = 1 := rfl; omega) hw
  have h2 : (2 : Nat) ^ 0 = 1 := rfl
  rw [h2] at q
  unfold put4
  refine W4.ext' ?_ ?_ ?_ ?_
  · show ((V : Nat) : Int) % 18446744073709551616 = ((V + 340282366920938463463374607431768211456 * w : Nat) : Int) % 18446744073709551616
    omega
  · show ((V : Nat) : Int) / 18446744073709551616 % 18446744073709551616 = ((V + 340282366920938463463374607431768211456 * w : Nat) : Int) / 18446744073709551616 % 18446744073709551616
    omega
  · show orW (ofN V).c w 0 = ((V + 340282366920938463463374607431768211456 * w : Nat) : Int) / 340282366920938463463374607431768211456 % 18446744073709551616
    rw [e, q]
    omega
  · show ((V : Nat) : Int) / 6277101735386680763835789423207666416102355444464034512896 % 18446744073709551616 = ((V + 340282366920938463463374607431768211456 * w : Nat) : Int) / 6277101735386680763835789423207666416102355444464034512896 % 18446744073709551616
    omega
def put5 (x : W4) (w : Int) : W4 := ⟨x.a, x.b, orW x.c w 32, x.d⟩
theorem put5_ok {V w : Nat} (hV : V < 1461501637330902918203684832716283019655932542976) (hw : w < 4294967296) : put5 (ofN V) (w : Int) = ofN (V + 1461501637330902918203684832716283019655932542976 * w) := by
  have e : (ofN V).c = ((V / 340282366920938463463374607431768211456 : Nat) : Int) := by
    show ((V : Nat) : Int) / 340282366920938463463374607431768211456 % 18446744073709551616 = _
    omega
  have q := orW_add (y := V / 340282366920938463463374607431768211456) (w := w) (s := 32) (by omega) (by have h1 : (2 : Nat) ^ 32 = 4294967296 := rfl; omega) hw
  have h2 : (2 : Nat) ^ 32 = 4294967296 := rfl
  rw [h2] at q
  unfold put5
  refine W4.ext' ?_ ?_ ?_ ?_
  · show ((V : Nat) : Int) % 18446744073709551616 = ((V + 1461501637330902918203684832716283019655932542976 * w : Nat) : Int) % 18446744073709551616
    omega
  · show ((V : Nat) : Int) / 18446744073709551616 % 18446744073709551616 = ((V + 1461501637330902918203684832716283019655932542976 * w : Nat) : Int) / 18446744073709551616 % 18446744073709551616
    omega
  · show orW (ofN V).c w 32 = ((V + 1461501637330902918203684832716283019655932542976 * w : Nat) : Int) / 340282366920938463463374607431768211456 % 18446744073709551616
    rw [e, q]
    omega
  · show ((V : Nat) : Int) / 6277101735386680763835789423207666416102355444464034512896 % 18446744073709551616 = ((V + 1461501637330902918203684832716283019655932542976 * w : Nat) : Int) / 6277101735386680763835789423207666416102355444464034512896 % 18446744073709551616
    omega
def put6 (x : W4) (w : Int) : W4 := ⟨x.a, x.b, x.c, orW x.d w 0⟩
theorem put6_ok {V w : Nat} (hV : V < 6277101735386680763835789423207666416102355444464034512896) (hw : w < 4294967296) : put6 (ofN V) (w : Int) = ofN (V + 6277101735386680763835789423207666416102355444464034512896 * w) := by
  have e : (ofN V).d = ((V / 6277101735386680763835789423207666416102355444464034512896 : Nat) : Int) := by
    show ((V : Nat) : Int) / 6277101735386680763835789423207666416102355444464034512896 % 18446744073709551616 = _
    omega
  have q := orW_add (y := V / 6277101735386680763835789423207666416102355444464034512896) (w := w) (s := 0) (by omega) (by have h1 : (2 : Nat) ^ 0 = 1 := rfl; omega) hw
  have h2 : (2 : Nat) ^ 0 = 1 := rfl
  rw [h2] at q
  unfold put6
  refine W4.ext' ?_ ?_ ?_ ?_
  · show ((V : Nat) : Int) % 18446744073709551616 = ((V + 6277101735386680763835789423207666416102355444464034512896 * w : Nat) : Int) % 18446744073709551616
    omega
  · show ((V : Nat) : Int) / 18446744073709551616 % 18446744073709551616 = ((V + 6277101735386680763835789423207666416102355444464034512896 * w : Nat) : Int) / 18446744073709551616 % 18446744073709551616
    omega
  · show ((V : Nat) : Int) / 340282366920938463463374607431768211456 % 18446744073709551616 = ((V + 6277101735386680763835789423207666416102355444464034512896 * w : Nat) : Int) / 340282366920938463463374607431768211456 % 18446744073709551616
    omega
  · show orW (ofN V).d w 0 = ((V + 6277101735386680763835789423207666416102355444464034512896 * w : Nat) : Int) / 6277101735386680763835789423207666416102355444464034512896 % 18446744073709551616
    rw [e, q]
    omega
def put7 (x : W4) (w : Int) : W4 := ⟨x.a, x.b, x.c, orW x.d w 32⟩
theorem put7_ok {V w : Nat} (hV : V < 26959946667150639794667015087019630673637144422540572481103610249216) (hw : w < 4294967296) : put7 (ofN V) (w : Int) = ofN (V + 26959946667150639794667015087019630673637144422540572481103610249216 * w) := by
  have e : (ofN V).d = ((V / 6277101735386680763835789423207666416102355444464034512896 : Nat) : Int) := by
    show ((V : Nat) : Int) / 6277101735386680763835789423207666416102355444464034512896 % 18446744073709551616 = _
    omega
  have q := orW_add (y := V / 6277101735386680763835789423207666416102355444464034512896) (w := w) (s := 32) (by omega) (by have h1 : (2 : Nat) ^ 32 = 4294967296 := rfl; omega) hw
  have h2 : (2 : Nat) ^ 32 = 4294967296 := rfl
  rw [h2] at q
  unfold put7
  refine W4.ext' ?_ ?_ ?_ ?_
  · show ((V : Nat) : Int) % 18446744073709551616 = ((V + 26959946667150639794667015087019630673637144422540572481103610249216 * w : Nat) : Int) % 18446744073709551616
    omega
  · show ((V : Nat) : Int) / 18446744073709551616 % 18446744073709551616 = ((V + 26959946667150639794667015087019630673637144422540572481103610249216 * w : Nat) : Int) / 18446744073709551616 % 18446744073709551616
    omega
  · show ((V : Nat) : Int) / 340282366920938463463374607431768211456 % 18446744073709551616 = ((V + 26959946667150639794667015087019630673637144422540572481103610249216 * w : Nat) : Int) / 340282366920938463463374607431768211456 % 18446744073709551616
    omega
  · show orW (ofN V).d w 32 = ((V + 26959946667150639794667015087019630673637144422540572481103610249216 * w : Nat) : Int) / 6277101735386680763835789423207666416102355444464034512896 % 18446744073709551616
    rw [e, q]
    omega
end Go.Rd
namespace Go.Proofs.YtjlponbdflkbjaaGreatDoor
open Go.KRun Go.Nt Go.Rd Go.Wd
set_option maxRecDepth 100000
def uN (x : Int) : Value := .int .u32 x
def nB9 (n : Bool) (e : Int) (x : W4) (b : Bool) : List Value × TypeId := ([.bool n, .int .i64 e, .int .u64 x.a, .int .u64 x.b, .int .u64 x.c, .int .u64 x.d, .bool b], 53)
def hgM (l : List Value) (e : Int) (x : W4) (b : Bool) : Hp := ⟨3, [nB9 false e x b, nB9 false 0 ⟨0, 0, 0, 0⟩ false, (l, tR)]⟩
def hgL1 (F : Func) : Code := cIn (cIn (cSnd (sP F 3)))
def hgL2 (F : Func) : Code := cIn (cIn (cSnd (sP F 4)))
theorem hg_body : Tryz.f78.body = some (seqs [sP Tryz.f78 0, sP Tryz.f78 1, sP Tryz.f78 2] (.seq (.seq (cFst (sP Tryz.f78 3)) (.block 0 (.loop (hgL1 Tryz.f78)))) (.seq (.seq (cFst (sP Tryz.f78 4)) (.block 2 (.loop (hgL2 Tryz.f78)))) (sK Tryz.f78 5)))) := by kernel_rfl
def q10 (q : Nat → Value) : List Value := [q 0, q 1, q 2, q 3, q 4, q 5, q 6, q 7, q 8, q 9]
def q11 (q : Nat → Value) : List Value := [q 0, q 1, q 2, q 3, q 4, q 5, q 6, q 7, q 8, q 9, q 10]
def hgA (a : Value) (e : Int) (m : Bool) (k : Int) (v10 v11 v12 : Value) (q : Nat → Value) : List Value := [a, .int .i64 e, .bool m, undef, undef, undef, pO 1, .int .i64 k, pO 2, undef, v10, v11, v12] ++ q10 q
def hgB (a : Value) (e : Int) (m : Bool) (v10 v11 v12 : Value) (q : Nat → Value) (o c k : Nat) (i : Int) : List Value := hgA a e m (k : Nat) v10 v11 v12 q ++ [a, .int .i64 (k : Nat), sl 0 o k c, .int .i64 (k : Nat), .int .i64 i]
def hgC (a : Value) (e : Int) (m : Bool) (v10 v11 v12 : Value) (q q' : Nat → Value) (o n c k : Nat) (j i : Int) : List Value := hgB a e m v10 v11 v12 q o c k j ++ q11 q' ++ [a, .int .i64 (k : Nat), sl 0 (o + k * 1) (n - k) (c - k), .int .i64 ((n - k : Nat) : Int), .int .i64 i]
def lowI (n : Nat) : Int := if 0 > IntKind.i64.wrap ((n : Int) - 8) then 0 else IntKind.i64.wrap ((n : Int) - 8)
def hgE (n : Nat) (e : Int) : Int := IntKind.i64.wrap (e + IntKind.i64.wrap (32 * lowI n))
def hgQ (o n c : Nat) (e : Int) (m : Bool) : Nat → Value := fun i => [sl 0 o n c, .int .i64 (n : Nat), .int .i64 (IntKind.i64.wrap ((n : Int) - 8)), .int .i64 (lowI n), .int .i64 e, .int .i64 (lowI n), .int .i64 (IntKind.i64.wrap (32 * lowI n)), .int .i64 (hgE n e), .bool m, .agg #[.bool false, .int .i64 (hgE n e), .int .u64 0, .int .u64 0, .int .u64 0, .int .u64 0, .bool m]].getD i undef
theorem hg_pre (l : List Value) (o n c : Nat) (e : Int) (m : Bool) : GoesT (evL (tabH Tryz.prog extY conN hcN) 100 [sP Tryz.f78 0, sP Tryz.f78 1, sP Tryz.f78 2] ([sl 0 o n c, .int .i64 e, .bool m] ++ List.replicate 62 undef, ⟨1, [(l, tR)]⟩, []) ⟨[], [], []⟩) 23 42 none (hgA (sl 0 o n c) e m (lowI n) undef undef undef (hgQ o n c e m)) (hgM l (hgE n e) ⟨0, 0, 0, 0⟩ m) [] := ⟨by kernel_rfl, by kernel_rfl, by kernel_rfl⟩
theorem hg_i1 (l : List Value) (o n c k : Nat) (e E : Int) (m : Bool) (x : W4) (q g : Nat → Value) : GoesT (evC (tabH Tryz.prog extY conN hcN) 100 false (cFst (sP Tryz.f78 3)) (hgA (sl 0 o n c) e m (k : Nat) undef undef undef q ++ tl 42 g, hgM l E x m, [num 0]) ⟨[], [], []⟩) 28 37 none (hgB (sl 0 o n c) e m undef undef undef q o c k 0) (hgM l E x m) [(smallC c, true), (okPart 0 (k : Nat) (c : Nat) (c : Nat), true), (decide ((c : Int) = 0 ∧ (0 : Int) ≠ 0), false)] := ⟨by kernel_rfl, by kernel_rfl, by kernel_rfl⟩
theorem hg_x1 (l : List Value) (a : Value) (o c k : Nat) (e E i : Int) (m mo : Bool) (x : W4) (v10 : Value) (q g : Nat → Value) : GoesT (evC (tabH Tryz.prog extY conN hcN) 100 false (hgL1 Tryz.f78) (hgB a e m v10 undef undef q o c k i ++ tl 37 g, hgM l E x mo, [cmp false]) ⟨[], [], []⟩) 28 37 (some (some 0)) (hgB a e m v10 undef undef q o c k i) (hgM l E x mo) [(decide (i < (k : Nat)), false)] := ⟨by kernel_rfl, by kernel_rfl, by kernel_rfl⟩
theorem hg_gf (l : List Value) (a : Value) (o c k : Nat) (e E i w : Int) (m d : Bool) (x : W4) (v10 : Value) (q g : Nat → Value) : GoesT (evC (tabH Tryz.prog extY conN hcN) 100 false (hgL1 Tryz.f78) (hgB a e m v10 undef undef q o c k i ++ tl 37 g, hgM l E x false, [cmp true, at_, val (uN w), cmp d]) ⟨[], [], []⟩) 28 37 none (hgB a e m (uN w) undef undef q o c k (IntKind.i64.wrap (i + 1))) (hgM l E x d) [(w != 0, d), (cellIs (l[o + i.toNat * 1]?) (uN w), true), (decide (0 ≤ i ∧ i < (k : Nat)), true), (decide (i < (k : Nat)), true)] := ⟨by kernel_rfl, by kernel_rfl, by kernel_rfl⟩
theorem hg_gt (l : List Value) (a : Value) (o c k : Nat) (e E i w : Int) (m : Bool) (x : W4) (v10 : Value) (q g : Nat → Value) : GoesT (evC (tabH Tryz.prog extY conN hcN) 100 false (hgL1 Tryz.f78) (hgB a e m v10 undef undef q o c k i ++ tl 37 g, hgM l E x true, [cmp true, at_, val (uN w)]) ⟨[], [], []⟩) 28 37 none (hgB a e m (uN w) undef undef q o c k (IntKind.i64.wrap (i + 1))) (hgM l E x true) [(cellIs (l[o + i.toNat * 1]?) (uN w), true), (decide (0 ≤ i ∧ i < (k : Nat)), true), (decide (i < (k : Nat)), true)] := ⟨by kernel_rfl, by kernel_rfl, by kernel_rfl⟩
theorem hg_i2 (l : List Value) (o n c k : Nat) (e E j : Int) (m mo : Bool) (x : W4) (v10 : Value) (q g : Nat → Value) : GoesT (evC (tabH Tryz.prog extY conN hcN) 100 false (cFst (sP Tryz.f78 4)) (hgB (sl 0 o n c) e m v10 undef undef q o c k j ++ tl 37 g, hgM l E x mo, [num 0]) ⟨[], [], []⟩) 44 21 none (hgC (sl 0 o n c) e m v10 undef undef q g o n c k j 0) (hgM l E x mo) [(smallC c, true), (okPart (k : Nat) (n : Nat) (c : Nat) (c : Nat), true), (decide ((c : Int) = (k : Nat) ∧ ((k : Nat) : Int) ≠ 0), false)] := ⟨by kernel_rfl, by kernel_rfl, by kernel_rfl⟩
theorem hg_x2 (l : List Value) (a : Value) (o n c k : Nat) (e E j i : Int) (m mo : Bool) (x : W4) (v10 v11 v12 : Value) (q q' g : Nat → Value) : GoesT (evC (tabH Tryz.prog extY conN hcN) 100 false (hgL2 Tryz.f78) (hgC a e m v10 v11 v12 q q' o n c k j i ++ tl 21 g, hgM l E x mo, [cmp false]) ⟨[], [], []⟩) 44 21 (some (some 2)) (hgC a e m v10 v11 v12 q q' o n c k j i) (hgM l E x mo) [(decide (i < ((n - k : Nat) : Int)), false)] := ⟨by kernel_rfl, by kernel_rfl, by kernel_rfl⟩
theorem hg_s0 (l : List Value) (a : Value) (o n c k : Nat) (e E j w : Int) (m mo : Bool) (x : W4) (v10 v11 v12 : Value) (q q' g : Nat → Value) : GoesT (evC (tabH Tryz.prog extY conN hcN) 100 false (hgL2 Tryz.f78) (hgC a e m v10 v11 v12 q q' o n c k j 0 ++ tl 21 g, hgM l E x mo, [cmp true, at_, val (uN w)]) ⟨[], [], []⟩) 44 21 none (hgC a e m v10 (.int .i64 0) (uN w) q q' o n c k j 1) (hgM l E (put0 x w) mo) [(false, false), (cellIs (l[o + k * 1 + 0]?) (uN w), true), (decide ((0 : Int) ≤ 0 ∧ (0 : Int) < ((n - k : Nat) : Int)), true), (decide ((0 : Int) < ((n - k : Nat) : Int)), true)] := ⟨by kernel_rfl, by kernel_rfl, by kernel_rfl⟩
theorem hg_s1 (l : List Value) (a : Value) (o n c k : Nat) (e E j w : Int) (m mo : Bool) (x : W4) (v10 v11 v12 : Value) (q q' g : Nat → Value) : GoesT (evC (tabH Tryz.prog extY conN hcN) 100 false (hgL2 Tryz.f78) (hgC a e m v10 v11 v12 q q' o n c k j 1 ++ tl 21 g, hgM l E x mo, [cmp true, at_, val (uN w)]) ⟨[], [], []⟩) 44 21 none (hgC a e m v10 (.int .i64 1) (uN w) q q' o n c k j 2) (hgM l E (put1 x w) mo) [(false, false), (cellIs (l[o + k * 1 + 1]?) (uN w), true), (decide ((0 : Int) ≤ 1 ∧ (1 : Int) < ((n - k : Nat) : Int)), true), (decide ((1 : Int) < ((n - k : Nat) : Int)), true)] := ⟨by kernel_rfl, by kernel_rfl, by kernel_rfl⟩
theorem hg_s2 (l : List Value) (a : Value) (o n c k : Nat) (e E j w : Int) (m mo : Bool) (x : W4) (v10 v11 v12 : Value) (q q' g : Nat → Value) : GoesT (evC (tabH Tryz.prog extY conN hcN) 100 false (hgL2 Tryz.f78) (hgC a e m v10 v11 v12 q q' o n c k j 2 ++ tl 21 g, hgM l E x mo, [cmp true, at_, val (uN w)]) ⟨[], [], []⟩) 44 21 none (hgC a e m v10 (.int .i64 2) (uN w) q q' o n c k j 3) (hgM l E (put2 x w) mo) [(false, false), (cellIs (l[o + k * 1 + 2]?) (uN w), true), (decide ((0 : Int) ≤ 2 ∧ (2 : Int) < ((n - k : Nat) : Int)), true), (decide ((2 : Int) < ((n - k : Nat) : Int)), true)] := ⟨by kernel_rfl, by kernel_rfl, by kernel_rfl⟩
theorem hg_s3 (l : List Value) (a : Value) (o n c k : Nat) (e E j w : Int) (m mo : Bool) (x : W4) (v10 v11 v12 : Value) (q q' g : Nat → Value) : GoesT (evC (tabH Tryz.prog extY conN hcN) 100 false (hgL2 Tryz.f78) (hgC a e m v10 v11 v12 q q' o n c k j 3 ++ tl 21 g, hgM l E x mo, [cmp true, at_, val (uN w)]) ⟨[], [], []⟩) 44 21 none (hgC a e m v10 (.int .i64 3) (uN w) q q' o n c k j 4) (hgM l E (put3 x w) mo) [(false, false), (cellIs (l[o + k * 1 + 3]?) (uN w), true), (decide ((0 : Int) ≤ 3 ∧ (3 : Int) < ((n - k : Nat) : Int)), true), (decide ((3 : Int) < ((n - k : Nat) : Int)), true)] := ⟨by kernel_rfl, by kernel_rfl, by kernel_rfl⟩
theorem hg_s4 (l : List Value) (a : Value) (o n c k : Nat) (e E j w : Int) (m mo : Bool) (x : W4) (v10 v11 v12 : Value) (q q' g : Nat → Value) : GoesT (evC (tabH Tryz.prog extY conN hcN) 100 false (hgL2 Tryz.f78) (hgC a e m v10 v11 v12 q q' o n c k j 4 ++ tl 21 g, hgM l E x mo, [cmp true, at_, val (uN w)]) ⟨[], [], []⟩) 44 21 none (hgC a e m v10 (.int .i64 4) (uN w) q q' o n c k j 5) (hgM l E (put4 x w) mo) [(false, false), (cellIs (l[o + k * 1 + 4]?) (uN w), true), (decide ((0 : Int) ≤ 4 ∧ (4 : Int) < ((n - k : Nat) : Int)), true), (decide ((4 : Int) < ((n - k : Nat) : Int)), true)] := ⟨by kernel_rfl, by kernel_rfl, by kernel_rfl⟩
theorem hg_s5 (l : List Value) (a : Value) (o n c k : Nat) (e E j w : Int) (m mo : Bool) (x : W4) (v10 v11 v12 : Value) (q q' g : Nat → Value) : GoesT (evC (tabH Tryz.prog extY conN hcN) 100 false (hgL2 Tryz.f78) (hgC a e m v10 v11 v12 q q' o n c k j 5 ++ tl 21 g, hgM l E x mo, [cmp true, at_, val (uN w)]) ⟨[], [], []⟩) 44 21 none (hgC a e m v10 (.int .i64 5) (uN w) q q' o n c k j 6) (hgM l E (put5 x w) mo) [(false, false), (cellIs (l[o + k * 1 + 5]?) (uN w), true), (decide ((0 : Int) ≤ 5 ∧ (5 : Int) < ((n - k : Nat) : Int)), true), (decide ((5 : Int) < ((n - k : Nat) : Int)), true)] := ⟨by kernel_rfl, by kernel_rfl, by kernel_rfl⟩
theorem hg_s6 (l : List Value) (a : Value) (o n c k : Nat) (e E j w : Int) (m mo : Bool) (x : W4) (v10 v11 v12 : Value) (q q' g : Nat → Value) : GoesT (evC (tabH Tryz.prog extY conN hcN) 100 false (hgL2 Tryz.f78) (hgC a e m v10 v11 v12 q q' o n c k j 6 ++ tl 21 g, hgM l E x mo, [cmp true, at_, val (uN w)]) ⟨[], [], []⟩) 44 21 none (hgC a e m v10 (.int .i64 6) (uN w) q q' o n c k j 7) (hgM l E (put6 x w) mo) [(false, false), (cellIs (l[o + k * 1 + 6]?) (uN w), true), (decide ((0 : Int) ≤ 6 ∧ (6 : Int) < ((n - k : Nat) : Int)), true), (decide ((6 : Int) < ((n - k : Nat) : Int)), true)] := ⟨by kernel_rfl, by kernel_rfl, by kernel_rfl⟩
theorem hg_s7 (l : List Value) (a : Value) (o n c k : Nat) (e E j w : Int) (m mo : Bool) (x : W4) (v10 v11 v12 : Value) (q q' g : Nat → Value) : GoesT (evC (tabH Tryz.prog extY conN hcN) 100 false (hgL2 Tryz.f78) (hgC a e m v10 v11 v12 q q' o n c k j 7 ++ tl 21 g, hgM l E x mo, [cmp true, at_, val (uN w)]) ⟨[], [], []⟩) 44 21 none (hgC a e m v10 (.int .i64 7) (uN w) q q' o n c k j 8) (hgM l E (put7 x w) mo) [(false, false), (cellIs (l[o + k * 1 + 7]?) (uN w), true), (decide ((0 : Int) ≤ 7 ∧ (7 : Int) < ((n - k : Nat) : Int)), true), (decide ((7 : Int) < ((n - k : Nat) : Int)), true)] := ⟨by kernel_rfl, by kernel_rfl, by kernel_rfl⟩
theorem hg_e (l : List Value) (a : Value) (o n c k : Nat) (e E j i : Int) (m mo : Bool) (x : W4) (v10 v11 v12 : Value) (q q' g : Nat → Value) : GoesT (evC (tabH Tryz.prog extY conN hcN) 100 false (sK Tryz.f78 5) (hgC a e m v10 v11 v12 q q' o n c k j i ++ tl 21 g, hgM l E x mo, []) ⟨[], [], []⟩) 7 58 (some none) ([a, .int .i64 e, .bool m, undef, undef, undef, pO 1]) (⟨3, [nB9 false E x mo, nB9 false E x mo, (l, tR)]⟩) [] := ⟨by kernel_rfl, by kernel_rfl, by kernel_rfl⟩
theorem vbz {L : List Int} (h : ∀ x ∈ L, Dg 4294967296 x) (k : Nat) : vb 4294967296 (L.take k) < 4294967296 ^ k := by
  have h1 := vb_lt (b := 4294967296) (by omega) (L.take k) (fun x hx => h x (List.mem_of_mem_take hx))
  have h2 : (L.take k).length ≤ k := by rw [List.length_take]; omega
  exact Nat.lt_of_lt_of_le h1 (Nat.pow_le_pow_right (by omega) h2)
def anyW (L : List Int) (m : Bool) : Bool := m || decide (vb 4294967296 L ≠ 0)
theorem anyW_next {L : List Int} {m : Bool} {i : Nat} (hL : ∀ x ∈ L, Dg 4294967296 x) (hi : i < L.length) : anyW (L.take (i + 1)) m = (anyW (L.take i) m || (L.getD i 0 != 0)) := by
  have hd : 0 ≤ L.getD i 0 := by
    have : L.getD i 0 ∈ L := by
      rw [List.getD_eq_getElem?_getD, List.getElem?_eq_getElem hi, Option.getD_some]
      exact List.getElem_mem hi
    exact (hL _ this).1
  have e := vb_take 4294967296 L i
  have hp : 0 < 4294967296 ^ i := Nat.pow_pos (by omega)
  unfold anyW
  rw [Bool.or_assoc]
  congr 1
  by_cases h0 : L.getD i 0 = 0
  · rw [h0] at e
    rw [e, h0]
    simp
  · have h1 : vb 4294967296 (L.take (i + 1)) ≠ 0 := by
      rw [e]
      have h2 : 0 < 4294967296 ^ i * (L.getD i 0).toNat := Nat.mul_pos hp (by omega)
      omega
    rw [decide_eq_true h1, show (L.getD i 0 != 0) = true by simpa using h0, Bool.or_true]
def hgJ1 (l : List Value) (a : Value) (o c k : Nat) (e E : Int) (m : Bool) (q : Nat → Value) (L : List Int) (i : Nat) (y : Lf) : Prop := ∃ (v10 : Value) (g : Nat → Value), i ≤ k ∧ y.1 = hgB a e m v10 undef undef q o c k i ++ tl 37 g ∧ y.2.1 = hgM l E ⟨0, 0, 0, 0⟩ (anyW (L.take i) m)
theorem hg_round1 {l : List Value} {a : Value} {o c k : Nat} {e E : Int} {m : Bool} {q : Nat → Value} {L : List Int} (hR : Row l o L) (hk : k ≤ L.length) (hk2 : k ≤ 100000) (r : Nat) (y : Lf) (h : ∃ i, r = k - i ∧ hgJ1 l a o c k e E m q L i y) :
    Runs (tabH Tryz.prog extY conN hcN) (hgL1 Tryz.f78) y fun e' z => match e' with | none => ∃ r', r' < r ∧ ∃ i, r' = k - i ∧ hgJ1 l a o c k e E m q L i z | some none => False | some (some id') => id' = 0 ∧ hgJ1 l a o c k e E m q L k z := by
  have hT := tabH_ok conN_ok hcN_ok
  obtain ⟨i, hr, v10, g, hi, ht, hh⟩ := h
  obtain ⟨t, h', sc⟩ := y
  simp only at ht hh
  subst ht hh
  by_cases hc : i < k
  · have lA : decide (((i : Nat) : Int) < (k : Nat)) = true := decide_eq_true (by omega)
    have lI : decide ((0 : Int) ≤ (i : Nat) ∧ ((i : Nat) : Int) < (k : Nat)) = true := decide_eq_true ⟨by omega, by omega⟩
    have ew : IntKind.i64.wrap (((i : Nat) : Int) + 1) = ((i + 1 : Nat) : Int) := by rw [wrapI (by omega) (by omega)]; omega
    have lC : cellIs (l[o + ((i : Nat) : Int).toNat * 1]?) (uN (L.getD i 0)) = true := by
      rw [Int.toNat_natCast, Nat.mul_one, hR.cell (by omega)]
      simp [cellIs, uN]
    have hn := anyW_next (m := m) hR.rng (show i < L.length by omega)
    cases hb : anyW (L.take i) m with
    | true =>
      have hg := hg_gt l a o c k e E (i : Nat) (L.getD i 0) m ⟨0, 0, 0, 0⟩ v10 q g
      rw [ew] at hg
      rw [hb, Bool.true_or] at hn
      refine (goesT_runs (s0 := sc) hT hg (okCons lC (okCons lI (okL1 lA)))).mono fun e' z he => ?_
      obtain ⟨rfl, ⟨g', z1⟩, z2⟩ := he
      exact ⟨k - (i + 1), by omega, i + 1, rfl, _, g', by omega, z1, by rw [z2, hn]⟩
    | false =>
      have hg := hg_gf l a o c k e E (i : Nat) (L.getD i 0) m (L.getD i 0 != 0) ⟨0, 0, 0, 0⟩ v10 q g
      rw [ew] at hg
      rw [hb, Bool.false_or] at hn
      refine (goesT_runs (s0 := sc) hT hg (okCons rfl (okCons lC (okCons lI (okL1 lA))))).mono fun e' z he => ?_
      obtain ⟨rfl, ⟨g', z1⟩, z2⟩ := he
      exact ⟨k - (i + 1), by omega, i + 1, rfl, _, g', by omega, z1, by rw [z2, hn]⟩
  · have : i = k := by omega
    subst this
    refine (goesT_runs (s0 := sc) hT (hg_x1 l a o c i e E (i : Nat) m _ _ v10 q g) (okL1 (decide_eq_false (by omega)))).mono fun e' z he => ?_
    obtain ⟨rfl, ⟨g', z1⟩, z2⟩ := he
    exact ⟨rfl, v10, g', hi, z1, z2⟩
def hgJ2 (l : List Value) (a : Value) (o n c k : Nat) (e E j : Int) (m mo : Bool) (q q' : Nat → Value) (K : List Int) (i : Nat) (y : Lf) : Prop := ∃ (v10 v11 v12 : Value) (g : Nat → Value), i ≤ n - k ∧ y.1 = hgC a e m v10 v11 v12 q q' o n c k j i ++ tl 21 g ∧ y.2.1 = hgM l E (ofN (vb 4294967296 (K.take i))) mo
theorem hg_round2 {l : List Value} {a : Value} {o n c k : Nat} {e E j : Int} {m mo : Bool} {q q' : Nat → Value} {K : List Int} (hR : ∀ i, i < n - k → l[o + k * 1 + i]? = some (uN (K.getD i 0))) (hK : ∀ x ∈ K, Dg 4294967296 x) (hn : n - k ≤ 8) (hl : K.length = n - k) (r : Nat) (y : Lf) (h : ∃ i, r = n - k - i ∧ hgJ2 l a o n c k e E j m mo q q' K i y) :
    Runs (tabH Tryz.prog extY conN hcN) (hgL2 Tryz.f78) y fun e' z => match e' with | none => ∃ r', r' < r ∧ ∃ i, r' = n - k - i ∧ hgJ2 l a o n c k e E j m mo q q' K i z | some none => False | some (some id') => id' = 2 ∧ hgJ2 l a o n c k e E j m mo q q' K (n - k) z := by
  have hT := tabH_ok conN_ok hcN_ok
  obtain ⟨i, hr, v10, v11, v12, g, hi, ht, hh⟩ := h
  obtain ⟨t, h', sc⟩ := y
  simp only at ht hh
  subst ht hh
  by_cases hc : i < n - k
  · have hw : Dg 4294967296 (K.getD i 0) := by
      refine hK _ ?_
      rw [List.getD_eq_getElem?_getD, List.getElem?_eq_getElem (by omega), Option.getD_some]
      exact List.getElem_mem (by omega)
    obtain ⟨w, ew⟩ : ∃ w : Nat, K.getD i 0 = (w : Int) := ⟨(K.getD i 0).toNat, by have := hw.1; omega⟩
    have hw2 : w < 4294967296 := by have := hw.2; rw [ew] at this; omega
    have lC : cellIs (l[o + k * 1 + i]?) (uN (w : Int)) = true := by
      rw [hR i hc, ew]
      simp [cellIs, uN]
    have hV := vbz hK i
    have ev := vb_take 4294967296 K i
    rw [ew, Int.toNat_natCast] at ev
    obtain ⟨V, hVe⟩ : ∃ V, V = vb 4294967296 (K.take i) := ⟨_, rfl⟩
    rw [← hVe] at hV ev
    rw [← hVe]
    have i8 : i = 0 ∨ i = 1 ∨ i = 2 ∨ i = 3 ∨ i = 4 ∨ i = 5 ∨ i = 6 ∨ i = 7 := by omega
    have fin : ∀ (s' : Lf) (X : W4), X = ofN (vb 4294967296 (K.take (i + 1))) → (∃ g', s'.1 = hgC a e m v10 (.int .i64 (i : Nat)) (uN (w : Int)) q q' o n c k j ((i + 1 : Nat) : Int) ++ tl 21 g') → s'.2.1 = hgM l E X mo → ∃ r', r' < r ∧ ∃ i, r' = n - k - i ∧ hgJ2 l a o n c k e E j m mo q q' K i s' := by
      rintro s' X hX ⟨g', e1⟩ e2
      exact ⟨n - k - (i + 1), by omega, i + 1, rfl, v10, _, _, g', by omega, e1, by rw [e2, hX]⟩
    rcases i8 with rfl | rfl | rfl | rfl | rfl | rfl | rfl | rfl
    · have hg := hg_s0 l a o n c k e E j (w : Int) m mo (ofN V) v10 v11 v12 q q' g
      have lT : decide ((0 : Int) < ((n - k : Nat) : Int)) = true := decide_eq_true (by omega)
      refine (goesT_runs (s0 := sc) hT hg (okCons rfl (okCons lC (okCons (decide_eq_true ⟨by omega, by omega⟩) (okL1 lT))))).mono fun e' z he => ?_
      obtain ⟨rfl, ⟨g', z1⟩, z2⟩ := he
      refine fin z _ ?_ ⟨g', z1⟩ z2
      rw [put0_ok (show V < 1 from hV) hw2, ev]
    · have hg := hg_s1 l a o n c k e E j (w : Int) m mo (ofN V) v10 v11 v12 q q' g
      have lT : decide ((1 : Int) < ((n - k : Nat) : Int)) = true := decide_eq_true (by omega)
      refine (goesT_runs (s0 := sc) hT hg (okCons rfl (okCons lC (okCons (decide_eq_true ⟨by omega, by omega⟩) (okL1 lT))))).mono fun e' z he => ?_
      obtain ⟨rfl, ⟨g', z1⟩, z2⟩ := he
      refine fin z _ ?_ ⟨g', z1⟩ z2
      rw [put1_ok (show V < 4294967296 from hV) hw2, ev]
    · have hg := hg_s2 l a o n c k e E j (w : Int) m mo (ofN V) v10 v11 v12 q q' g
      have lT : decide ((2 : Int) < ((n - k : Nat) : Int)) = true := decide_eq_true (by omega)
      refine (goesT_runs (s0 := sc) hT hg (okCons rfl (okCons lC (okCons (decide_eq_true ⟨by omega, by omega⟩) (okL1 lT))))).mono fun e' z he => ?_
      obtain ⟨rfl, ⟨g', z1⟩, z2⟩ := he
      refine fin z _ ?_ ⟨g', z1⟩ z2
      rw [put2_ok (show V < 18446744073709551616 from hV) hw2, ev]
    · have hg := hg_s3 l a o n c k e E j (w : Int) m mo (ofN V) v10 v11 v12 q q' g
      have lT : decide ((3 : Int) < ((n - k : Nat) : Int)) = true := decide_eq_true (by omega)
      refine (goesT_runs (s0 := sc) hT hg (okCons rfl (okCons lC (okCons (decide_eq_true ⟨by omega, by omega⟩) (okL1 lT))))).mono fun e' z he => ?_
      obtain ⟨rfl, ⟨g', z1⟩, z2⟩ := he
      refine fin z _ ?_ ⟨g', z1⟩ z2
      rw [put3_ok (show V < 79228162514264337593543950336 from hV) hw2, ev]
    · have hg := hg_s4 l a o n c k e E j (w : Int) m mo (ofN V) v10 v11 v12 q q' g
      have lT : decide ((4 : Int) < ((n - k : Nat) : Int)) = true := decide_eq_true (by omega)
      refine (goesT_runs (s0 := sc) hT hg (okCons rfl (okCons lC (okCons (decide_eq_true ⟨by omega, by omega⟩) (okL1 lT))))).mono fun e' z he => ?_
      obtain ⟨rfl, ⟨g', z1⟩, z2⟩ := he
      refine fin z _ ?_ ⟨g', z1⟩ z2
      rw [put4_ok (show V < 340282366920938463463374607431768211456 from hV) hw2, ev]
    · have hg := hg_s5 l a o n c k e E j (w : Int) m mo (ofN V) v10 v11 v12 q q' g
      have lT : decide ((5 : Int) < ((n - k : Nat) : Int)) = true := decide_eq_true (by omega)
      refine (goesT_runs (s0 := sc) hT hg (okCons rfl (okCons lC (okCons (decide_eq_true ⟨by omega, by omega⟩) (okL1 lT))))).mono fun e' z he => ?_
      obtain ⟨rfl, ⟨g', z1⟩, z2⟩ := he
      refine fin z _ ?_ ⟨g', z1⟩ z2
      rw [put5_ok (show V < 1461501637330902918203684832716283019655932542976 from hV) hw2, ev]
    · have hg := hg_s6 l a o n c k e E j (w : Int) m mo (ofN V) v10 v11 v12 q q' g
      have lT : decide ((6 : Int) < ((n - k : Nat) : Int)) = true := decide_eq_true (by omega)
      refine (goesT_runs (s0 := sc) hT hg (okCons rfl (okCons lC (okCons (decide_eq_true ⟨by omega, by omega⟩) (okL1 lT))))).mono fun e' z he => ?_
      obtain ⟨rfl, ⟨g', z1⟩, z2⟩ := he
      refine fin z _ ?_ ⟨g', z1⟩ z2
      rw [put6_ok (show V < 6277101735386680763835789423207666416102355444464034512896 from hV) hw2, ev]
    · have hg := hg_s7 l a o n c k e E j (w : Int) m mo (ofN V) v10 v11 v12 q q' g
      have lT : decide ((7 : Int) < ((n - k : Nat) : Int)) = true := decide_eq_true (by omega)
      refine (goesT_runs (s0 := sc) hT hg (okCons rfl (okCons lC (okCons (decide_eq_true ⟨by omega, by omega⟩) (okL1 lT))))).mono fun e' z he => ?_
      obtain ⟨rfl, ⟨g', z1⟩, z2⟩ := he
      refine fin z _ ?_ ⟨g', z1⟩ z2
      rw [put7_ok (show V < 26959946667150639794667015087019630673637144422540572481103610249216 from hV) hw2, ev]
  · have : i = n - k := by omega
    subst this
    refine (goesT_runs (s0 := sc) hT (hg_x2 l a o n c k e E j ((n - k : Nat) : Int) m mo _ v10 v11 v12 q q' g) (okL1 (decide_eq_false (by omega)))).mono fun e' z he => ?_
    obtain ⟨rfl, ⟨g', z1⟩, z2⟩ := he
    exact ⟨rfl, v10, v11, v12, g', hi, z1, z2⟩
theorem low_is {n : Nat} (h : n ≤ 100000) : lowI n = ((n - 8 : Nat) : Int) := by
  unfold lowI
  rw [wrapI (by omega) (by omega)]
  split <;> omega
theorem hg_runs {l : List Value} {o c : Nat} {e : Int} {m : Bool} {V : Nat} (hR : Row l o (db 4294967296 V)) (hn : (db 4294967296 V).length ≤ 1000) (hc : (db 4294967296 V).length ≤ c) (hs : smallC c = true) (he : -1000000 ≤ e ∧ e ≤ 1000000) :
    Runs (tabH Tryz.prog extY conN hcN) (seqs [sP Tryz.f78 0, sP Tryz.f78 1, sP Tryz.f78 2] (.seq (.seq (cFst (sP Tryz.f78 3)) (.block 0 (.loop (hgL1 Tryz.f78)))) (.seq (.seq (cFst (sP Tryz.f78 4)) (.block 2 (.loop (hgL2 Tryz.f78)))) (sK Tryz.f78 5)))) ([sl 0 o (db 4294967296 V).length c, .int .i64 e, .bool m] ++ List.replicate 62 undef, ⟨1, [(l, tR)]⟩, []) fun e' z => (e' = none ∨ e' = some none) ∧ resS Tryz.prog Tryz.f78 z.1 z.2.1 = some (vN false (hiE V e) (ofN (hiS V)) (hiM V m)) := by
  have hT := tabH_ok conN_ok hcN_ok
  obtain ⟨L, hL⟩ : ∃ L, L = db 4294967296 V := ⟨_, rfl⟩
  have hdg : ∀ x ∈ L, Dg 4294967296 x := by rw [hL]; exact db_dg (by omega) V
  have eV : vb 4294967296 L = V := by rw [hL]; exact vb_db (by omega) V
  rw [← hL] at hR hn hc ⊢
  obtain ⟨n, hnl⟩ : ∃ n, n = L.length := ⟨_, rfl⟩
  rw [← hnl] at hn hc ⊢
  obtain ⟨k, hk⟩ : ∃ k, k = n - 8 := ⟨_, rfl⟩
  have elow : lowI n = (k : Nat) := by rw [low_is (by omega), hk]
  have eE : hgE n e = hiE V e := by
    unfold hgE hiE loW
    rw [elow, wrapI (n := 32 * ((k : Nat) : Int)) (by omega) (by omega), wrapI (by omega) (by omega), ← hL, ← hnl, ← hk]
  have dead_c : (c : Int) < 4611686018427387904 := by
    have := blt_iff.1 hs
    have e : dead = 4611686018427387904 := rfl
    omega
  have hp := hg_pre l o n c e m
  rw [elow, eE] at hp
  refine goesT_list hT hp okN9R fun g => ?_
  have okc : okPart 0 (k : Nat) (c : Nat) (c : Nat) = true := decide_eq_true ⟨by omega, by omega, by omega, by omega, by omega⟩
  refine Runs.seq (P1 := fun e' y => match e' with | none => hgJ1 l (sl 0 o n c) o c k e (hiE V e) m (hgQ o n c e m) L k y | some none => False | some (some _) => False) ?_ ?_ ?_
  · refine Runs.seq (goesT_runs hT (hg_i1 l o n c k e (hiE V e) m ⟨0, 0, 0, 0⟩ (hgQ o n c e m) g) (okCons hs (okCons okc (okL1 (decide_eq_false (fun h => h.2 rfl)))))) ?_ (fun e' y hy => by cases hy.1)
    rintro ⟨t, h', s⟩ ⟨_, ⟨g', ht⟩, hh⟩
    simp only at ht hh
    subst ht hh
    exact Runs.forLoop (R := fun _ => False) (P := hgJ1 l (sl 0 o n c) o c k e (hiE V e) m (hgQ o n c e m) L k) (fun r y => ∃ i, r = k - i ∧ hgJ1 l (sl 0 o n c) o c k e (hiE V e) m (hgQ o n c e m) L i y) (hg_round1 hR (by omega) (by omega)) (n := k - 0) ⟨0, rfl, undef, g', Nat.zero_le _, rfl, by rw [show anyW (L.take 0) m = m by unfold anyW; cases m <;> rfl]⟩
  · rintro ⟨t, h', s⟩ ⟨v10, g1, _, ht, hh⟩
    simp only at ht hh
    subst ht hh
    obtain ⟨mo, hmo⟩ : ∃ mo, mo = anyW (L.take k) m := ⟨_, rfl⟩
    rw [← hmo]
    have okn : okPart (k : Nat) (n : Nat) (c : Nat) (c : Nat) = true := decide_eq_true ⟨by omega, by omega, by omega, by omega, by omega⟩
    have hKl : (L.drop k).length = n - k := by rw [List.length_drop, ← hnl]
    refine Runs.seq (P1 := fun e' y => match e' with | none => hgJ2 l (sl 0 o n c) o n c k e (hiE V e) (k : Nat) m mo (hgQ o n c e m) g1 (L.drop k) (n - k) y | some none => False | some (some _) => False) ?_ ?_ ?_
    · refine Runs.seq (goesT_runs (s0 := s) hT (hg_i2 l o n c k e (hiE V e) (k : Nat) m mo ⟨0, 0, 0, 0⟩ v10 (hgQ o n c e m) g1) (okCons hs (okCons okn (okL1 (decide_eq_false (fun h => by omega)))))) ?_ (fun e' y hy => by cases hy.1)
      rintro ⟨t, h', s⟩ ⟨_, ⟨g', ht⟩, hh⟩
      simp only at ht hh
      subst ht hh
      refine Runs.forLoop (R := fun _ => False) (P := hgJ2 l (sl 0 o n c) o n c k e (hiE V e) (k : Nat) m mo (hgQ o n c e m) g1 (L.drop k) (n - k)) (fun r y => ∃ i, r = n - k - i ∧ hgJ2 l (sl 0 o n c) o n c k e (hiE V e) (k : Nat) m mo (hgQ o n c e m) g1 (L.drop k) i y) (hg_round2 (fun i hi => ?_) (fun x hx => hdg x (List.mem_of_mem_drop hx)) (by omega) hKl) (n := n - k - 0) ⟨0, rfl, v10, undef, undef, g', Nat.zero_le _, rfl, by rw [show ofN (vb 4294967296 ((L.drop k).take 0)) = ⟨0, 0, 0, 0⟩ from ofN_zero]⟩
      rw [Nat.mul_one, Nat.add_assoc, hR.cell (by omega)]
      simp [uN, List.getD, List.getElem?_drop]
    · rintro ⟨t, h', s⟩ ⟨v10, v11, v12, g', _, ht, hh⟩
      simp only at ht hh
      subst ht hh
      rw [show (L.drop k).take (n - k) = L.drop k by rw [← hKl, List.take_length]]
      refine (goesT_runs (s0 := s) hT (hg_e l (sl 0 o n c) o n c k e (hiE V e) (k : Nat) _ m mo _ v10 v11 v12 (hgQ o n c e m) g1 g') okN9R).mono fun e' z he => ?_
      obtain ⟨rfl, ⟨g2, z1⟩, z2⟩ := he
      refine ⟨.inr rfl, ?_⟩
      have hsp : vb 4294967296 (L.take k) + 4294967296 ^ k * vb 4294967296 (L.drop k) = V := by
        have := vb_append 4294967296 (L.take k) (L.drop k)
        rw [List.take_append_drop, eV, List.length_take, Nat.min_eq_left (by omega)] at this
        exact this.symm
      have hlt := vbz hdg k
      have hp : 0 < 4294967296 ^ k := Nat.pow_pos (by omega)
      have elo : loW V = k := by unfold loW; rw [← hL, ← hnl, hk]
      have e1 : vb 4294967296 (L.drop k) = hiS V := by
        unfold hiS
        rw [elo, ← words_pow, ← hsp, Nat.add_comm, Nat.mul_add_div hp, Nat.div_eq_of_lt hlt, Nat.add_zero]
      have e2 : mo = hiM V m := by
        rw [hmo]
        unfold anyW hiM
        rw [elo, ← words_pow, ← hsp, Nat.add_comm, Nat.mul_add_mod, Nat.mod_eq_of_lt hlt]
      rw [z1, z2, e1, e2]
      rfl
    · rintro e' y he
      match e', he with
      | none, he => exact he.elim
  · rintro e' y he
    match e', he with
    | none, he => exact he.elim
/-- the highest words, the number told ahead -/
def gHgR : AnsH := fun vals h s =>
  match vals, s with
  | [.slice (some ⟨b, o, none⟩) n c, .int .i64 e, .bool m], .inr (.inl V) :: s' =>
    match h.blk? b with
    | some x => some (vN false (hiE V.toNat e) (ofN (hiS V.toNat)) (hiM V.toNat m), h, s', [(rowOk x.2 x.1 o n c, true), (decide (cutI x.1 o n = db 4294967296 V.toNat), true), (decide (n ≤ 1000 ∧ -1000000 ≤ e ∧ e ≤ 1000000), true)])
    | _ => none
  | _, _ => none
theorem gHgR_ok : AnsHOk 78 gHgR := by
  intro vals h s v h' s' lg hg hl m B w E hv
  unfold gHgR at hg
  split at hg
  · rename_i b o n c e mo V s2
    split at hg
    · rename_i x hx
      cases hg
      have ra : rowOk x.2 x.1 o n c = true := hl _ List.mem_cons_self
      have q1 := of_decide_eq_true (hl _ (List.mem_cons_of_mem _ List.mem_cons_self))
      have q2 := of_decide_eq_true (hl _ (List.mem_cons_of_mem _ (List.mem_cons_of_mem _ (List.mem_singleton.2 rfl))))
      obtain ⟨h1, h2, h3, h4, h5, h6, h7⟩ := row_of ra
      rw [q1] at h1 h2
      have r := hg_runs (c := c) (e := e) (m := mo) h1 (by omega) (by omega) h4 q2.2
      rw [h2] at r
      exact row_calls0 (T := tabH Tryz.prog extY conN hcN) Tryz.func78 hg_body (rows1 h7) (vals := [sl 0 o n c, .int .i64 e, .bool mo]) (fun v hv => by
        simp only [List.mem_cons, List.not_mem_nil, or_false] at hv
        rcases hv with rfl | rfl | rfl <;> rfl) (by rfl) r.w E (s := fun _ => b) (fitsR1 hx h5 h6 rfl)
    · cases hg
  · cases hg
def hcTe : Hc := altH 75 Na.gPs (altH 76 Na.gPowN (altH 79 Na.gLenT (altH 80 Na.gShlT (altH 81 Na.gDmN (altH 115 Na.gPdN (altH 116 Na.gBothU (altH 78 gHgR hcN)))))))
theorem hcTe_ok : HcOk hcTe := altH_ok Tryz.func75 rfl Na.gPs_ok (altH_ok Tryz.func76 rfl Na.gPowN_ok (altH_ok Tryz.func79 rfl Na.gLenT_ok (altH_ok Tryz.func80 rfl Na.gShlT_ok (altH_ok Tryz.func81 rfl Na.gDmN_ok (altH_ok Tryz.func115 rfl Na.gPdN_ok (altH_ok Tryz.func116 rfl Na.gBothU_ok (altH_ok Tryz.func78 rfl gHgR_ok hcN_ok)))))))
theorem tabTe : TabOk (tabH Tryz.prog extY conN hcTe) := tabH_ok conN_ok hcTe_ok
/-- a row of words: a number's -/
def r32 (m V : Nat) : List Value × TypeId := (wU (dg m (V : Int)), tU)
def z7 : List Value × TypeId := nB9 false 0 ⟨0, 0, 0, 0⟩ false
def pA9 (k : Nat) : Option Addr := some ⟨k, 0, none⟩
def lw9 (A : Nat) : Nat := (db 4294967296 A).length
def tn (m V : Nat) : Nat := trimN (dg m (V : Int))
def teM2 (D : List UInt8) (A : Nat) (j : Int) (P : Nat) : Hp := ⟨3, [r32 (Na.pMi 10 j) P, r32 (Na.psN ⟨⟨D⟩⟩) A, z7]⟩
def lPs (D : List UInt8) (A : Nat) (l : Log) : Log := (decide (Na.psV ⟨⟨D⟩⟩ = A), true) :: (Na.okP ⟨⟨D⟩⟩, true) :: (Nat.ble D.length 20000, true) :: l
def lPw (j : Int) (P : Nat) (l : Log) : Log := (decide (((10 ^ j.toNat : Nat) : Int) = (P : Int)), true) :: (Na.okPn 10 j, true) :: (decide ((10 : Int) = 0 ∧ 1 ≤ j), false) :: l
def lHg (m V : Nat) (e : Int) (l : Log) : Log := (rowOk tU (wU (dg m (V : Int))) 0 (tn m V) m, true) :: (decide (cutI (wU (dg m (V : Int))) 0 (tn m V) = db 4294967296 V), true) :: (decide (tn m V ≤ 1000 ∧ -1000000 ≤ e ∧ e ≤ 1000000), true) :: l
def lPd9 (H : Hp) (p q : Option Addr) (n c n' c' T : Nat) (l : Log) : Log := (decide (Na.mulR (rowOf H p n) (rowOf H q n') = dg (n + n') (T : Int)), true) :: (Na.rowX H p n c, true) :: (Na.rowX H q n' c', true) :: (!decide (n = 0 ∨ n' = 0) && Nat.ble (n + n') 8192, true) :: (Na.rowX H p n c, true) :: (Na.rowX H q n' c', true) :: (Na.badL (rowOf H p n) || Na.badL (rowOf H q n'), false) :: l
def teV (T : Nat) (e : Int) (m : Bool) : Value := vN false (hiE T e) (ofN (hiS T)) (hiM T m)
/-- a power of ten that is no fraction -/
theorem te_up (D : List UInt8) (j : Int) (A P T : Nat) : Fits (reckon (tabH Tryz.prog extY conN hcTe) 200 35 [bR D, .int .i64 j] [cmp true, num A, cmp true, cmp false, cmp false, num P, cmp false, cmp false, num T, num T]) (teV T 0 false) (lHg (lw9 A + tn (Na.pMi 10 j) P) T 0 (lPd9 (teM2 D A j P) (pA9 1) (pA9 2) (lw9 A) (Na.psN ⟨⟨D⟩⟩) (tn (Na.pMi 10 j) P) (Na.pMi 10 j) T (lPw j P ((decide (j ≥ 0), true) :: lPs D A [])))) := ⟨by kernel_rfl, by kernel_rfl, by kernel_rfl, by kernel_rfl⟩
def ngJ (j : Int) : Int := IntKind.i64.wrap (0 - j)
def upE (a b : Int) : Int := if 0 > IntKind.i64.wrap (IntKind.i64.wrap (b + 128) - a) then 0 else IntKind.i64.wrap (IntKind.i64.wrap (b + 128) - a)
def teM3 (D : List UInt8) (A : Nat) (j : Int) (P : Nat) (k : Int) (S : Nat) : Hp := ⟨4, [r32 (Na.sM (lw9 A) k) S, r32 (Na.pMi 10 j) P, r32 (Na.psN ⟨⟨D⟩⟩) A, z7]⟩
def lLn (H : Hp) (p : Option Addr) (n c : Nat) (k : Int) (l : Log) : Log := (decide (Na.lenN (rowOf H p n) = k), true) :: (Na.rowX H p n c, true) :: l
def lSh (H : Hp) (p : Option Addr) (n c : Nat) (k : Int) (S : Nat) (l : Log) : Log := (decide (shlR (rowOf H p n) k.toNat = dg (Na.sM n k) (S : Int)), true) :: (Na.rowX H p n c, true) :: (Na.badL (rowOf H p n) || decide (k < 0), false) :: (decide (n = 0), false) :: (decide (k > 262144 - Na.lenN (rowOf H p n)), false) :: l
def lDv (H : Hp) (p q : Option Addr) (n c n' c' : Nat) (Q R : Nat) (l : Log) : Log := (decide (Go.Nt.vN (rowOf H p n) / Go.Nt.vN (rowOf H q n') = (Q : Int) ∧ Go.Nt.vN (rowOf H p n) % Go.Nt.vN (rowOf H q n') = (R : Int)), true) :: (Na.rowX H p n c, true) :: (Na.rowX H q n' c', true) :: (!(Na.badL (rowOf H p n) || Na.badL (rowOf H q n')) && decide (0 < n' ∧ ¬ cmpL (rowOf H p n) (rowOf H q n') < 0), true) :: l
/-- a fraction -/
theorem te_dn (D : List UInt8) (j : Int) (A P : Nat) (a b : Int) (S Q R : Nat) (d : Bool) : Fits (reckon (tabH Tryz.prog extY conN hcTe) 200 35 [bR D, .int .i64 j] [cmp true, num A, cmp false, cmp false, cmp false, num P, num b, num a, cmp false, cmp false, cmp false, num S, cmp false, cmp false, cmp false, num Q, num R, cmp d, num Q]) (teV Q (IntKind.i64.wrap (0 - upE a b)) d)
    (lHg (tn (Na.sM (lw9 A) (upE a b)) S - tn (Na.pMi 10 (ngJ j)) P + 1) Q (IntKind.i64.wrap (0 - upE a b)) ((decide (((tn (tn (Na.sM (lw9 A) (upE a b)) S + 1) R : Nat) : Int) > 0), d) :: lDv (teM3 D A (ngJ j) P (upE a b) S) (pA9 3) (pA9 2) (tn (Na.sM (lw9 A) (upE a b)) S) (Na.sM (lw9 A) (upE a b)) (tn (Na.pMi 10 (ngJ j)) P) (Na.pMi 10 (ngJ j)) Q R
      (lSh (teM2 D A (ngJ j) P) (pA9 1) (lw9 A) (Na.psN ⟨⟨D⟩⟩) (upE a b) S (lLn (teM2 D A (ngJ j) P) (pA9 1) (lw9 A) (Na.psN ⟨⟨D⟩⟩) a (lLn (teM2 D A (ngJ j) P) (pA9 2) (tn (Na.pMi 10 (ngJ j)) P) (Na.pMi 10 (ngJ j)) b (lPw (ngJ j) P ((decide (j ≥ 0), false) :: lPs D A []))))))) := ⟨by kernel_rfl, by kernel_rfl, by kernel_rfl, by kernel_rfl⟩
theorem hg_ok {m V : Nat} (hV : V < 4294967296 ^ m) (hm : m ≤ 1000) {e : Int} (he : -1000000 ≤ e ∧ e ≤ 1000000) {l : Log} (hl : okLog l) : okLog (lHg m V e l) := by
  have r := Na.isRd (H := ⟨1, [r32 m V]⟩) (b := 0) rfl hV hm
  have ht : tn m V ≤ 1000 := r.2.2.2.2
  refine okCons ?_ (okCons (decide_eq_true r.2.2.1) (okCons (decide_eq_true ⟨ht, he⟩) hl))
  have := trimN_le (dg m (V : Int))
  have hd := dg_len m (V : Int)
  exact Na.wU_rowAt (dg_wds _ _) (by show 0 + tn m V ≤ _; unfold tn; omega) (by unfold tn; omega) (Na.smallC_le (by omega))
theorem tn_is {m V : Nat} (hV : V < 4294967296 ^ m) (hm : m ≤ 1000) : tn m V = (Na.d32 V).length := (Na.isRd (H := ⟨1, [r32 m V]⟩) (b := 0) rfl hV hm).2.2.2.1
theorem ps_isR {H : Hp} {b A : Nat} {D : List UInt8} (hA : A < 10 ^ D.length) (hD : D.length ≤ 801) (hb : H.blk? b = some (r32 (Na.psN ⟨⟨D⟩⟩) A)) : Na.IsR H (pA9 b) (lw9 A) (Na.psN ⟨⟨D⟩⟩) A := by
  have e : Na.psN ⟨⟨D⟩⟩ = D.length / 9 + 1 := rfl
  have h := Na.isRd (H := H) (b := b) (V := A) (m := Na.psN ⟨⟨D⟩⟩) hb (Nat.lt_trans hA (Na.ten_w32 D.length)) (by omega)
  have e2 : lw9 A = trimN (dg (Na.psN ⟨⟨D⟩⟩) (A : Int)) := h.2.2.2.1.symm
  rw [e2]
  exact h
theorem lPs_ok {D : List UInt8} (ha : allB 10 D = true) (h0 : D ≠ []) (hl : D.length ≤ 801) : okLog (lPs D (nmB 10 D) []) :=
  okCons (decide_eq_true (Na.psV_nm ha)) (okCons (Na.okP_all ha h0) (okL1 (Nat.ble_eq_true_of_le (by omega))))
theorem lPw_ok {j : Int} {k : Nat} (hj : j = (k : Nat)) (hk : k ≤ 2000) {l : Log} (hl : okLog l) : okLog (lPw j (10 ^ k) l) := by
  refine okCons (decide_eq_true (by rw [hj, Int.toNat_natCast])) (okCons ?_ (okCons (decide_eq_false (fun h => absurd h.1 (by decide))) hl))
  exact decide_eq_true ⟨by decide, by decide, by omega, .inr ⟨rfl, by omega⟩⟩
theorem te_calls {D : List UInt8} (ha : allB 10 D = true) (hA : nmB 10 D ≠ 0) (hl : D.length ≤ 801) {j : Int} (hj : -1900 ≤ j ∧ j ≤ 1900) (w : World) : Calls Tryz.prog 35 #[bR D, .int .i64 j] w fun e w' => e = .returned (teV (teT (nmB 10 D) j) (teE (nmB 10 D) j) (teM (nmB 10 D) j)) ∧ Tidy w w' := by
  have h0 : D ≠ [] := fun h => hA (by rw [h]; rfl)
  obtain ⟨A, eA⟩ : ∃ A, A = nmB 10 D := ⟨_, rfl⟩
  have hlt : A < 10 ^ D.length := by rw [eA]; exact nmB_lt (b := 10) (.inl rfl) D
  have lp := lPs_ok ha h0 hl
  rw [← eA] at lp hA
  rw [← eA]
  have epN : Na.psN ⟨⟨D⟩⟩ = D.length / 9 + 1 := rfl
  have lA : (Na.d32 A).length ≤ 90 := by
    have := db_len (b := 4294967296) (by omega) _ _ (Nat.lt_trans hlt (Na.ten_w32 D.length))
    show (db 4294967296 A).length ≤ 90
    omega
  unfold teT teE teM
  by_cases h1 : 0 ≤ j
  · rw [if_pos h1, if_pos h1, if_pos h1]
    obtain ⟨k, hk⟩ : ∃ k : Nat, j = (k : Nat) := ⟨j.toNat, by omega⟩
    obtain ⟨rP, lP⟩ := Na.pow_isR (H := teM2 D A j (10 ^ k)) (b := 2) hk (by omega) rfl
    have rA : Na.IsR (teM2 D A j (10 ^ k)) (pA9 1) (lw9 A) (Na.psN ⟨⟨D⟩⟩) A := ps_isR hlt hl rfl
    have eP : tn (Na.pMi 10 j) (10 ^ k) = (Na.d32 (10 ^ k)).length := rP.2.2.2.1
    have hP0 := ten_ne k
    have pA := Na.pos_w32 hA
    have pP := Na.pos_w32 hP0
    have hT : A * 10 ^ k < 4294967296 ^ (lw9 A + tn (Na.pMi 10 j) (10 ^ k)) := Na.mul_lt (Na.rLt rA) (Na.rLt rP)
    have lsum : lw9 A + tn (Na.pMi 10 j) (10 ^ k) ≤ 1000 := by rw [eP]; show (Na.d32 A).length + _ ≤ _; omega
    have f := te_up D j A (10 ^ k) (A * 10 ^ k)
    have hnz : (!decide (lw9 A = 0 ∨ tn (Na.pMi 10 j) (10 ^ k) = 0) && Nat.ble (lw9 A + tn (Na.pMi 10 j) (10 ^ k)) 8192) = true := Na.nz_ok2 pA (by rw [eP]; exact pP) (by omega)
    rw [show j.toNat = k by omega]
    refine fits_calls tabTe f (hg_ok hT lsum ⟨by decide, by decide⟩ ?_) (by rfl) (by rfl) w
    refine okCons (Na.rMul rA rP) (okCons (Na.rX rA) (okCons (Na.rX rP) (okCons hnz (okCons (Na.rX rA) (okCons (Na.rX rP) (okCons (Na.rOr rA rP) ?_))))))
    exact lPw_ok hk (by omega) (okCons (decide_eq_true h1) lp)
  · rw [if_neg h1, if_neg h1, if_neg h1]
    obtain ⟨k, hk⟩ : ∃ k : Nat, -j = (k : Nat) := ⟨(-j).toNat, by omega⟩
    have eN : ngJ j = (k : Nat) := by unfold ngJ; rw [wrapI (by omega) (by omega)]; omega
    obtain ⟨B, eB⟩ : ∃ B, B = 10 ^ k := ⟨_, rfl⟩
    have hP0 : B ≠ 0 := by rw [eB]; exact ten_ne k
    rw [show (-j).toNat = k by omega, ← eB]
    obtain ⟨u, hu⟩ : ∃ u, u = upT A B := ⟨_, rfl⟩
    obtain ⟨rP, lP⟩ := Na.pow_isR (H := teM2 D A (ngJ j) (10 ^ k)) (b := 2) eN (by omega) rfl
    have rA : Na.IsR (teM2 D A (ngJ j) B) (pA9 1) (lw9 A) (Na.psN ⟨⟨D⟩⟩) A := ps_isR hlt hl rfl
    rw [← eB] at rP lP
    have eP : tn (Na.pMi 10 (ngJ j)) B = (Na.d32 B).length := rP.2.2.2.1
    have pA := Na.pos_w32 hA
    have pP := Na.pos_w32 hP0
    obtain ⟨M, hM⟩ : ∃ M, M = 90 := ⟨_, rfl⟩
    obtain ⟨M', hM'⟩ : ∃ M, M = 213 := ⟨_, rfl⟩
    have bA : bitLen A ≤ 32 * M := Go.Rn.len_le (by rw [← words_pow]; exact Nat.lt_of_lt_of_le (Na.lt_w32 A) (Nat.pow_le_pow_right (by omega) (by omega)))
    have bB : bitLen B ≤ 32 * M' := Go.Rn.len_le (by rw [← words_pow]; exact Nat.lt_of_lt_of_le (Na.lt_w32 B) (Nat.pow_le_pow_right (by omega) (by omega)))
    have eU : upE ((bitLen A : Nat) : Int) ((bitLen B : Nat) : Int) = (u : Nat) := by
      unfold upE
      rw [wrapI (n := ((bitLen B : Nat) : Int) + 128) (by omega) (by omega), wrapI (by omega) (by omega), hu]
      unfold upT
      split <;> omega
    have hu2 : u ≤ 7000 := by rw [hu]; unfold upT; omega
    have hAw : A < 4294967296 ^ lw9 A := Na.lt_w32 A
    have hS := Na.shl_lt (k := u) hAw
    have hSm : Na.sM (lw9 A) (u : Nat) ≤ 1000 := by
      unfold Na.sM
      rw [Int.toNat_natCast]
      show u / 32 + ((Na.d32 A).length + 1) ≤ 1000
      omega
    obtain ⟨S, eS⟩ : ∃ S, S = A * 2 ^ u := ⟨_, rfl⟩
    rw [← eS] at hS
    have hS0 : S ≠ 0 := by rw [eS]; exact mul_ne hA (fun h => by have := Nat.pow_pos (n := u) (show 0 < 2 by omega); omega)
    have eSn := tn_is hS hSm
    have rS : Na.IsR (teM3 D A (ngJ j) B (u : Nat) S) (pA9 3) (tn (Na.sM (lw9 A) (u : Nat)) S) (Na.sM (lw9 A) (u : Nat)) S := Na.isRd rfl hS hSm
    obtain ⟨rP3, _⟩ := Na.pow_isR (H := teM3 D A (ngJ j) (10 ^ k) (u : Nat) S) (b := 2) eN (by omega) rfl
    rw [← eB] at rP3
    have hBS : B ≤ S := by
      have := upT_bits hA hP0
      rw [← hu, ← eS] at this
      rcases Nat.lt_or_ge S B with h2 | h2
      · rw [Nat.div_eq_of_lt h2] at this
        exact absurd this (by decide)
      · exact h2
    have hle := Na.le_w32 hBS
    have hQ : S / B < 4294967296 ^ (tn (Na.sM (lw9 A) (u : Nat)) S - tn (Na.pMi 10 (ngJ j)) B + 1) := by
      rw [eSn, eP]
      exact Na.quo_lt hP0 hle
    have sl : (Na.d32 S).length ≤ Na.sM (lw9 A) (u : Nat) := by
      rw [← eSn]
      have := trimN_le (dg (Na.sM (lw9 A) (u : Nat)) (S : Int))
      rw [dg_len] at this
      exact this
    have hR : S % B < 4294967296 ^ (tn (Na.sM (lw9 A) (u : Nat)) S + 1) := by
      have h2 : S % B < S + 1 := Nat.lt_succ_of_le (Nat.mod_le _ _)
      refine Nat.lt_of_lt_of_le h2 ?_
      rw [eSn, Nat.pow_succ]
      have := Na.lt_w32 S
      omega
    have sl2 : Na.sM (lw9 A) (u : Nat) ≤ 400 := by
      unfold Na.sM
      rw [Int.toNat_natCast]
      show u / 32 + ((Na.d32 A).length + 1) ≤ 400
      omega
    have eRn := tn_is hR (by rw [eSn]; omega)
    have eW : IntKind.i64.wrap (0 - ((u : Nat) : Int)) = -((u : Nat) : Int) := by rw [wrapI (by omega) (by omega)]; omega
    have hd : decide (((tn (tn (Na.sM (lw9 A) (u : Nat)) S + 1) (S % B) : Nat) : Int) > 0) = decide (S % B ≠ 0) := by
      rw [eRn]
      by_cases hz : S % B = 0
      · have h2 : (Na.d32 (S % B)).length = 0 := by rw [hz]; show (db 4294967296 0).length = 0; rw [db_zero]; rfl
        rw [h2, decide_eq_false (show ¬ (S % B ≠ 0) from fun h => h hz)]
        rfl
      · have := Na.pos_w32 hz
        rw [decide_eq_true hz]
        exact decide_eq_true (by omega)
    have f := te_dn D j A B ((bitLen A : Nat) : Int) ((bitLen B : Nat) : Int) S (S / B) (S % B) (decide (S % B ≠ 0))
    rw [eU, eW] at f
    rw [← hu, ← eS]
    refine fits_calls tabTe f (hg_ok hQ (by rw [eSn]; omega) ⟨by omega, by omega⟩ (okCons hd ?_)) (by rfl) (by rfl) w
    refine okCons (Na.rDiv rS rP3) (okCons (Na.rX rS) (okCons (Na.rX rP3) (okCons (Na.rG rS rP3 (by show 0 < tn (Na.pMi 10 (ngJ j)) B; rw [eP]; exact pP) hBS) ?_)))
    have hsh := Na.rShl rA u
    rw [← eS] at hsh
    refine okCons hsh (okCons (Na.rX rA) (okCons (Na.rBadK rA u) (okCons (Na.rNe rA hA) (okCons (Na.rFew rA hA (by omega)) ?_))))
    refine okCons (Na.rLen rA hA) (okCons (Na.rX rA) (okCons (Na.rLen rP hP0) (okCons (Na.rX rP) ?_)))
    rw [eB]
    exact lPw_ok eN (by omega) (okCons (decide_eq_false h1) lp)
def gTeR : Ans := fun vals s =>
  match vals with
  | [.string a, .int .i64 j] => some (teV (teT (nmB 10 a.data.toList) j) (teE (nmB 10 a.data.toList) j) (teM (nmB 10 a.data.toList) j), s, [(allB 10 a.data.toList, true), (decide (nmB 10 a.data.toList ≠ 0), true), (decide (a.data.toList.length ≤ 801 ∧ -1900 ≤ j ∧ j ≤ 1900), true)])
  | _ => none
theorem gTeR_ok : AnsOk 35 gTeR := by
  intro vals s v s' lg h hl w
  unfold gTeR at h
  split at h
  · rename_i a j
    cases h
    have h1 : allB 10 a.data.toList = true := hl _ List.mem_cons_self
    have h2 := of_decide_eq_true (hl _ (List.mem_cons_of_mem _ List.mem_cons_self))
    have h3 := of_decide_eq_true (hl _ (List.mem_cons_of_mem _ (List.mem_cons_of_mem _ (List.mem_singleton.2 rfl))))
    exact te_calls h1 h2 h3.1 h3.2 w
  · cases h
end Go.Proofs.YtjlponbdflkbjaaGreatDoor
