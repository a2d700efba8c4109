/-
  What is known of calls, for the laws of rounding that hold the document's answers beside the program's.
-/
import Derived.Test.YtppbpbiibibiiaaG19
import Derived.Test.YtppbpbiibibiiaaG22
import Derived.Test.YtppbpbiibibiiaaG18
import Derived.Test.YtppbpbiibibiiaaG16
namespace Go.Proofs.Ytppbpbiibibiiaa
open Go.KRun Go.Nt Go.Wd Go.Rn
set_option maxRecDepth 100000

def conRW : Con := alt 13 gWh conR
theorem conRW_ok : ConOk conRW := alt_ok Try.func13 rfl gWh_ok conR_ok
def hcRW : Hc := altH 11 gRof (altH 14 gTo hcW)
theorem hcRW_ok : HcOk hcRW := altH_ok Try.func11 rfl gRof_ok (altH_ok Try.func14 rfl gTo_ok hcW_ok)
end Go.Proofs.Ytppbpbiibibiiaa

/-
  The law of whole numbers: its pieces.
-/
namespace Go.Proofs.Ytppbpbiibibiiaa
open Go.KRun Go.Nt Go.Wd Go.Rn
set_option maxRecDepth 100000
set_option linter.unusedVariables false

def lC (F : Func) : Nat → Code
  | 0 => cBody F
  | n + 1 => cSnd (lC F n)
def lP1 (F : Func) : List Code := [cFst (lC F 0), cFst (lC F 1), cFst (lC F 2), cFst (lC F 3)]
def lP2 (F : Func) : Code := cFst (lC F 4)
def lR7 (F : Func) : Code := cFst (lC F 5)
def lR8 (F : Func) : Code := cFst (lC F 6)
def lR9 (F : Func) : Code := lC F 7
theorem wl_body : Try.f4.body = some (cBody Try.f4) := by kernel_rfl
theorem wl_body3 : Try.f4.body = some (seqs (lP1 Try.f4) (.seq (lP2 Try.f4) (.seq (lR7 Try.f4) (.seq (lR8 Try.f4) (lR9 Try.f4))))) := by kernel_rfl
def bNb (n : Bool) (e : Int) (x : W4) (b : Bool) : List Value × TypeId := ([.bool n, .int .i64 e, .int .u64 x.a, .int .u64 x.b, .int .u64 x.c, .int .u64 x.d, .bool b], 25)
def bNm (n : Bool) (e : Int) (x : W4) (b : Bool) : List Value × TypeId := ([.bool n, .int .i64 e, .int .u64 x.a, .int .u64 x.b, .int .u64 x.c, .int .u64 x.d, .bool b], 31)
def hL (n : Bool) (ex : Int) (x : W4) (b : Bool) (Y : List Value × TypeId) : Hp := ⟨2, [Y, bNb n ex x b]⟩
theorem wl_p1Tz (n e : Bool) (x : W4) (ex M : Int) : GoesT (evL (tabH Try.prog extY conRW hcRW) 200 (lP1 Try.f4) ([vN n ex x true, .int .i64 M] ++ List.replicate 122 undef, ⟨0, []⟩, [cmp false, cmp true, cmp e, cmp false, cmp true]) ⟨[], [], []⟩) 8 116 none [vN n ex x true, .int .i64 M, .pointer (some ⟨0, 0, none⟩), undef, .bool false, .pointer (some ⟨1, 0, none⟩), .bool e, .int .i64 M] (hL n ex x true (bNm n 0 (ofN (whQ M n x true ex)) false)) [(ex == 0, true), (decide (ex > 0), false), (whL x true ex, e), (decide (whQ M n x true ex < 2 ^ 256), true), (early ex true, false), (decide x.ok, true)] := ⟨by kernel_rfl, by kernel_rfl, by kernel_rfl⟩
theorem wl_p1T (n b e : Bool) (x : W4) (ex M : Int) : GoesT (evL (tabH Try.prog extY conRW hcRW) 200 (lP1 Try.f4) ([vN n ex x b, .int .i64 M] ++ List.replicate 122 undef, ⟨0, []⟩, [cmp false, cmp true, cmp e, cmp false, cmp false]) ⟨[], [], []⟩) 8 116 none [vN n ex x b, .int .i64 M, .pointer (some ⟨0, 0, none⟩), undef, .bool false, .pointer (some ⟨1, 0, none⟩), .bool e, .int .i64 M] (hL n ex x b (bNm n 0 (ofN (whQ M n x b ex)) false)) [(ex == 0, false), (decide (ex > 0), false), (whL x b ex, e), (decide (whQ M n x b ex < 2 ^ 256), true), (early ex b, false), (decide x.ok, true)] := ⟨by kernel_rfl, by kernel_rfl, by kernel_rfl⟩
theorem wl_p1Fz (n e : Bool) (x : W4) (ex M : Int) : GoesT (evL (tabH Try.prog extY conRW hcRW) 200 (lP1 Try.f4) ([vN n ex x true, .int .i64 M] ++ List.replicate 122 undef, ⟨0, []⟩, [cmp false, cmp false, cmp e, cmp false, cmp true]) ⟨[], [], []⟩) 8 116 none [vN n ex x true, .int .i64 M, .pointer (some ⟨0, 0, none⟩), undef, .bool false, .pointer (some ⟨1, 0, none⟩), .bool e, .int .i64 M] (hL n ex x true (bNm n 1 w63 false)) [(ex == 0, true), (decide (ex > 0), false), (whL x true ex, e), (decide (whQ M n x true ex < 2 ^ 256), false), (early ex true, false), (decide x.ok, true)] := ⟨by kernel_rfl, by kernel_rfl, by kernel_rfl⟩
theorem wl_p1F (n b e : Bool) (x : W4) (ex M : Int) : GoesT (evL (tabH Try.prog extY conRW hcRW) 200 (lP1 Try.f4) ([vN n ex x b, .int .i64 M] ++ List.replicate 122 undef, ⟨0, []⟩, [cmp false, cmp false, cmp e, cmp false, cmp false]) ⟨[], [], []⟩) 8 116 none [vN n ex x b, .int .i64 M, .pointer (some ⟨0, 0, none⟩), undef, .bool false, .pointer (some ⟨1, 0, none⟩), .bool e, .int .i64 M] (hL n ex x b (bNm n 1 w63 false)) [(ex == 0, false), (decide (ex > 0), false), (whL x b ex, e), (decide (whQ M n x b ex < 2 ^ 256), false), (early ex b, false), (decide x.ok, true)] := ⟨by kernel_rfl, by kernel_rfl, by kernel_rfl⟩
theorem wl_m1 (n b e : Bool) (x : W4) (ex M : Int) (h : Hp) (g : Nat → Value) : GoesT (evC (tabH Try.prog extY conRW hcRW) 200 false (lP2 Try.f4) ([vN n ex x b, .int .i64 M, .pointer (some ⟨0, 0, none⟩), undef, .bool false, .pointer (some ⟨1, 0, none⟩), .bool e, .int .i64 M] ++ tl 116 g, h, [cmp true]) ⟨[], [], []⟩) 8 116 none [vN n ex x b, .int .i64 M, .pointer (some ⟨0, 0, none⟩), undef, .bool false, .pointer (some ⟨1, 0, none⟩), .bool e, .int .i64 0] h [(decide (M < 0), true)] := ⟨by kernel_rfl, by kernel_rfl, by kernel_rfl⟩
theorem wl_m2 (n b e : Bool) (x : W4) (ex M : Int) (h : Hp) (g : Nat → Value) : GoesT (evC (tabH Try.prog extY conRW hcRW) 200 false (lP2 Try.f4) ([vN n ex x b, .int .i64 M, .pointer (some ⟨0, 0, none⟩), undef, .bool false, .pointer (some ⟨1, 0, none⟩), .bool e, .int .i64 M] ++ tl 116 g, h, [cmp false, cmp true]) ⟨[], [], []⟩) 8 116 none [vN n ex x b, .int .i64 M, .pointer (some ⟨0, 0, none⟩), undef, .bool false, .pointer (some ⟨1, 0, none⟩), .bool e, .int .i64 0] h [(decide (M > 4), true), (decide (M < 0), false)] := ⟨by kernel_rfl, by kernel_rfl, by kernel_rfl⟩
theorem wl_m3 (n b e : Bool) (x : W4) (ex M : Int) (h : Hp) (g : Nat → Value) : GoesT (evC (tabH Try.prog extY conRW hcRW) 200 false (lP2 Try.f4) ([vN n ex x b, .int .i64 M, .pointer (some ⟨0, 0, none⟩), undef, .bool false, .pointer (some ⟨1, 0, none⟩), .bool e, .int .i64 M] ++ tl 116 g, h, [cmp false, cmp false]) ⟨[], [], []⟩) 8 116 none [vN n ex x b, .int .i64 M, .pointer (some ⟨0, 0, none⟩), undef, .bool false, .pointer (some ⟨1, 0, none⟩), .bool e, .int .i64 M] h [(decide (M > 4), false), (decide (M < 0), false)] := ⟨by kernel_rfl, by kernel_rfl, by kernel_rfl⟩
theorem wl_r7T (n b e : Bool) (x : W4) (ex M m : Int) (Y : List Value × TypeId) (g : Nat → Value) : GoesT (evC (tabH Try.prog extY conRW hcRW) 200 false (lR7 Try.f4) ([vN n ex x b, .int .i64 M, .pointer (some ⟨0, 0, none⟩), undef, .bool false, .pointer (some ⟨1, 0, none⟩), .bool e, .int .i64 m] ++ tl 116 g, hL n ex x b Y, [cmp true, cmp e]) ⟨[], [], []⟩) 10 114 none [vN n ex x b, .int .i64 M, .pointer (some ⟨0, 0, none⟩), undef, .bool false, .pointer (some ⟨1, 0, none⟩), .bool e, .int .i64 m, sOf 3 (toQ m n (vO (nxt (hL n ex x b Y) (refT x b)) (some ⟨2, 0, none⟩) (d16 (refT x b)).length) (refE ex b) 0), .bool e] (nxt (nxt (hL n ex x b Y) (refT x b)) (toQ m n (vO (nxt (hL n ex x b Y) (refT x b)) (some ⟨2, 0, none⟩) (d16 (refT x b)).length) (refE ex b) 0)) [(toL (vO (nxt (hL n ex x b Y) (refT x b)) (some ⟨2, 0, none⟩) (d16 (refT x b)).length) (refE ex b) 0, e), (rowTo m n (vO (nxt (hL n ex x b Y) (refT x b)) (some ⟨2, 0, none⟩) (d16 (refT x b)).length) (d16 (refT x b)).length (refE ex b) 0, true), (okTo (nxt (hL n ex x b Y) (refT x b)) (some ⟨2, 0, none⟩) (d16 (refT x b)).length (d16 (refT x b)).length (refE ex b) 0, true), (decide x.ok, true)] := ⟨by kernel_rfl, by kernel_rfl, by kernel_rfl⟩
theorem wl_r7F (n b e : Bool) (x : W4) (ex M m : Int) (Y : List Value × TypeId) (g : Nat → Value) : GoesT (evC (tabH Try.prog extY conRW hcRW) 200 false (lR7 Try.f4) ([vN n ex x b, .int .i64 M, .pointer (some ⟨0, 0, none⟩), undef, .bool false, .pointer (some ⟨1, 0, none⟩), .bool e, .int .i64 m] ++ tl 116 g, hL n ex x b Y, [cmp false, cmp e]) ⟨[], [], []⟩) 10 114 none [vN n ex x b, .int .i64 M, .pointer (some ⟨0, 0, none⟩), undef, .bool false, .pointer (some ⟨1, 0, none⟩), .bool e, .int .i64 m, nilS, .bool e] (nxt (hL n ex x b Y) (refT x b)) [(toL (vO (nxt (hL n ex x b Y) (refT x b)) (some ⟨2, 0, none⟩) (d16 (refT x b)).length) (refE ex b) 0, e), (rowTo m n (vO (nxt (hL n ex x b Y) (refT x b)) (some ⟨2, 0, none⟩) (d16 (refT x b)).length) (d16 (refT x b)).length (refE ex b) 0, false), (okTo (nxt (hL n ex x b Y) (refT x b)) (some ⟨2, 0, none⟩) (d16 (refT x b)).length (d16 (refT x b)).length (refE ex b) 0, true), (decide x.ok, true)] := ⟨by kernel_rfl, by kernel_rfl, by kernel_rfl⟩
theorem wl_r8T (n e : Bool) (x y : W4) (b : Bool) (ex ey M m : Int) (q t : Nat) (X : List Value × TypeId) (g : Nat → Value) : GoesT (evC (tabH Try.prog extY conRW hcRW) 200 false (lR8 Try.f4) ([vN n ex x b, .int .i64 M, .pointer (some ⟨0, 0, none⟩), undef, .bool false, .pointer (some ⟨1, 0, none⟩), .bool e, .int .i64 m, sOf 3 q, .bool e] ++ tl 114 g, ⟨4, [(wU (d16 q), tU), (wU (d16 t), tU), bNm n ey y false, X]⟩, []) ⟨[], [], []⟩) 11 113 none [vN n ex x b, .int .i64 M, .pointer (some ⟨0, 0, none⟩), undef, .bool false, .pointer (some ⟨1, 0, none⟩), .bool e, .int .i64 m, sOf 3 q, .bool e, .pointer (some ⟨5, 0, none⟩)] ⟨6, [bOf n (refE ey false) (sOf 4 (refT y false)), (wU (d16 (refT y false)), tU), (wU (d16 q), tU), (wU (d16 t), tU), bNm n ey y false, X]⟩ [(decide y.ok, true)] := ⟨by kernel_rfl, by kernel_rfl, by kernel_rfl⟩
theorem wl_r8F (n e : Bool) (x y : W4) (b : Bool) (ex ey M m : Int) (q t : Nat) (X : List Value × TypeId) (g : Nat → Value) : GoesT (evC (tabH Try.prog extY conRW hcRW) 200 false (lR8 Try.f4) ([vN n ex x b, .int .i64 M, .pointer (some ⟨0, 0, none⟩), undef, .bool false, .pointer (some ⟨1, 0, none⟩), .bool e, .int .i64 m, nilS, .bool e] ++ tl 114 g, ⟨3, [(wU (d16 t), tU), bNm n ey y false, X]⟩, []) ⟨[], [], []⟩) 11 113 none [vN n ex x b, .int .i64 M, .pointer (some ⟨0, 0, none⟩), undef, .bool false, .pointer (some ⟨1, 0, none⟩), .bool e, .int .i64 m, nilS, .bool e, .pointer (some ⟨4, 0, none⟩)] ⟨5, [bOf n (refE ey false) (sOf 3 (refT y false)), (wU (d16 (refT y false)), tU), (wU (d16 t), tU), bNm n ey y false, X]⟩ [(decide y.ok, true)] := ⟨by kernel_rfl, by kernel_rfl, by kernel_rfl⟩
def hR11 (n : Bool) (x y : W4) (b : Bool) (ex ey ez : Int) (q t u : Nat) : Hp := ⟨6, [bOf n ez (sOf 4 u), (wU (d16 u), tU), (wU (d16 q), tU), (wU (d16 t), tU), bNm n ey y false, bNb n ex x b]⟩
theorem wl_r911 (n e : Bool) (x y : W4) (b : Bool) (ex ey ez M m : Int) (q t u : Nat) (g : Nat → Value) : GoesT (evC (tabH Try.prog extY conRW hcRW) 200 false (lR9 Try.f4) ([vN n ex x b, .int .i64 M, .pointer (some ⟨0, 0, none⟩), undef, .bool false, .pointer (some ⟨1, 0, none⟩), .bool e, .int .i64 m, sOf 3 q, .bool e, .pointer (some ⟨5, 0, none⟩)] ++ tl 113 g, (hR11 n x y b ex ey ez q t u), [cmp true, cmp true, cmp true, cmp true]) ⟨[], [], []⟩) 5 119 (some none) [vN n ex x b, .int .i64 M, .pointer (some ⟨0, 0, none⟩), undef, .bool true] (nxt (hR11 n x y b ex ey ez q t u) (vO (hR11 n x y b ex ey ez q t u) (some ⟨4, 0, none⟩) (d16 u).length * 2 ^ ez.toNat)) [(cmpZ (vO (nxt (hR11 n x y b ex ey ez q t u) (vO (hR11 n x y b ex ey ez q t u) (some ⟨4, 0, none⟩) (d16 u).length * 2 ^ ez.toNat)) (some ⟨6, 0, none⟩) (d16 (vO (hR11 n x y b ex ey ez q t u) (some ⟨4, 0, none⟩) (d16 u).length * 2 ^ ez.toNat)).length) (vO (nxt (hR11 n x y b ex ey ez q t u) (vO (hR11 n x y b ex ey ez q t u) (some ⟨4, 0, none⟩) (d16 u).length * 2 ^ ez.toNat)) (some ⟨3, 0, none⟩) (d16 q).length) == 0, true), (two16 (nxt (hR11 n x y b ex ey ez q t u) (vO (hR11 n x y b ex ey ez q t u) (some ⟨4, 0, none⟩) (d16 u).length * 2 ^ ez.toNat)) (some ⟨6, 0, none⟩) (some ⟨3, 0, none⟩) (d16 (vO (hR11 n x y b ex ey ez q t u) (some ⟨4, 0, none⟩) (d16 u).length * 2 ^ ez.toNat)).length (d16 (vO (hR11 n x y b ex ey ez q t u) (some ⟨4, 0, none⟩) (d16 u).length * 2 ^ ez.toNat)).length (d16 q).length (d16 q).length, true), (okShl (hR11 n x y b ex ey ez q t u) (some ⟨4, 0, none⟩) (d16 u).length (d16 u).length ez, true), (decide (0 < (d16 u).length), true), (decide (ey ≤ 1), true), (decide (ey ≥ 0), true)] := by
  cases n <;> cases e <;> exact ⟨by kernel_rfl, by kernel_rfl, by kernel_rfl⟩
def hR10 (n : Bool) (x y : W4) (b : Bool) (ex ey ez : Int) (q t u : Nat) : Hp := ⟨6, [bOf n ez (sOf 4 u), (wU (d16 u), tU), (wU (d16 q), tU), (wU (d16 t), tU), bNm n ey y false, bNb n ex x b]⟩
theorem wl_r910 (n e : Bool) (x y : W4) (b : Bool) (ex ey ez M m : Int) (q t u : Nat) (g : Nat → Value) : GoesT (evC (tabH Try.prog extY conRW hcRW) 200 false (lR9 Try.f4) ([vN n ex x b, .int .i64 M, .pointer (some ⟨0, 0, none⟩), undef, .bool false, .pointer (some ⟨1, 0, none⟩), .bool e, .int .i64 m, sOf 3 q, .bool e, .pointer (some ⟨5, 0, none⟩)] ++ tl 113 g, (hR10 n x y b ex ey ez q t u), [cmp true, cmp true, cmp false, cmp true]) ⟨[], [], []⟩) 5 119 (some none) [vN n ex x b, .int .i64 M, .pointer (some ⟨0, 0, none⟩), undef, .bool true] (hR10 n x y b ex ey ez q t u) [(cmpZ (vO (hR10 n x y b ex ey ez q t u) none 0) (vO (hR10 n x y b ex ey ez q t u) (some ⟨3, 0, none⟩) (d16 q).length) == 0, true), (two16 (hR10 n x y b ex ey ez q t u) none (some ⟨3, 0, none⟩) 0 0 (d16 q).length (d16 q).length, true), (rowP (hR10 n x y b ex ey ez q t u) (some ⟨4, 0, none⟩) (d16 u).length (d16 u).length, true), (decide (0 < (d16 u).length), false), (decide (ey ≤ 1), true), (decide (ey ≥ 0), true)] := by
  cases n <;> cases e <;> exact ⟨by kernel_rfl, by kernel_rfl, by kernel_rfl⟩
def hR00 (n : Bool) (x y : W4) (b : Bool) (ex ey ez : Int) (q t u : Nat) : Hp := ⟨5, [bOf n ez (sOf 3 u), (wU (d16 u), tU), (wU (d16 t), tU), bNm n ey y false, bNb n ex x b]⟩
theorem wl_r900 (n e : Bool) (x y : W4) (b : Bool) (ex ey ez M m : Int) (q t u : Nat) (g : Nat → Value) : GoesT (evC (tabH Try.prog extY conRW hcRW) 200 false (lR9 Try.f4) ([vN n ex x b, .int .i64 M, .pointer (some ⟨0, 0, none⟩), undef, .bool false, .pointer (some ⟨1, 0, none⟩), .bool e, .int .i64 m, nilS, .bool e, .pointer (some ⟨4, 0, none⟩)] ++ tl 113 g, (hR00 n x y b ex ey ez q t u), [cmp true, cmp true, cmp false, cmp true]) ⟨[], [], []⟩) 5 119 (some none) [vN n ex x b, .int .i64 M, .pointer (some ⟨0, 0, none⟩), undef, .bool true] (hR00 n x y b ex ey ez q t u) [(cmpZ (vO (hR00 n x y b ex ey ez q t u) none 0) (vO (hR00 n x y b ex ey ez q t u) none 0) == 0, true), (two16 (hR00 n x y b ex ey ez q t u) none none 0 0 0 0, true), (rowP (hR00 n x y b ex ey ez q t u) (some ⟨3, 0, none⟩) (d16 u).length (d16 u).length, true), (decide (0 < (d16 u).length), false), (decide (ey ≤ 1), true), (decide (ey ≥ 0), true)] := by
  cases n <;> cases e <;> exact ⟨by kernel_rfl, by kernel_rfl, by kernel_rfl⟩
end Go.Proofs.Ytppbpbiibibiiaa

/-
  PLAIN ARITHMETIC: far below, and by modes that are none; the size told by the document.
-/
namespace Go.Rn
open Go.Nt Go.Wd

theorem far_pow {k : Nat} (hk : 300 ≤ k) : 4 * 2 ^ 256 ≤ 2 ^ k := by
  obtain ⟨j, rfl⟩ : ∃ j, k = 256 + (2 + j) := ⟨k - 258, by omega⟩
  have hj : 0 < 2 ^ j := Nat.pow_pos (by omega)
  rw [Nat.pow_add, Nat.pow_add, Nat.mul_comm 4]
  refine Nat.mul_le_mul_left _ ?_
  show 4 ≤ 4 * 2 ^ j
  omega
theorem far_rq {m : Int} {neg : Bool} {T k : Nat} (hT : T < 2 * 2 ^ 256) (hk : 300 ≤ k) : rq m neg T k = (if upR m neg false (if T = 0 then 0 else 1) = true then 1 else 0) := by
  have hp := far_pow hk
  generalize (2 : Nat) ^ 256 = P at hT hp
  have hd : T / 2 ^ k = 0 := Nat.div_eq_of_lt (by omega)
  have hm : T % 2 ^ k = T := Nat.mod_eq_of_lt (by omega)
  unfold rq
  rw [hd, hm]
  have ho : odd 0 = false := rfl
  have hr : restC T (2 ^ k) = if T = 0 then 0 else 1 := by
    unfold restC
    split
    · rfl
    · rw [if_pos (by omega)]
  rw [ho, hr]
  simp
theorem far_toQ {m : Int} {neg : Bool} {T : Nat} (hT : T < 2 * 2 ^ 256) {E F : Int} (hE : E ≤ -300) (hF : F ≤ -300) : toQ m neg T E 0 = toQ m neg T F 0 := by
  unfold toQ
  rw [if_neg (by omega), if_neg (by omega), far_rq hT (by omega), far_rq hT (by omega)]
theorem far_toL {T : Nat} (hT : T < 2 * 2 ^ 256) {E F : Int} (hE : E ≤ -300) (hF : F ≤ -300) : toL T E 0 = toL T F 0 := by
  have key : ∀ k, 300 ≤ k → T % 2 ^ k = T := fun k hk => by
    have hp := far_pow hk
    exact Nat.mod_eq_of_lt (by omega)
  unfold toL
  rw [if_neg (by omega), if_neg (by omega), key _ (by omega), key _ (by omega)]
/-- a mode, or Even -/
def mN (m : Int) : Int := if m < 0 then 0 else if m > 4 then 0 else m
theorem upR_mN (m : Int) (neg o : Bool) (c : Int) : upR (mN m) neg o c = upR m neg o c := by
  unfold mN
  by_cases h0 : m < 0
  · rw [if_pos h0]
    unfold upR
    rw [if_neg (show ¬ m = 2 by omega), if_neg (show ¬ m = 3 by omega), if_neg (show ¬ m = 4 by omega), if_neg (show ¬ m = 1 by omega)]
    simp
  · rw [if_neg h0]
    by_cases h4 : m > 4
    · rw [if_pos h4]
      unfold upR
      rw [if_neg (show ¬ m = 2 by omega), if_neg (show ¬ m = 3 by omega), if_neg (show ¬ m = 4 by omega), if_neg (show ¬ m = 1 by omega)]
      simp
    · rw [if_neg h4]
theorem toQ_mN (m : Int) (neg : Bool) (T : Nat) (E e : Int) : toQ (mN m) neg T E e = toQ m neg T E e := by
  unfold toQ rq
  simp only [upR_mN]
/-- the document's size -/
def rT (x : W4) (b : Bool) : Nat := match b with | true => 2 * x.nat + 1 | false => x.nat
def jB (b : Bool) : Int := match b with | true => 1 | false => 0
theorem rT_lt {x : W4} (hx : x.ok) (b : Bool) : rT x b < 2 * 2 ^ 256 := by
  have := W4.nat_lt hx
  unfold rT
  cases b <;> simp only <;> omega
theorem tw_toQ (m : Int) (neg : Bool) (x : W4) (b : Bool) (E e : Int) : toQ m neg (tw x b) (E - 1) e = toQ m neg (rT x b) (E - jB b) e := by
  cases b with
  | true => rfl
  | false =>
    have h := toQ_scale m neg x.nat 1 E e
    have e1 : tw x false = x.nat * 2 ^ 1 := by unfold tw; simp [Nat.mul_comm]
    rw [e1]
    simp only [rT, jB, Int.sub_zero]
    exact h
theorem tw_toL (x : W4) (b : Bool) (E e : Int) : toL (tw x b) (E - 1) e = toL (rT x b) (E - jB b) e := by
  cases b with
  | true => rfl
  | false =>
    have h := toL_scale x.nat 1 E e
    have e1 : tw x false = x.nat * 2 ^ 1 := by unfold tw; simp [Nat.mul_comm]
    rw [e1]
    simp only [rT, jB, Int.sub_zero]
    exact h
/-- a whole number of so few bits -/
theorem whole_le {m : Int} {neg : Bool} {x : W4} {b : Bool} (hx : x.ok) {E : Int} (hE : E ≤ 0) : toQ m neg (tw x b) (E - 1) 0 ≤ 2 ^ 256 := by
  have h1 := W4.nat_lt hx
  obtain ⟨d, hd⟩ : ∃ d : Nat, (0 - (E - 1)).toNat = d + 1 := ⟨(0 - (E - 1)).toNat - 1, by omega⟩
  unfold toQ
  rw [if_neg (by omega), hd]
  have h2 := (rq_bd m neg (tw x b) (d + 1)).2
  rw [tw_div] at h2
  have h3 : x.nat / 2 ^ d ≤ x.nat := Nat.div_le_self _ _
  omega
end Go.Rn
