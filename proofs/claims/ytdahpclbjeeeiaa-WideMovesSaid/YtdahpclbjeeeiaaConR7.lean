/-
  The document's own moves (tillerref01.Shl, tillerref01.Shr), as calls, I: piece by piece.
-/
import Derived.Test.YtdahpclbjeeeiaaConR4
namespace Go.Proofs.Ytdahpclbjeeeiaa
open Go.KRun Go.Wd
set_option maxRecDepth 100000

def mPre (F : Func) : List Code := [cFst (cBody F), cFst (cSnd (cBody F)), cFst (cSnd (cSnd (cBody F))), cFst (cSnd (cSnd (cSnd (cBody F)))), cFst (cSnd (cSnd (cSnd (cSnd (cBody F)))))]
def mRest (F : Func) : Code := cSnd (cSnd (cSnd (cSnd (cSnd (cBody F)))))
def mR (F : Func) : Code := cFst (cFst (mRest F))
def mLoop (F : Func) : Code := cIn (cIn (cSnd (cFst (mRest F))))
def mEnd (F : Func) : Code := cSnd (mRest F)
theorem rshl_body : Try.f19.body = some (seqs (mPre Try.f19) (.seq (.seq (mR Try.f19) (.block 0 (.loop (mLoop Try.f19)))) (mEnd Try.f19))) := by kernel_rfl
theorem rshr_body : Try.f17.body = some (seqs (mPre Try.f17) (.seq (.seq (mR Try.f17) (.block 0 (.loop (mLoop Try.f17)))) (mEnd Try.f17))) := by kernel_rfl
def mHp (l m : List Value) (b0 b1 : List Value × TypeId) : Hp := ⟨4, [(m, 47), (l, 47), b1, b0]⟩
def hFr (v0 : Value) (n i : Int) (v3 : Value) : List Value := [v0, i_ n, p_ 0, v3, p_ 1, p_ 2, p_ 3, i_ i]
def Z47 : List Value := vL (List.replicate 256 0)
theorem rshl_low (x : W4) (n : Int) : Fits (reckon (tabOf Try.prog extY conB true) 2000 19 [vW x, i_ n] [tst true]) (vW x) [(decide (n < 1), true)] := ⟨by kernel_rfl, by kernel_rfl, by kernel_rfl, by kernel_rfl⟩
theorem rshl_high (x : W4) (n : Int) : Fits (reckon (tabOf Try.prog extY conB true) 2000 19 [vW x, i_ n] [tst false, tst true]) (vW ⟨0, 0, 0, 0⟩) [(decide (n > 255), true), (decide (n < 1), false)] := ⟨by kernel_rfl, by kernel_rfl, by kernel_rfl, by kernel_rfl⟩
theorem rshl_pre (x : W4) (n : Int) : GoesE (evL (tabOf Try.prog extY conB true) 2000 (mPre Try.f19) ([vW x, i_ n] ++ List.replicate 28 undef, ⟨0, []⟩, [tst false, tst false]) ⟨[], [], []⟩) 8 22 none
      [vW x, i_ n, p_ 0, undef, p_ 1, p_ 2, p_ 3, undef] (mHp (bitsN x) Z47 (xW x) W0) [okW x, (decide (n > 255), false), (decide (n < 1), false)] := by unfold GoesE; kernel_rfl
theorem rshl_r (v0 v3 j : Value) (n : Int) (h : Hp) (g : Nat → Value) :
    GoesE (evC (tabOf Try.prog extY conB true) 200 false (mR Try.f19) ([v0, i_ n, p_ 0, v3, p_ 1, p_ 2, p_ 3, j] ++ tl 22 g, h, []) ⟨[], [], []⟩) 8 22 none
      (hFr v0 n n v3) h [] := by unfold GoesE; kernel_rfl
theorem rshl_round (v0 v3 : Value) (n i p : Int) (l m : List Value) (b0 b1 : List Value × TypeId) (g : Nat → Value) :
    GoesE (evC (tabOf Try.prog extY conB true) 200 false (mLoop Try.f19) (hFr v0 n i v3 ++ tl 22 g, mHp l m b0 b1, [tst true, at_, val (i_ p), at_, at_]) ⟨[], [], []⟩) 8 22 none
      (hFr v0 n (IntKind.i64.wrap (i + 1)) v3) (mHp l (m.set (0 + i.toNat * 1) (i_ p)) b0 b1) [sto m i, inr i, cel l (IntKind.i64.wrap (i - n)) p, inr (IntKind.i64.wrap (i - n)), (decide (i < 256), true)] := by unfold GoesE; kernel_rfl
theorem rshl_out (v0 v3 : Value) (n i : Int) (l m : List Value) (b0 b1 : List Value × TypeId) (g : Nat → Value) :
    GoesE (evC (tabOf Try.prog extY conB true) 200 false (mLoop Try.f19) (hFr v0 n i v3 ++ tl 22 g, mHp l m b0 b1, [tst false]) ⟨[], [], []⟩) 8 22 (some (some 0))
      (hFr v0 n i v3) (mHp l m b0 b1) [(decide (i < 256), false)] := by unfold GoesE; kernel_rfl
theorem rshl_end (v0 v3 : Value) (n i : Int) (f f2 : Nat → Int) (x : W4) (g : Nat → Value) :
    GoesE (evC (tabOf Try.prog extY conB true) 5000 false (mEnd Try.f19) (hFr v0 n i v3 ++ tl 22 g, mHp (vL ((List.range 256).map f2)) (vL ((List.range 256).map f)) (xW x) W0, []) ⟨[], [], []⟩) 8 22 (some none)
      (hFr v0 n i v3) (mHp (vL ((List.range 256).map f2)) (vL ((List.range 256).map f)) (xW x) (xW (w4L ((List.range 256).map f)))) [] := by unfold GoesE; kernel_rfl

def rFr (v0 : Value) (n i : Int) (v3 v5 : Value) (lost : Bool) : List Value := [v0, i_ n, p_ 0, v3, p_ 1, v5, p_ 2, p_ 3, .bool lost, i_ i]
theorem rshr_low (x : W4) (n : Int) : Fits (reckon (tabOf Try.prog extY conB true) 2000 17 [vW x, i_ n] [tst true]) (.tuple #[vW x, .bool false]) [(decide (n < 1), true)] := ⟨by kernel_rfl, by kernel_rfl, by kernel_rfl, by kernel_rfl⟩
theorem rshr_pre (x : W4) (n : Int) : GoesE (evL (tabOf Try.prog extY conB true) 2000 (mPre Try.f17) ([vW x, i_ n] ++ List.replicate 37 undef, ⟨0, []⟩, [tst false]) ⟨[], [], []⟩) 10 29 none
      [vW x, i_ n, p_ 0, undef, p_ 1, .bool false, p_ 2, p_ 3, .bool false, undef] (mHp (bitsN x) Z47 (xW x) W0) [okW x, (decide (n < 1), false)] := by unfold GoesE; kernel_rfl
theorem rshr_r (v0 v3 v5 j : Value) (n : Int) (lost : Bool) (h : Hp) (g : Nat → Value) :
    GoesE (evC (tabOf Try.prog extY conB true) 200 false (mR Try.f17) ([v0, i_ n, p_ 0, v3, p_ 1, v5, p_ 2, p_ 3, .bool lost, j] ++ tl 29 g, h, []) ⟨[], [], []⟩) 10 29 none
      (rFr v0 n 0 v3 v5 lost) h [] := by unfold GoesE; kernel_rfl
theorem rshr_keep (v0 v3 v5 : Value) (n i : Int) (l m : List Value) (b0 b1 : List Value × TypeId) (g : Nat → Value) :
    GoesT (evC (tabOf Try.prog extY conB true) 200 false (mLoop Try.f17) (rFr v0 n i v3 v5 true ++ tl 29 g, mHp l m b0 b1, [tst true, tst true]) ⟨[], [], []⟩) 10 29 none
      (rFr v0 n (IntKind.i64.wrap (i + 1)) v3 v5 true) (mHp l m b0 b1) [(decide (i < n), true), (decide (i < 256), true)] := ⟨by kernel_rfl, by kernel_rfl, by kernel_rfl⟩
theorem rshr_lose (v0 v3 v5 : Value) (n i p : Int) (l m : List Value) (b0 b1 : List Value × TypeId) (g : Nat → Value) :
    GoesT (evC (tabOf Try.prog extY conB true) 200 false (mLoop Try.f17) (rFr v0 n i v3 v5 false ++ tl 29 g, mHp l m b0 b1, [tst true, tst true, at_, val (i_ p)]) ⟨[], [], []⟩) 10 29 none
      (rFr v0 n (IntKind.i64.wrap (i + 1)) v3 v5 (p == 1)) (mHp l m b0 b1) [cel l i p, inr i, (decide (i < n), true), (decide (i < 256), true)] := ⟨by kernel_rfl, by kernel_rfl, by kernel_rfl⟩
theorem rshr_round (v0 v3 v5 : Value) (n i p : Int) (lost : Bool) (l m : List Value) (b0 b1 : List Value × TypeId) (g : Nat → Value) :
    GoesE (evC (tabOf Try.prog extY conB true) 200 false (mLoop Try.f17) (rFr v0 n i v3 v5 lost ++ tl 29 g, mHp l m b0 b1, [tst true, tst false, at_, val (i_ p), at_, at_]) ⟨[], [], []⟩) 10 29 none
      (rFr v0 n (IntKind.i64.wrap (i + 1)) v3 v5 lost) (mHp l (m.set (0 + (IntKind.i64.wrap (i - n)).toNat * 1) (i_ p)) b0 b1) [sto m (IntKind.i64.wrap (i - n)), inr (IntKind.i64.wrap (i - n)), cel l i p, inr i, (decide (i < n), false), (decide (i < 256), true)] := by unfold GoesE; kernel_rfl
theorem rshr_out (v0 v3 v5 : Value) (n i : Int) (lost : Bool) (l m : List Value) (b0 b1 : List Value × TypeId) (g : Nat → Value) :
    GoesE (evC (tabOf Try.prog extY conB true) 200 false (mLoop Try.f17) (rFr v0 n i v3 v5 lost ++ tl 29 g, mHp l m b0 b1, [tst false]) ⟨[], [], []⟩) 10 29 (some (some 0))
      (rFr v0 n i v3 v5 lost) (mHp l m b0 b1) [(decide (i < 256), false)] := by unfold GoesE; kernel_rfl
theorem rshr_end (v0 v3 v5 : Value) (n i : Int) (lost : Bool) (f f2 : Nat → Int) (x : W4) (g : Nat → Value) :
    GoesE (evC (tabOf Try.prog extY conB true) 5000 false (mEnd Try.f17) (rFr v0 n i v3 v5 lost ++ tl 29 g, mHp (vL ((List.range 256).map f2)) (vL ((List.range 256).map f)) (xW x) W0, []) ⟨[], [], []⟩) 10 29 (some none)
      (rFr v0 n i v3 (.bool lost) lost) (mHp (vL ((List.range 256).map f2)) (vL ((List.range 256).map f)) (xW x) (xW (w4L ((List.range 256).map f)))) [] := by unfold GoesE; kernel_rfl
end Go.Proofs.Ytdahpclbjeeeiaa
