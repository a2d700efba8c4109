/-
  The document's own differences (tillerref01.Sub), piece by piece.
-/
import Derived.Test.YtdahpclbjeeeiaaConR4
namespace Go.Proofs.Ytdahpclbjeeeiaa
open Go.KRun Go.Wd

/-! ### Sub -/
theorem rsub_body : Try.f10.body = some (seqs (aPre Try.f10) (.seq (.seq (aR Try.f10) (.block 0 (.loop (aLoop Try.f10)))) (aEnd Try.f10))) := by kernel_rfl
theorem rsub_round (v0 v1 v5 : Value) (c i p q : Int) (l m : List Value) (b0 b1 b2 : List Value × TypeId) (g : Nat → Value) :
    GoesT (evC (tabOf Try.prog extY conB true) 200 false (aLoop Try.f10) (aFr v0 v1 v5 c i ++ tl 30 g, aHp l m b0 b1 b2, [tst true, at_, val (i_ p), at_, val (i_ q), at_, at_]) ⟨[], [], []⟩) 10 30 none
      (aFr v0 v1 v5 (carS p q c) (IntKind.i64.wrap (i + 1))) (aHp (l.set (0 + i.toNat * 1) (i_ (digS p q c))) m b0 b1 b2)
      [sto l i, inr i, cel m i q, inr i, cel l i p, inr i, (decide (i < 256), true)] := ⟨by kernel_rfl, by kernel_rfl, by kernel_rfl⟩
theorem rsub_out (v0 v1 v5 : Value) (c i : Int) (l m : List Value) (b0 b1 b2 : List Value × TypeId) (g : Nat → Value) :
    GoesT (evC (tabOf Try.prog extY conB true) 200 false (aLoop Try.f10) (aFr v0 v1 v5 c i ++ tl 30 g, aHp l m b0 b1 b2, [tst false]) ⟨[], [], []⟩) 10 30 (some (some 0))
      (aFr v0 v1 v5 c i) (aHp l m b0 b1 b2) [(decide (i < 256), false)] := ⟨by kernel_rfl, by kernel_rfl, by kernel_rfl⟩
theorem rsub_r (v0 v1 v5 j : Value) (c : Int) (h : Hp) (g : Nat → Value) :
    GoesT (evC (tabOf Try.prog extY conB true) 200 false (aR Try.f10) ([v0, v1, p_ 0, p_ 1, p_ 2, v5, p_ 3, p_ 4, i_ c, j] ++ tl 30 g, h, []) ⟨[], [], []⟩) 10 30 none
      (aFr v0 v1 v5 c 0) h [] := ⟨by kernel_rfl, by kernel_rfl, by kernel_rfl⟩
set_option maxRecDepth 100000 in
theorem rsub_pre (x y : W4) : GoesT (evL (tabOf Try.prog extY conB true) 2000 (aPre Try.f10) ([vW x, vW y] ++ List.replicate 38 undef, ⟨0, []⟩, []) ⟨[], [], []⟩) 10 30 none
      [vW x, vW y, p_ 0, p_ 1, p_ 2, .bool false, p_ 3, p_ 4, i_ 0, undef] (aHp (bitsN x) (bitsN y) (xW x) (xW y) W0) (aLog x y) := ⟨by kernel_rfl, by kernel_rfl, by kernel_rfl⟩
set_option maxRecDepth 100000 in
theorem rsub_end (v0 v1 v5 : Value) (c i : Int) (f f2 : Nat → Int) (x y : W4) (g : Nat → Value) :
    GoesE (evC (tabOf Try.prog extY conB true) 5000 false (aEnd Try.f10) (aFr v0 v1 v5 c i ++ tl 30 g, aHp (vL ((List.range 256).map f)) (vL ((List.range 256).map f2)) (xW x) (xW y) W0, []) ⟨[], [], []⟩) 10 30 (some none)
      (aFr v0 v1 (.bool (c == 1)) c i) (aHp (vL ((List.range 256).map f)) (vL ((List.range 256).map f2)) (xW x) (xW y) (xW (w4L ((List.range 256).map f)))) [] := by unfold GoesE; kernel_rfl
end Go.Proofs.Ytdahpclbjeeeiaa
