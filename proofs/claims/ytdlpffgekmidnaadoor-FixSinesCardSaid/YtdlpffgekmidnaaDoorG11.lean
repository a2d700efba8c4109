/-
  FiC, FiD, FiE, FiF, FiG, Hcs, NumN, ConN1, NumV
-/
import Derived.Test.YtdlpffgekmidnaaDoorG10
namespace Go.Proofs.YtdlpffgekmidnaaDoor
open Go.KRun Go.Wd
set_option maxRecDepth 100000
def conFS : Con := alt 55 gPrt (alt 26 (g2 (plain2 fmV4)) (alt 19 (g2 (plain2 subV4)) (alt 48 (g2 (plain2 addV4)) conN)))
theorem conFS_ok : ConOk conFS := alt_ok Tryd.func55 rfl gPrt_ok (alt_ok Tryd.func26 rfl (plain2_ok fm_calls) (alt_ok Tryd.func19 rfl (plain2_ok sub_calls) (alt_ok Tryd.func48 rfl (plain2_ok add_calls) conN_ok)))
def srP (F : Func) : List Code := [cFst (cBody F), cFst (cSnd (cBody F)), cFst (cSnd (cSnd (cBody F)))]
def srI (F : Func) : Code := cFst (cFst (cSnd (cSnd (cSnd (cBody F)))))
def srL (F : Func) : Code := cIn (cIn (cSnd (cFst (cSnd (cSnd (cSnd (cBody F)))))))
def srE (F : Func) : Code := cSnd (cSnd (cSnd (cSnd (cBody F))))
theorem sr_body : Tryd.f40.body = some (seqs (srP Tryd.f40) (.seq (.seq (srI Tryd.f40) (.block 0 (.loop (srL Tryd.f40)))) (srE Tryd.f40))) := by kernel_rfl
def aFx (n : Nat) : Value := .pointer (some ⟨n, 0, none⟩)
def kFx (x : W4) : List Value × TypeId := ([.int .u64 x.a, .int .u64 x.b, .int .u64 x.c, .int .u64 x.d], 24)
/-- the memory: the sum, the square, the answer, the angle, the term -/
def srH (t x q y : W4) : Hp := ⟨5, [kFx y, kFx q, kFx ⟨0, 0, 0, 0⟩, kFx x, kFx t]⟩
def srF (v0 v1 : Value) (n : Int) (v5 v8 v10 v11 v12 v13 v14 v15 v16 v17 : Value) (k : Int) : List Value := [v0, v1, .int .u64 n, aFx 0, aFx 1, v5, aFx 2, aFx 3, v8, aFx 4, v10, v11, v12, v13, v14, v15, v16, v17, .int .u64 k]
theorem sr_pre (t x : W4) (n : Int) : GoesT (evL (tabOf Tryd.prog extY conFS true) 300 (srP Tryd.f40) ([vW t, vW x, .int .u64 n] ++ List.replicate 39 undef, ⟨0, []⟩, []) ⟨[], [], []⟩) 18 24 none [vW t, vW x, .int .u64 n, aFx 0, aFx 1, undef, aFx 2, aFx 3, .bool (decide (115792089237316195423570985008687907853269984665640564039457584007913129639936 ≤ fmI x x)), aFx 4, undef, fmV4 x x, vW x, vW x, fmV4 x x, vW (W4.of (fmI x x)), .bool (decide (115792089237316195423570985008687907853269984665640564039457584007913129639936 ≤ fmI x x)), vW t] (srH t x (W4.of (fmI x x)) t) [q2 x x] := ⟨by kernel_rfl, by kernel_rfl, by kernel_rfl⟩
theorem sr_i (v0 v1 v2 v3 v4 v5 v6 v7 v8 v9 v10 v11 v12 v13 v14 v15 v16 v17 : Value) (g : Nat → Value) (h : Hp) : GoesT (evC (tabOf Tryd.prog extY conFS true) 100 false (srI Tryd.f40) ([v0, v1, v2, v3, v4, v5, v6, v7, v8, v9, v10, v11, v12, v13, v14, v15, v16, v17] ++ tl 24 g, h, []) ⟨[], [], []⟩) 19 23 none [v0, v1, v2, v3, v4, v5, v6, v7, v8, v9, v10, v11, v12, v13, v14, v15, v16, v17, .int .u64 0] h [] := ⟨by kernel_rfl, by kernel_rfl, by kernel_rfl⟩
section
variable (v0 v1 v5 v8 v10 v11 v12 v13 v14 v15 v16 v17 : Value) (t x q y : W4) (n k : Int) (g : Nat → Value)
/-- the term that comes -/
def srT (t q : W4) (n k : Int) : W4 := W4.of (fmI t q / (IntKind.u64.wrap (n + IntKind.u64.wrap (2 * k)) * (IntKind.u64.wrap (n + IntKind.u64.wrap (2 * k)) + 1)))
def srO (t q : W4) (n k : Int) : Bool × Bool := okPt t q (IntKind.u64.wrap (n + IntKind.u64.wrap (2 * k)))
theorem sr_out : GoesT (evC (tabOf Tryd.prog extY conFS true) 100 false (srL Tryd.f40) (srF v0 v1 n v5 v8 v10 v11 v12 v13 v14 v15 v16 v17 k ++ tl 23 g, srH t x q y, [cmp false]) ⟨[], [], []⟩) 19 23 (some (some 0)) (srF v0 v1 n v5 v8 v10 v11 v12 v13 v14 v15 v16 v17 k) (srH t x q y) [(decide (k < 28), false)] := ⟨by kernel_rfl, by kernel_rfl, by kernel_rfl⟩
theorem sr_brk : GoesT (evC (tabOf Tryd.prog extY conFS true) 100 false (srL Tryd.f40) (srF v0 v1 n v5 v8 v10 v11 v12 v13 v14 v15 v16 v17 k ++ tl 23 g, srH t x q y, [cmp true, sam true]) ⟨[], [], []⟩) 19 23 (some (some 0)) (srF v0 v1 n v5 v8 (.int .u64 k) v11 v12 v13 v14 v15 v16 v17 k) (srH (srT t q n k) x q y) [(eqW (srT t q n k) ⟨0, 0, 0, 0⟩, true), srO t q n k, (decide (k < 28), true)] := ⟨by kernel_rfl, by kernel_rfl, by kernel_rfl⟩
theorem sr_less : GoesT (evC (tabOf Tryd.prog extY conFS true) 100 false (srL Tryd.f40) (srF v0 v1 n v5 v8 v10 v11 v12 v13 v14 v15 v16 v17 k ++ tl 23 g, srH t x q y, [cmp true, sam false, cmp false, cmp true]) ⟨[], [], []⟩) 19 23 none (srF v0 v1 n v5 v8 (.int .u64 k) v11 v12 v13 v14 v15 v16 v17 (IntKind.u64.wrap (k + 1))) (srH (srT t q n k) x q (W4.of (y.val - (srT t q n k).val))) [q2 y (srT t q n k), (k.tmod 2 == 0, true), (decide ((2 : Int) = 0), false), (eqW (srT t q n k) ⟨0, 0, 0, 0⟩, false), srO t q n k, (decide (k < 28), true)] := ⟨by kernel_rfl, by kernel_rfl, by kernel_rfl⟩
theorem sr_plus : GoesT (evC (tabOf Tryd.prog extY conFS true) 100 false (srL Tryd.f40) (srF v0 v1 n v5 v8 v10 v11 v12 v13 v14 v15 v16 v17 k ++ tl 23 g, srH t x q y, [cmp true, sam false, cmp false, cmp false]) ⟨[], [], []⟩) 19 23 none (srF v0 v1 n v5 v8 (.int .u64 k) v11 v12 v13 v14 v15 v16 v17 (IntKind.u64.wrap (k + 1))) (srH (srT t q n k) x q (W4.of (y.val + (srT t q n k).val))) [q2 y (srT t q n k), (k.tmod 2 == 0, false), (decide ((2 : Int) = 0), false), (eqW (srT t q n k) ⟨0, 0, 0, 0⟩, false), srO t q n k, (decide (k < 28), true)] := ⟨by kernel_rfl, by kernel_rfl, by kernel_rfl⟩
theorem sr_end : GoesT (evC (tabOf Tryd.prog extY conFS true) 100 false (srE Tryd.f40) (srF v0 v1 n v5 v8 v10 v11 v12 v13 v14 v15 v16 v17 k ++ tl 23 g, srH t x q y, []) ⟨[], [], []⟩) 19 23 (some none) (srF v0 v1 n v5 v8 v10 v11 v12 v13 v14 v15 v16 v17 k) ⟨5, [kFx y, kFx q, kFx y, kFx x, kFx t]⟩ [] := ⟨by kernel_rfl, by kernel_rfl, by kernel_rfl⟩
end
theorem uP_is : Go.Fx.uP = 452312848583266388373324160190187140051835877600158453279131187530910662656 := by rfl
theorem of_sub (A b : Int) : W4.of ((W4.of A).val - b) = W4.of (A - b) := by
  rw [W4.val_of, ← of_mod (_ - b), ← of_mod (A - b)]
  congr 1
  omega
theorem of_add (A b : Int) : W4.of ((W4.of A).val + b) = W4.of (A + b) := by
  rw [W4.val_of, ← of_mod (_ + b), ← of_mod (A + b)]
  congr 1
  omega
theorem ofN_val {n : Nat} (h : n ≤ Go.Fx.uP) : (ofN n).val = (n : Int) := by
  rw [uP_is] at h
  unfold ofN
  rw [W4.val_of]
  omega
theorem fmI_of {a b : Nat} (ha : a ≤ Go.Fx.uP) (hb : b ≤ Go.Fx.uP) : fmI (ofN a) (ofN b) = ((a * b / Go.Fx.uP : Nat) : Int) := by
  unfold fmI
  rw [ofN_val ha, ofN_val hb, uP_is]
  omega
theorem ofN_none {n : Nat} (h : n ≤ Go.Fx.uP) : eqW (ofN n) ⟨0, 0, 0, 0⟩ = decide (n = 0) := by
  rw [Bool.eq_iff_iff, eqW_iff, decide_eq_true_eq]
  constructor
  · intro e
    have := congrArg W4.val e
    rw [ofN_val h] at this
    have z : (⟨0, 0, 0, 0⟩ : W4).val = 0 := rfl
    omega
  · rintro rfl
    exact ofN_zero
section
variable (f x n : Nat)
/-- the square; the terms; the sums -/
def sqF : Nat := x * x / Go.Fx.uP
def tF (k : Nat) : Nat := Go.Fx.tm Go.Fx.uP (sqF x) f n k
def yF (k : Nat) : Int := Go.Fx.sr Go.Fx.uP (sqF x) f n k
end
section
variable {f x n : Nat} (hf : f ≤ Go.Fx.uP) (hx : x ≤ Go.Fx.uP) (hn : 1 ≤ n ∧ n ≤ 100)
include hx in
theorem sqF_le : sqF x ≤ Go.Fx.uP := Go.Fx.sq_le Go.Fx.uP_pos hx
include hf hx in
theorem tF_le (k : Nat) : tF f x n k ≤ Go.Fx.uP := Nat.le_trans (Go.Fx.tm_le Go.Fx.uP_pos (sqF_le hx) k) hf
include hf hx hn in
theorem srT_is {k : Nat} (hk : k < 28) : srT (ofN (tF f x n k)) (ofN (sqF x)) (n : Int) (k : Int) = ofN (tF f x n (k + 1)) ∧ (srO (ofN (tF f x n k)) (ofN (sqF x)) (n : Int) (k : Int)).1 = (srO (ofN (tF f x n k)) (ofN (sqF x)) (n : Int) (k : Int)).2 := by
  have ew : IntKind.u64.wrap ((n : Int) + IntKind.u64.wrap (2 * (k : Int))) = ((n + 2 * k : Nat) : Int) := by
    rw [wrap_u64' (n := 2 * (k : Int)) (by omega) (by omega), wrap_u64' (by omega) (by omega)]
    omega
  have hfm := fmI_of (tF_le hf hx k) (sqF_le hx) (a := tF f x n k)
  have hle : tF f x n k * sqF x / Go.Fx.uP ≤ Go.Fx.uP := by
    have := Nat.mul_le_mul (tF_le hf hx k (n := n)) (sqF_le hx)
    exact Nat.le_trans (Nat.div_le_div_right this) (by rw [Nat.mul_div_cancel _ Go.Fx.uP_pos]; exact Nat.le_refl _)
  constructor
  · unfold srT ofN
    rw [ew]
    unfold ofN at hfm
    rw [hfm]
    congr 1
  · unfold srO okPt
    rw [ew]
    have n1 : (1 : Int) ≤ ((n + 2 * k : Nat) : Int) := by omega
    have n2 : ((n + 2 * k : Nat) : Int) ≤ 1000 := by omega
    have hl : fmI (ofN (tF f x n k)) (ofN (sqF x)) < 115792089237316195423570985008687907853269984665640564039457584007913129639936 := by
      rw [hfm]
      clear hfm
      generalize tF f x n k * sqF x / Go.Fx.uP = p at *
      rw [uP_is] at hle
      omega
    dsimp only
    exact decide_eq_true ⟨ofN_ok _, ofN_ok _, hl, n1, n2⟩
/-- what holds at the loop's head -/
def sI (f x n : Nat) (v0 v1 v5 v8 v11 v12 v13 v14 v15 v16 v17 : Value) (k : Nat) (y : Lf) : Prop := ∃ v10 g, y.1 = srF v0 v1 (n : Int) v5 v8 v10 v11 v12 v13 v14 v15 v16 v17 (k : Int) ++ tl 23 g ∧ y.2.1 = srH (ofN (tF f x n k)) (ofN x) (ofN (sqF x)) (W4.of (yF f x n (k + 1)))
def sFinX (f x n : Nat) (v0 v1 v5 v8 v11 v12 v13 v14 v15 v16 v17 : Value) (y : Lf) : Prop := ∃ v10 t k g, y.1 = srF v0 v1 (n : Int) v5 v8 v10 v11 v12 v13 v14 v15 v16 v17 k ++ tl 23 g ∧ y.2.1 = srH t (ofN x) (ofN (sqF x)) (W4.of (yF f x n 29))
include hf hx hn in
theorem sr_round (v0 v1 v5 v8 v11 v12 v13 v14 v15 v16 v17 : Value) {k : Nat} (hk : k ≤ 28) {y : Lf} (h : sI f x n v0 v1 v5 v8 v11 v12 v13 v14 v15 v16 v17 k y) :
    Runs (tabOf Tryd.prog extY conFS true) (srL Tryd.f40) y fun e z => match e with | none => k < 28 ∧ sI f x n v0 v1 v5 v8 v11 v12 v13 v14 v15 v16 v17 (k + 1) z | some none => False | some (some id') => id' = 0 ∧ sFinX f x n v0 v1 v5 v8 v11 v12 v13 v14 v15 v16 v17 z := by
  obtain ⟨t, h', s⟩ := y
  obtain ⟨v10, g, ht, hh⟩ := h
  simp only at ht hh
  subst ht hh
  have T := tabY_ok conFS_ok
  by_cases c : k < 28
  · have hlt : decide ((k : Int) < 28) = true := decide_eq_true (by omega)
    obtain ⟨e1, o1⟩ := srT_is hf hx hn c
    have e2 := ofN_none (tF_le hf hx (n := n) (k + 1))
    have ek : IntKind.u64.wrap ((k : Int) + 1) = ((k + 1 : Nat) : Int) := by rw [wrap_u64' (by omega) (by omega)]; omega
    have oQ : (q2 (W4.of (yF f x n (k + 1))) (ofN (tF f x n (k + 1)))).1 = (q2 (W4.of (yF f x n (k + 1))) (ofN (tF f x n (k + 1)))).2 := decide_eq_true ⟨W4.ok_of _, ofN_ok _⟩
    have hv := ofN_val (tF_le hf hx (n := n) (k + 1))
    by_cases z : tF f x n (k + 1) = 0
    · have hg := sr_brk v0 v1 v5 v8 v10 v11 v12 v13 v14 v15 v16 v17 (ofN (tF f x n k)) (ofN x) (ofN (sqF x)) (W4.of (yF f x n (k + 1))) n k g
      rw [e1] at hg
      refine (goesT_runs (s0 := s) T hg (okPC (by rw [e2]; exact decide_eq_true z) (okPC o1 (okP1 hlt)))).mono fun e w hw => ?_
      obtain ⟨rfl, ⟨g', z1⟩, z2⟩ := hw
      refine ⟨rfl, _, ofN (tF f x n (k + 1)), _, g', z1, ?_⟩
      have : yF f x n 29 = yF f x n (k + 1) := by
        have := Go.Fx.sr_stop z (28 - k)
        rw [show k + 1 + (28 - k) = 29 by omega] at this
        exact this
      rw [z2, this]
    · have e2' : eqW (ofN (tF f x n (k + 1))) ⟨0, 0, 0, 0⟩ = false := by rw [e2]; exact decide_eq_false z
      rcases Nat.mod_two_eq_zero_or_one k with m | m
      · have hg := sr_less v0 v1 v5 v8 v10 v11 v12 v13 v14 v15 v16 v17 (ofN (tF f x n k)) (ofN x) (ofN (sqF x)) (W4.of (yF f x n (k + 1))) n k g
        rw [e1, ek, hv, of_sub] at hg
        have hm : ((k : Int).tmod 2 == 0) = true := by rw [beq_iff_eq, Int.tmod_eq_emod_of_nonneg (by omega)]; omega
        refine (goesT_runs (s0 := s) T hg (okPC oQ (okPC hm (okPC (by decide) (okPC e2' (okPC o1 (okP1 hlt))))))).mono fun e w hw => ?_
        obtain ⟨rfl, ⟨g', z1⟩, z2⟩ := hw
        refine ⟨c, _, g', z1, ?_⟩
        have : yF f x n (k + 1 + 1) = yF f x n (k + 1) - ((tF f x n (k + 1) : Nat) : Int) := by
          show (if (k + 1) % 2 = 0 then _ else _) = _
          rw [if_neg (by omega)]
          rfl
        rw [z2, this]
      · have hg := sr_plus v0 v1 v5 v8 v10 v11 v12 v13 v14 v15 v16 v17 (ofN (tF f x n k)) (ofN x) (ofN (sqF x)) (W4.of (yF f x n (k + 1))) n k g
        rw [e1, ek, hv, of_add] at hg
        have hm : ((k : Int).tmod 2 == 0) = false := by rw [beq_eq_false_iff_ne, Int.tmod_eq_emod_of_nonneg (by omega)]; omega
        refine (goesT_runs (s0 := s) T hg (okPC oQ (okPC hm (okPC (by decide) (okPC e2' (okPC o1 (okP1 hlt))))))).mono fun e w hw => ?_
        obtain ⟨rfl, ⟨g', z1⟩, z2⟩ := hw
        refine ⟨c, _, g', z1, ?_⟩
        have : yF f x n (k + 1 + 1) = yF f x n (k + 1) + ((tF f x n (k + 1) : Nat) : Int) := by
          show (if (k + 1) % 2 = 0 then _ else _) = _
          rw [if_pos (by omega)]
          rfl
        rw [z2, this]
  · have e : k = 28 := by omega
    subst e
    refine (goesT_runs (s0 := s) T (sr_out v0 v1 v5 v8 v10 v11 v12 v13 v14 v15 v16 v17 (ofN (tF f x n 28)) (ofN x) (ofN (sqF x)) (W4.of (yF f x n (28 + 1))) n ((28 : Nat) : Int) g) (okL1 (by decide))).mono fun e w hw => ?_
    obtain ⟨rfl, ⟨g', z1⟩, z2⟩ := hw
    exact ⟨rfl, _, _, _, g', z1, z2⟩
include hf hx hn in
theorem series_calls (w : World) : Calls Tryd.prog 40 #[vW (ofN f), vW (ofN x), .int .u64 (n : Int)] w fun e w' => e = .returned (vW (W4.of (yF f x n 29))) ∧ Tidy w w' := by
  have T := tabY_ok conFS_ok
  refine calls_of_runs (T := tabOf Tryd.prog extY conFS true) Tryd.func40 sr_body (vals := [vW (ofN f), vW (ofN x), .int .u64 (n : Int)]) (by rfl) (by rfl) ?_ w
  refine goesT_list T (sr_pre (ofN f) (ofN x) n) (okL1 (decide_eq_true ⟨ofN_ok _, ofN_ok _⟩)) fun g => ?_
  have es : W4.of (fmI (ofN x) (ofN x)) = ofN (sqF x) := by rw [fmI_of hx hx]; rfl
  rw [es]
  refine Runs.seq (P1 := fun e y => e = none ∧ ∃ v0 v1 v5 v8 v11 v12 v13 v14 v15 v16 v17, sFinX f x n v0 v1 v5 v8 v11 v12 v13 v14 v15 v16 v17 y) ?_ ?_ (fun e y he => by cases he.1)
  · refine Runs.seq (goesT_runs T (sr_i _ _ _ _ _ _ _ _ _ _ _ _ _ _ _ _ _ _ g _) okNil) ?_ (fun e y he => by cases he.1)
    rintro ⟨t, h', s⟩ ⟨_, ⟨g', ht⟩, hh⟩
    simp only at ht hh
    subst ht hh
    refine (Runs.forLoop (T := tabOf Tryd.prog extY conFS true) (c := srL Tryd.f40) (id := 0) (R := fun _ => False) (P := fun y => ∃ v0 v1 v5 v8 v11 v12 v13 v14 v15 v16 v17, sFinX f x n v0 v1 v5 v8 v11 v12 v13 v14 v15 v16 v17 y) (fun j y => ∃ k, j = 28 - k ∧ k ≤ 28 ∧ sI f x n _ _ _ _ _ _ _ _ _ _ _ k y) ?_ (n := 28) ⟨0, by omega, by omega, _, g', rfl, ?_⟩).mono fun e z hz => ?_
    · rintro j y ⟨k, hj, hk, hI⟩
      refine (sr_round hf hx hn _ _ _ _ _ _ _ _ _ _ _ hk hI).mono fun e z hz => ?_
      match e, hz with
      | none, hz => exact ⟨28 - (k + 1), by omega, k + 1, rfl, by omega, hz.2⟩
      | some none, hz => exact hz.elim
      | some (some _), hz => exact ⟨hz.1, _, _, _, _, _, _, _, _, _, _, _, hz.2⟩
    · have : yF f x n (0 + 1) = (f : Int) := by
        show (0 : Int) + ((f : Nat) : Int) = _
        omega
      rw [this]
      rfl
    · match e, hz with
      | none, hz => exact ⟨rfl, hz⟩
      | some none, hz => exact hz.elim
      | some (some _), hz => exact hz.elim
  · rintro ⟨t, h', s⟩ ⟨_, v0, v1, v5, v8, v11, v12, v13, v14, v15, v16, v17, v10, tt, k, g', ht, hh⟩
    simp only at ht hh
    subst ht hh
    refine (goesT_runs T (sr_end v0 v1 v5 v8 v10 v11 v12 v13 v14 v15 v16 v17 tt (ofN x) (ofN (sqF x)) (W4.of (yF f x n 29)) n k g') okNil).mono fun e z hz => ?_
    obtain ⟨rfl, ⟨g2, z1⟩, z2⟩ := hz
    refine ⟨.inr rfl, ?_⟩
    rw [z1, z2]
    rfl
end
def okSer (a b : W4) (n : Int) : Bool × Bool := (decide (a.ok ∧ b.ok ∧ a.nat ≤ Go.Fx.uP ∧ b.nat ≤ Go.Fx.uP ∧ 1 ≤ n ∧ n ≤ 100), true)
def serW (a b : W4) (n : Int) : W4 := W4.of (yF a.nat b.nat n.toNat 29)
def gSer : Ans := fun vals s =>
  match vals with
  | [x, y, .int .u64 n] =>
    match w4 x, w4 y with
    | some a, some b => some (vW (serW a b n), s, [okSer a b n])
    | _, _ => none
  | _ => none
theorem gSer_ok : AnsOk 40 gSer := by
  intro vals s v s' lg h hl w
  unfold gSer at h
  split at h
  · rename_i x y n
    split at h
    · rename_i a b ha hb
      cases h
      have h1 := hl _ (List.mem_singleton.2 rfl)
      simp only [okSer, decide_eq_true_eq] at h1
      obtain ⟨k1, k2, k3, k4, k5, k6⟩ := h1
      rw [w4_spec ha, w4_spec hb]
      have := series_calls (n := Int.toNat n) k3 k4 ⟨by omega, by omega⟩ w
      rw [ofN_self k1, ofN_self k2, Int.toNat_of_nonneg (by omega)] at this
      exact this
    · cases h
  · cases h
def conFO : Con := alt 29 (g1n (plain1n shlV4)) conN
theorem conFO_ok : ConOk conFO := alt_ok Tryd.func29 rfl (plain1n_ok shl_calls) conN_ok
/-- 1 -/
def oneW : W4 := ⟨0, 0, 0, 72057594037927936⟩
def g0 (k : Value) : Ans := fun vals s => match vals with | [] => some (k, s, []) | _ => none
theorem g0_ok {f : Nat} {k : Value} (hk : ∀ w, Calls Tryd.prog f #[] w fun e w' => e = .returned k ∧ Tidy w w') : AnsOk f (g0 k) := by
  intro vals s v s' lg h hl w
  unfold g0 at h
  split at h
  · cases h
    exact hk w
  · cases h
theorem one_fits : Fits (reckon (tabOf Tryd.prog extY conFO true) 300 38 [] []) (vW (shlW ⟨1, 0, 0, 0⟩ 248)) [qk ⟨1, 0, 0, 0⟩ 248] := ⟨by kernel_rfl, by kernel_rfl, by kernel_rfl, by kernel_rfl⟩
theorem one_calls (w : World) : Calls Tryd.prog 38 #[] w fun e w' => e = .returned (vW oneW) ∧ Tidy w w' := by
  have e : shlW ⟨1, 0, 0, 0⟩ 248 = oneW := eqW_iff.1 (by decide +kernel)
  have := fits_calls (tabY_ok conFO_ok) one_fits (okL1 (by decide)) (by rfl) (by rfl) w
  rw [e] at this
  exact this
def conFT : Con := alt 38 (g0 (vW oneW)) (alt 17 (g2 (plain2 cmpV4)) (alt 40 gSer (alt 39 (g1 bdV4) conN)))
theorem conFT_ok : ConOk conFT := alt_ok Tryd.func38 rfl (g0_ok one_calls) (alt_ok Tryd.func17 rfl (plain2_ok cmp_calls) (alt_ok Tryd.func40 rfl gSer_ok (alt_ok Tryd.func39 rfl (g1_ok bd_calls) conN_ok)))
def cg1 (x : W4) (d : Bool) : Bool × Bool := (decide (cmpI x oneW > 0), d)
def oW (x : W4) : Bool × Bool := (decide x.ok, true)
theorem sin_big (x : W4) : Fits (reckon (tabOf Tryd.prog extY conFT true) 300 15 [vW x] [cmp true]) (.tuple #[vW ⟨0, 0, 0, 0⟩, vW ⟨0, 0, 0, 0⟩, .iface 57 (.int .i64 1)]) [cg1 x true, q2 x oneW] := ⟨by kernel_rfl, by kernel_rfl, by kernel_rfl, by kernel_rfl⟩
theorem sin_in (x : W4) : Fits (reckon (tabOf Tryd.prog extY conFT true) 300 15 [vW x] [cmp false]) (.tuple #[vW (ofN (Go.Fx.lo32 (serW x x 2).val)), vW (ofN (Go.Fx.hi32 (serW x x 2).val)), .nilIface]) [oW (serW x x 2), okSer x x 2, cg1 x false, q2 x oneW] := ⟨by kernel_rfl, by kernel_rfl, by kernel_rfl, by kernel_rfl⟩
theorem cos_big (x : W4) : Fits (reckon (tabOf Tryd.prog extY conFT true) 300 16 [vW x] [cmp true]) (.tuple #[vW ⟨0, 0, 0, 0⟩, vW ⟨0, 0, 0, 0⟩, .iface 57 (.int .i64 1)]) [cg1 x true, q2 x oneW] := ⟨by kernel_rfl, by kernel_rfl, by kernel_rfl, by kernel_rfl⟩
theorem cos_in (x : W4) : Fits (reckon (tabOf Tryd.prog extY conFT true) 300 16 [vW x] [cmp false]) (.tuple #[vW (ofN (Go.Fx.lo32 (serW oneW x 1).val)), vW (ofN (Go.Fx.hi32 (serW oneW x 1).val)), .nilIface]) [oW (serW oneW x 1), okSer oneW x 1, oW (serW oneW x 1), okSer oneW x 1, oW (serW oneW x 1), oW (serW oneW x 1), okSer oneW x 1, oW (serW oneW x 1), okSer oneW x 1, oW (serW oneW x 1), okSer oneW x 1, oW (serW oneW x 1), oW (serW oneW x 1), okSer oneW x 1, oW (serW oneW x 1), okSer oneW x 1, oW (serW oneW x 1), oW (serW oneW x 1), okSer oneW x 1, oW (serW oneW x 1), okSer oneW x 1, oW (serW oneW x 1), oW (serW oneW x 1), okSer oneW x 1, oW (serW oneW x 1), oW (serW oneW x 1), oW (serW oneW x 1), oW (serW oneW x 1), oW (serW oneW x 1), okSer oneW x 1, cg1 x false, q2 x oneW] := ⟨by kernel_rfl, by kernel_rfl, by kernel_rfl, by kernel_rfl⟩
theorem oneW_ok : oneW.ok := by decide
theorem oneW_nat : oneW.nat = Go.Fx.uP := by rfl
theorem cg1_iff {x : W4} (hx : x.ok) : cmpI x oneW > 0 ↔ Go.Fx.uP < x.nat := by
  have h := W4.nat_val hx
  have e : oneW.val = 452312848583266388373324160190187140051835877600158453279131187530910662656 := by rfl
  rw [uP_is]
  unfold cmpI
  rw [e, h]
  split
  · omega
  · split <;> omega
theorem serW_val {a b n : Nat} (ha : a ≤ Go.Fx.uP) (hb : b ≤ Go.Fx.uP) : (W4.of (yF a b n 29)).val = yF a b n 29 := by
  have h : 0 ≤ yF a b n 29 ∧ yF a b n 29 ≤ (a : Int) := Go.Fx.sr_bd Go.Fx.uP_pos (Go.Fx.sq_le Go.Fx.uP_pos hb) 29
  rw [uP_is] at ha
  rw [W4.val_of, Int.emod_eq_of_lt h.1 (by omega)]
/-- the bounds -/
def slN (x : W4) : Nat := Go.Fx.lo32 (Go.Fx.sS Go.Fx.uP 29 x.nat)
def shN (x : W4) : Nat := Go.Fx.hi32 (Go.Fx.sS Go.Fx.uP 29 x.nat)
def clN (x : W4) : Nat := Go.Fx.lo32 (Go.Fx.cS Go.Fx.uP 29 x.nat)
def chN (x : W4) : Nat := Go.Fx.hi32 (Go.Fx.cS Go.Fx.uP 29 x.nat)
def tooV : Value := .tuple #[vW ⟨0, 0, 0, 0⟩, vW ⟨0, 0, 0, 0⟩, .iface 57 (.int .i64 1)]
def sinV (x : W4) : Value := .tuple #[vW (ofN (slN x)), vW (ofN (shN x)), .nilIface]
def cosV (x : W4) : Value := .tuple #[vW (ofN (clN x)), vW (ofN (chN x)), .nilIface]
/-- of an angle: above 1 an error; told ahead -/
def gAng (k : W4 → Value) : Ans := fun vals s =>
  match vals, s with
  | [x], .inr (.inr (.inr (.inl d))) :: s' =>
    match w4 x, d with
    | some a, true => some (tooV, s', [(decide (Go.Fx.uP < a.nat), true), (decide a.ok, true)])
    | some a, false => some (k a, s', [(decide (Go.Fx.uP < a.nat), false), (decide a.ok, true)])
    | _, _ => none
  | _, _ => none
theorem gAng_ok {f : Nat} {k : W4 → Value} (hk : ∀ x : W4, x.ok → ∀ w, Calls Tryd.prog f #[vW x] w fun e w' => e = .returned (if Go.Fx.uP < x.nat then tooV else k x) ∧ Tidy w w') : AnsOk f (gAng k) := by
  intro vals s v s' lg h hl w
  unfold gAng at h
  split at h
  · rename_i x d s2
    split at h
    · rename_i a ha
      cases h
      have h1 := of_decide_eq_true (hl _ List.mem_cons_self)
      have h2 := of_decide_eq_true (hl _ (List.mem_cons_of_mem _ (List.mem_singleton.2 rfl)))
      have := hk a h2 w
      rw [if_pos h1] at this
      rw [w4_spec ha]
      exact this
    · rename_i a ha
      cases h
      have h1 := of_decide_eq_false (hl _ List.mem_cons_self)
      have h2 := of_decide_eq_true (hl _ (List.mem_cons_of_mem _ (List.mem_singleton.2 rfl)))
      have := hk a h2 w
      rw [if_neg h1] at this
      rw [w4_spec ha]
      exact this
    · cases h
  · cases h
theorem sin_calls (x : W4) (hx : x.ok) (w : World) : Calls Tryd.prog 15 #[vW x] w fun e w' => e = .returned (if Go.Fx.uP < x.nat then tooV else sinV x) ∧ Tidy w w' := by
  have T := tabY_ok conFT_ok
  have h2 : (q2 x oneW).1 = (q2 x oneW).2 := decide_eq_true ⟨hx, oneW_ok⟩
  by_cases c : Go.Fx.uP < x.nat
  · rw [if_pos c]
    have h1 : (cg1 x true).1 = (cg1 x true).2 := decide_eq_true ((cg1_iff hx).2 c)
    exact fits_calls T (sin_big x) (okPC h1 (okPC h2 okNil)) (by rfl) (by rfl) w
  · rw [if_neg c]
    have h1 : (cg1 x false).1 = (cg1 x false).2 := decide_eq_false fun h => c ((cg1_iff hx).1 h)
    have hl : x.nat ≤ Go.Fx.uP := by omega
    have h3 : (okSer x x 2).1 = (okSer x x 2).2 := decide_eq_true ⟨hx, hx, hl, hl, by decide, by decide⟩
    have h4 : (oW (serW x x 2)).1 = (oW (serW x x 2)).2 := decide_eq_true (W4.ok_of _)
    have e : (serW x x 2).val = Go.Fx.sS Go.Fx.uP 29 x.nat := serW_val hl hl
    have := fits_calls T (sin_in x) (okPC h4 (okPC h3 (okPC h1 (okPC h2 okNil)))) (by rfl) (by rfl) w
    rw [e] at this
    exact this
theorem cos_calls (x : W4) (hx : x.ok) (w : World) : Calls Tryd.prog 16 #[vW x] w fun e w' => e = .returned (if Go.Fx.uP < x.nat then tooV else cosV x) ∧ Tidy w w' := by
  have T := tabY_ok conFT_ok
  have h2 : (q2 x oneW).1 = (q2 x oneW).2 := decide_eq_true ⟨hx, oneW_ok⟩
  by_cases c : Go.Fx.uP < x.nat
  · rw [if_pos c]
    have h1 : (cg1 x true).1 = (cg1 x true).2 := decide_eq_true ((cg1_iff hx).2 c)
    exact fits_calls T (cos_big x) (okPC h1 (okPC h2 okNil)) (by rfl) (by rfl) w
  · rw [if_neg c]
    have h1 : (cg1 x false).1 = (cg1 x false).2 := decide_eq_false fun h => c ((cg1_iff hx).1 h)
    have hl : x.nat ≤ Go.Fx.uP := by omega
    have h3 : (okSer oneW x 1).1 = (okSer oneW x 1).2 := decide_eq_true ⟨oneW_ok, hx, Nat.le_of_eq oneW_nat, hl, by decide, by decide⟩
    have h4 : (oW (serW oneW x 1)).1 = (oW (serW oneW x 1)).2 := decide_eq_true (W4.ok_of _)
    have e : (serW oneW x 1).val = Go.Fx.cS Go.Fx.uP 29 x.nat := serW_val (Nat.le_of_eq oneW_nat) hl
    have := fits_calls T (cos_in x) (okPC h4 (okPC h3 (okPC h4 (okPC h3 (okPC h4 (okPC h4 (okPC h3 (okPC h4 (okPC h3 (okPC h4 (okPC h3 (okPC h4 (okPC h4 (okPC h3 (okPC h4 (okPC h3 (okPC h4 (okPC h4 (okPC h3 (okPC h4 (okPC h3 (okPC h4 (okPC h4 (okPC h3 (okPC h4 (okPC h4 (okPC h4 (okPC h4 (okPC h4 (okPC h3 (okPC h1 (okPC h2 okNil)))))))))))))))))))))))))))))))) (by rfl) (by rfl) w
    rw [e] at this
    exact this
def errF (k : Int) : Value := .iface 57 (.int .i64 k)
theorem qz_fits (a b : W4) : Fits (reckon (tabOf Tryd.prog extY conN true) 300 28 [vW a, vW b] [sam true]) (.tuple #[vW ⟨0, 0, 0, 0⟩, vW ⟨0, 0, 0, 0⟩, errF 5]) [(eqW b ⟨0, 0, 0, 0⟩, true)] := ⟨by kernel_rfl, by kernel_rfl, by kernel_rfl, by kernel_rfl⟩
/-- the quotient and the rest, or the error; told ahead whether it is by nothing -/
def gQZ : Ans := fun vals s =>
  match vals, s with
  | [x, y], .inr (.inr (.inr (.inl d))) :: s' =>
    match w4 x, w4 y, d with
    | some a, some b, true => some (.tuple #[vW ⟨0, 0, 0, 0⟩, vW ⟨0, 0, 0, 0⟩, errF 5], s', [(decide (b.val = 0), true), q2 a b])
    | some a, some b, false => some (qrV (W4.of (a.val / b.val)) (W4.of (a.val % b.val)), s', [(decide (b.val = 0), false), q2 a b])
    | _, _, _ => none
  | _, _ => none
theorem gQZ_ok : AnsOk 28 gQZ := by
  intro vals s v s' lg h hl w
  unfold gQZ at h
  split at h
  · split at h
    · rename_i a b ha hb
      cases h
      have h1 := of_decide_eq_true (hl _ List.mem_cons_self)
      have h2 := hl _ (List.mem_cons_of_mem _ (List.mem_singleton.2 rfl))
      simp only [q2, decide_eq_true_eq] at h2
      rw [w4_spec ha, w4_spec hb]
      have e : b = ⟨0, 0, 0, 0⟩ := W4.val_inj h2.2 ⟨z64, z64, z64, z64⟩ (h1.trans (by rfl))
      exact fits_calls (tabY_ok conN_ok) (qz_fits a b) (okP1 (eqW_iff.2 e)) (by rfl) (by rfl) w
    · rename_i a b ha hb
      cases h
      have h1 := of_decide_eq_false (hl _ List.mem_cons_self)
      have h2 := hl _ (List.mem_cons_of_mem _ (List.mem_singleton.2 rfl))
      simp only [q2, decide_eq_true_eq] at h2
      rw [w4_spec ha, w4_spec hb]
      exact divmod_calls a b h2.1 h2.2 h1 w
    · cases h
  · cases h
def conFQ : Con := alt 28 gQZ conFA
theorem conFQ_ok : ConOk conFQ := alt_ok Tryd.func28 rfl gQZ_ok conFA_ok
def nW1 (n : Int) : W4 := ⟨n, 0, 0, 0⟩
def foA (n : Int) : W4 := shlW (nW1 n) 192
def foQ (n d : Int) : W4 := W4.of ((foA n).val / (nW1 d).val)
def foR (n d : Int) : W4 := W4.of ((foA n).val % (nW1 d).val)
def foL (n d : Int) : W4 := W4.of ((shlW (foR n d) 56).val / (nW1 d).val)
def foW (n d : Int) : W4 := W4.of ((shlW (foQ n d) 56).val + (foL n d).val)
def zW : W4 := ⟨0, 0, 0, 0⟩
def lq1 (n d : Int) (b : Bool) : Bool × Bool := (decide (lenI (foQ n d) > 200), b)
theorem fo_zero (n d : Int) : Fits (reckon (tabOf Tryd.prog extY conFQ true) 300 6 [.int .u64 n, .int .u64 d] [cmp true]) (.tuple #[vW zW, errF 5]) [(decide ((nW1 d).val = 0), true), q2 (foA n) (nW1 d), qk (nW1 n) 192] := ⟨by kernel_rfl, by kernel_rfl, by kernel_rfl, by kernel_rfl⟩
theorem fo_long (n d : Int) : Fits (reckon (tabOf Tryd.prog extY conFQ true) 300 6 [.int .u64 n, .int .u64 d] [cmp false, cmp true]) (.tuple #[vW zW, errF 2]) [lq1 n d true, oW (foQ n d), (decide ((nW1 d).val = 0), false), q2 (foA n) (nW1 d), qk (nW1 n) 192] := ⟨by kernel_rfl, by kernel_rfl, by kernel_rfl, by kernel_rfl⟩
theorem fo_in (n d : Int) : Fits (reckon (tabOf Tryd.prog extY conFQ true) 300 6 [.int .u64 n, .int .u64 d] [cmp false, cmp false, cmp false]) (.tuple #[vW (foW n d), .nilIface]) [q2 (shlW (foQ n d) 56) (foL n d), qk (foQ n d) 56, (decide ((nW1 d).val = 0), false), q2 (shlW (foR n d) 56) (nW1 d), qk (foR n d) 56, lq1 n d false, oW (foQ n d), (decide ((nW1 d).val = 0), false), q2 (foA n) (nW1 d), qk (nW1 n) 192] := ⟨by kernel_rfl, by kernel_rfl, by kernel_rfl, by kernel_rfl⟩
/-- the quotient -/
def foI (n d : Int) : Int := n * 452312848583266388373324160190187140051835877600158453279131187530910662656 / d
abbrev uu (n d : Int) : Prop := (0 ≤ n ∧ n < 18446744073709551616) ∧ 0 ≤ d ∧ d < 18446744073709551616
theorem nW1_val (n : Int) : (nW1 n).val = n := by unfold nW1 W4.val; dsimp only; omega
theorem shl_ok1 (x : W4) (k : Int) (h : x.ok) : (shlW x k).ok := by
  unfold shlW
  split
  · exact h
  · split
    · exact ⟨z64, z64, z64, z64⟩
    · exact W4.ok_of _
theorem fo_num {n d : Int} (h : uu n d) (hd : d ≠ 0) : (lenI (foQ n d) > 200 ↔ 115792089237316195423570985008687907853269984665640564039457584007913129639936 ≤ foI n d) ∧ (¬ 115792089237316195423570985008687907853269984665640564039457584007913129639936 ≤ foI n d → foW n d = W4.of (foI n d)) := by
  obtain ⟨⟨n0, n1⟩, d0, d1⟩ := h
  have e192 : (2 : Int) ^ (192 : Int).toNat = 6277101735386680763835789423207666416102355444464034512896 := by rfl
  have e56 : (2 : Int) ^ (56 : Int).toNat = 72057594037927936 := by rfl
  have eA : (foA n).val = n * 6277101735386680763835789423207666416102355444464034512896 := by
    unfold foA shlW
    rw [if_neg (by decide), if_neg (by decide), W4.val_of, e192, nW1_val]
    omega
  have hdiv := Int.mul_ediv_add_emod (n * 6277101735386680763835789423207666416102355444464034512896) d
  have m0 := Int.emod_nonneg (n * 6277101735386680763835789423207666416102355444464034512896) hd
  have m1 := Int.emod_lt_of_pos (n * 6277101735386680763835789423207666416102355444464034512896) (show 0 < d by omega)
  have q0 : 0 ≤ n * 6277101735386680763835789423207666416102355444464034512896 / d := Int.ediv_nonneg (by omega) d0
  have q1 : n * 6277101735386680763835789423207666416102355444464034512896 / d ≤ n * 6277101735386680763835789423207666416102355444464034512896 := Int.ediv_le_self _ (by omega)
  have eQ : (foQ n d).val = n * 6277101735386680763835789423207666416102355444464034512896 / d := by
    unfold foQ
    rw [eA, nW1_val, W4.val_of]
    omega
  have eR : (foR n d).val = n * 6277101735386680763835789423207666416102355444464034512896 % d := by
    unfold foR
    rw [eA, nW1_val, W4.val_of]
    omega
  have eF : foI n d = n * 6277101735386680763835789423207666416102355444464034512896 / d * 72057594037927936 + n * 6277101735386680763835789423207666416102355444464034512896 % d * 72057594037927936 / d := by
    unfold foI
    generalize hq : n * 6277101735386680763835789423207666416102355444464034512896 / d = q at *
    generalize hr : n * 6277101735386680763835789423207666416102355444464034512896 % d = r at *
    have : n * 452312848583266388373324160190187140051835877600158453279131187530910662656 = q * 72057594037927936 * d + r * 72057594037927936 := by
      have e : n * 452312848583266388373324160190187140051835877600158453279131187530910662656 = n * 6277101735386680763835789423207666416102355444464034512896 * 72057594037927936 := by omega
      rw [e, ← hdiv, Int.add_mul, Int.mul_right_comm q, Int.mul_comm d q]
    rw [this, Int.add_comm, Int.add_mul_ediv_right _ _ hd, Int.add_comm]
  have f0 : 0 ≤ n * 6277101735386680763835789423207666416102355444464034512896 % d * 72057594037927936 / d := Int.ediv_nonneg (by omega) d0
  have f1 : n * 6277101735386680763835789423207666416102355444464034512896 % d * 72057594037927936 / d < 72057594037927936 := Int.ediv_lt_of_lt_mul (by omega) (by
    have := Int.mul_lt_mul_of_pos_right m1 (show (0 : Int) < 72057594037927936 by decide)
    rw [Int.mul_comm 72057594037927936]
    exact this)
  constructor
  · have g := lenI_gt (foQ n d) 200
    have p : (2 : Nat) ^ 200 = 1606938044258990275541962092341162602522202993782792835301376 := by rfl
    have e : (foQ n d).nat = (n * 6277101735386680763835789423207666416102355444464034512896 / d).toNat := by unfold W4.nat; rw [eQ]
    rw [p, e] at g
    rw [eF]
    generalize n * 6277101735386680763835789423207666416102355444464034512896 / d = q at *
    generalize n * 6277101735386680763835789423207666416102355444464034512896 % d * 72057594037927936 / d = f at *
    omega
  · intro hl
    have eS : (shlW (foR n d) 56).val = n * 6277101735386680763835789423207666416102355444464034512896 % d * 72057594037927936 := by
      unfold shlW
      rw [if_neg (by decide), if_neg (by decide), W4.val_of, e56, eR]
      omega
    have eL : (foL n d).val = n * 6277101735386680763835789423207666416102355444464034512896 % d * 72057594037927936 / d := by
      unfold foL
      rw [eS, nW1_val, W4.val_of]
      omega
    have eT : (shlW (foQ n d) 56).val = n * 6277101735386680763835789423207666416102355444464034512896 / d * 72057594037927936 := by
      unfold shlW
      rw [if_neg (by decide), if_neg (by decide), W4.val_of, e56, eQ]
      rw [eF] at hl
      generalize n * 6277101735386680763835789423207666416102355444464034512896 / d = q at *
      generalize n * 6277101735386680763835789423207666416102355444464034512896 % d * 72057594037927936 / d = f at *
      omega
    unfold foW
    rw [eT, eL, eF]
theorem nW1_ok {n : Int} (h : 0 ≤ n ∧ n < 18446744073709551616) : (nW1 n).ok := ⟨h, z64, z64, z64⟩
theorem of_zero {n d : Int} (h : uu n d) (hd : d = 0) (w : World) : Calls Tryd.prog 6 #[.int .u64 n, .int .u64 d] w fun e w' => e = .returned (.tuple #[vW zW, errF 5]) ∧ Tidy w w' := by
  have z : decide ((nW1 d).val = 0) = true := decide_eq_true (by rw [nW1_val]; exact hd)
  have a1 : (q2 (foA n) (nW1 d)).1 = (q2 (foA n) (nW1 d)).2 := decide_eq_true ⟨shl_ok1 _ _ (nW1_ok h.1), nW1_ok h.2⟩
  have a2 : (qk (nW1 n) 192).1 = (qk (nW1 n) 192).2 := decide_eq_true ⟨nW1_ok h.1, by decide, by decide⟩
  exact fits_calls (tabY_ok conFQ_ok) (fo_zero n d) (okPC z (okPC a1 (okP1 a2))) (by rfl) (by rfl) w
theorem of_long {n d : Int} (h : uu n d) (hd : d ≠ 0) (hl : 115792089237316195423570985008687907853269984665640564039457584007913129639936 ≤ foI n d) (w : World) : Calls Tryd.prog 6 #[.int .u64 n, .int .u64 d] w fun e w' => e = .returned (.tuple #[vW zW, errF 2]) ∧ Tidy w w' := by
  have z : decide ((nW1 d).val = 0) = false := decide_eq_false (by rw [nW1_val]; exact hd)
  have a1 : (q2 (foA n) (nW1 d)).1 = (q2 (foA n) (nW1 d)).2 := decide_eq_true ⟨shl_ok1 _ _ (nW1_ok h.1), nW1_ok h.2⟩
  have a2 : (qk (nW1 n) 192).1 = (qk (nW1 n) 192).2 := decide_eq_true ⟨nW1_ok h.1, by decide, by decide⟩
  have a3 : (oW (foQ n d)).1 = (oW (foQ n d)).2 := decide_eq_true (W4.ok_of _)
  have a4 : (lq1 n d true).1 = (lq1 n d true).2 := decide_eq_true ((fo_num h hd).1.2 hl)
  exact fits_calls (tabY_ok conFQ_ok) (fo_long n d) (okPC a4 (okPC a3 (okPC z (okPC a1 (okP1 a2))))) (by rfl) (by rfl) w
theorem of_in {n d : Int} (h : uu n d) (hd : d ≠ 0) (hl : ¬ 115792089237316195423570985008687907853269984665640564039457584007913129639936 ≤ foI n d) (w : World) : Calls Tryd.prog 6 #[.int .u64 n, .int .u64 d] w fun e w' => e = .returned (.tuple #[vW (W4.of (foI n d)), .nilIface]) ∧ Tidy w w' := by
  have z : decide ((nW1 d).val = 0) = false := decide_eq_false (by rw [nW1_val]; exact hd)
  have a1 : (q2 (foA n) (nW1 d)).1 = (q2 (foA n) (nW1 d)).2 := decide_eq_true ⟨shl_ok1 _ _ (nW1_ok h.1), nW1_ok h.2⟩
  have a2 : (qk (nW1 n) 192).1 = (qk (nW1 n) 192).2 := decide_eq_true ⟨nW1_ok h.1, by decide, by decide⟩
  have a3 : (oW (foQ n d)).1 = (oW (foQ n d)).2 := decide_eq_true (W4.ok_of _)
  have a4 : (lq1 n d false).1 = (lq1 n d false).2 := decide_eq_false fun hh => hl ((fo_num h hd).1.1 hh)
  have a5 : (qk (foR n d) 56).1 = (qk (foR n d) 56).2 := decide_eq_true ⟨W4.ok_of _, by decide, by decide⟩
  have a6 : (q2 (shlW (foR n d) 56) (nW1 d)).1 = (q2 (shlW (foR n d) 56) (nW1 d)).2 := decide_eq_true ⟨shl_ok1 _ _ (W4.ok_of _), nW1_ok h.2⟩
  have a7 : (qk (foQ n d) 56).1 = (qk (foQ n d) 56).2 := decide_eq_true ⟨W4.ok_of _, by decide, by decide⟩
  have a8 : (q2 (shlW (foQ n d) 56) (foL n d)).1 = (q2 (shlW (foQ n d) 56) (foL n d)).2 := decide_eq_true ⟨shl_ok1 _ _ (W4.ok_of _), W4.ok_of _⟩
  rw [← (fo_num h hd).2 hl]
  exact fits_calls (tabY_ok conFQ_ok) (fo_in n d) (okPC a8 (okPC a7 (okPC z (okPC a6 (okPC a5 (okPC a4 (okPC a3 (okPC z (okPC a1 (okP1 a2)))))))))) (by rfl) (by rfl) w
/-- told ahead: by nothing; too great; the quotient -/
def gFOf : Ans := fun vals s =>
  match vals, s with
  | [.int .u64 n, .int .u64 d], .inr (.inr (.inr (.inl z))) :: s' =>
    match z, s' with
    | true, _ => some (.tuple #[vW zW, errF 5], s', [(decide (d = 0), true), (decide (uu n d), true)])
    | false, .inr (.inr (.inr (.inl true))) :: s2 => some (.tuple #[vW zW, errF 2], s2, [(decide (115792089237316195423570985008687907853269984665640564039457584007913129639936 ≤ foI n d), true), (decide (d = 0), false), (decide (uu n d), true)])
    | false, .inr (.inr (.inr (.inl false))) :: s2 => some (.tuple #[vW (W4.of (foI n d)), .nilIface], s2, [(decide (115792089237316195423570985008687907853269984665640564039457584007913129639936 ≤ foI n d), false), (decide (d = 0), false), (decide (uu n d), true)])
    | _, _ => none
  | _, _ => none
theorem gFOf_ok : AnsOk 6 gFOf := by
  intro vals s v s' lg h hl w
  unfold gFOf at h
  split at h
  · rename_i n d z s1
    split at h
    · cases h
      exact of_zero (of_decide_eq_true (hl _ (List.mem_cons_of_mem _ (List.mem_singleton.2 rfl)))) (of_decide_eq_true (hl _ List.mem_cons_self)) w
    · cases h
      exact of_long (of_decide_eq_true (hl _ (List.mem_cons_of_mem _ (List.mem_cons_of_mem _ (List.mem_singleton.2 rfl))))) (of_decide_eq_false (hl _ (List.mem_cons_of_mem _ List.mem_cons_self))) (of_decide_eq_true (hl _ List.mem_cons_self)) w
    · cases h
      exact of_in (of_decide_eq_true (hl _ (List.mem_cons_of_mem _ (List.mem_cons_of_mem _ (List.mem_singleton.2 rfl))))) (of_decide_eq_false (hl _ (List.mem_cons_of_mem _ List.mem_cons_self))) (of_decide_eq_false (hl _ List.mem_cons_self)) w
    · cases h
  · cases h
/-- the product; told ahead whether it is too great -/
def gFMd : Ans := fun vals s =>
  match vals, s with
  | [x, y], .inr (.inr (.inr (.inl d))) :: s' =>
    match w4 x, w4 y with
    | some a, some b => some (.tuple #[vW (W4.of (fmI a b)), .bool d], s', [(decide (115792089237316195423570985008687907853269984665640564039457584007913129639936 ≤ fmI a b), d), q2 a b])
    | _, _ => none
  | _, _ => none
theorem gFMd_ok : AnsOk 26 gFMd := by
  intro vals s v s' lg h hl w
  unfold gFMd at h
  split at h
  · split at h
    · rename_i a b ha hb
      cases h
      have h1 := hl _ List.mem_cons_self
      have h2 := of_decide_eq_true (hl _ (List.mem_cons_of_mem _ (List.mem_singleton.2 rfl)))
      simp only at h1
      rw [w4_spec ha, w4_spec hb, ← h1]
      exact fm_calls a b h2.1 h2.2 w
    · cases h
  · cases h
def conFu : Con := alt 6 gFOf conN
theorem conFu_ok : ConOk conFu := alt_ok Tryd.func6 rfl gFOf_ok conN_ok
theorem sure15_fits : Fits (reckon (tabOf Tryd.prog extY conFu true) 300 14 [] [cmp false, cmp false]) (.bool true) [(decide (115792089237316195423570985008687907853269984665640564039457584007913129639936 ≤ foI 1 2), false), (decide ((2 : Int) = 0), false), (decide (uu 1 2), true)] := ⟨by kernel_rfl, by kernel_rfl, by kernel_rfl, by kernel_rfl⟩
theorem sure15_calls (w : World) : Calls Tryd.prog 14 #[] w fun e w' => e = .returned (.bool true) ∧ Tidy w w' :=
  fits_calls (tabY_ok conFu_ok) sure15_fits (okPC (by decide +kernel) (okPC (by decide) (okP1 (by decide)))) (by rfl) (by rfl) w
def conF5 : Con := alt 14 (g0 (.bool true)) (alt 6 gFOf (alt 26 gFMd (alt 15 (gAng sinV) (alt 16 (gAng cosV) (alt 27 (g1n (plain1n shrV4)) conN)))))
theorem conF5_ok : ConOk conF5 := alt_ok Tryd.func14 rfl (g0_ok sure15_calls) (alt_ok Tryd.func6 rfl gFOf_ok (alt_ok Tryd.func26 rfl gFMd_ok (alt_ok Tryd.func15 rfl (gAng_ok sin_calls) (alt_ok Tryd.func16 rfl (gAng_ok cos_calls) (alt_ok Tryd.func27 rfl (plain1n_ok shr_calls) conN_ok)))))
end Go.Proofs.YtdlpffgekmidnaaDoor
namespace Go.Proofs.YtdlpffgekmidnaaDoor
open Go.KRun
set_option maxRecDepth 100000
theorem okOne {p : Bool × Bool} (h : p.1 = p.2) : okLog [p] := fun x hx => by rw [List.mem_singleton.1 hx]; exact h
theorem okTwo {p : Bool × Bool} {l : Log} (h : p.1 = p.2) (hl : okLog l) : okLog (p :: l) := fun x hx => by
  rcases List.mem_cons.1 hx with rfl | hx
  · exact h
  · exact hl x hx
theorem wrapI {n : Int} (h0 : -9223372036854775808 ≤ n) (h1 : n ≤ 9223372036854775807) : IntKind.i64.wrap n = n := by
  simp [IntKind.wrap, IntKind.bits, IntKind.signed]; omega
/-! ### what is known of calls with rows -/
abbrev Hc := Nat → List Value → Hp → List Dec → Option (Value × Hp × List Dec × Log)
abbrev AnsH := List Value → Hp → List Dec → Option (Value × Hp × List Dec × Log)
def AnsHOk (f : Nat) (g : AnsH) : Prop := ∀ vals h s v h' s' lg, g vals h s = some (v, h', s', lg) → okLog lg → ∀ m B w, Emb m B h w → (∀ v ∈ vals, lt h.n v = true) → Calls Tryd.prog f (vals.map (mv m)).toArray w fun e w' => ∃ m', e = .returned (mv m' v) ∧ Came m B h w v h' m' w'
structure HcOk (hc : Hc) : Prop where
  fn : ∀ f vals h s r, hc f vals h s = some r → ∃ F, Tryd.prog.funcs[f]? = some F ∧ F.body.isSome = true
  calls : ∀ f, AnsHOk f (hc f)
def hcN : Hc := fun _ _ _ _ => none
theorem hcN_ok : HcOk hcN := ⟨fun _ _ _ _ _ h => (by cases h), fun _ _ _ _ _ _ _ _ h => (by cases h)⟩
def altH (f : Nat) (g : AnsH) (hc : Hc) : Hc := fun f' vals h s => if Nat.beq f' f = true then g vals h s else hc f' vals h s
theorem altH_ok {f : Nat} {F : Func} (hF : Tryd.prog.funcs[f]? = some F) (hb : F.body.isSome = true) {g : AnsH} (hg : AnsHOk f g) {hc : Hc} (h : HcOk hc) : HcOk (altH f g hc) where
  fn := fun f' vals h' s r hr => by
    unfold altH at hr
    split at hr
    · rename_i e
      rw [Nat.eq_of_beq_eq_true e]
      exact ⟨F, hF, hb⟩
    · exact h.fn _ _ _ _ _ hr
  calls := fun f' vals h' s v h'' s' lg hr => by
    unfold altH at hr
    split at hr
    · rename_i e
      rw [Nat.eq_of_beq_eq_true e]
      exact hg _ _ _ _ _ _ _ hr
    · exact h.calls f' _ _ _ _ _ _ _ hr
def tabH (P : Program) (ext : Nat → List Value → Option (Value × Log)) (con : Con) (hc : Hc) : Tab := { P := P, fn := fun f => P.funcs[f]?, ext := ext, con := con, sym := true, hc := hc }
theorem tabH_ok {con : Con} (h : ConOk con) {hc : Hc} (hh : HcOk hc) : TabOk (tabH Tryd.prog extY con hc) where
  mixed := mixed
  ext := extY_ok
  con := fun f vals s v s' lg hc hl => ⟨by obtain ⟨F, h1, h2⟩ := h.fn f vals s v s' lg hc; exact ⟨F, (fns_ok f F h1).1, (fns_ok f F h1).2, h2⟩, h.calls f vals s v s' lg hc hl⟩
  fn := fns_ok
  hc := fun f vals h0 s v h' s' lg hr hl => ⟨by obtain ⟨F, h1, h2⟩ := hh.fn f vals h0 s _ hr; exact ⟨F, (fns_ok f F h1).1, (fns_ok f F h1).2, h2⟩, hh.calls f vals h0 s v h' s' lg hr hl⟩
end Go.Proofs.YtdlpffgekmidnaaDoor
namespace Go.Nt
/-- how many are left without noughts at the end -/
def trimN : List Int → Nat
  | [] => 0
  | x :: r => if trimN r = 0 then (if x = 0 then 0 else 1) else trimN r + 1
theorem trimN_le : ∀ L : List Int, trimN L ≤ L.length
  | [] => Nat.le_refl _
  | x :: r => by
    have := trimN_le r
    unfold trimN
    split
    · split <;> simp
    · simp; omega
theorem trimN_high : ∀ (L : List Int) (i : Nat), trimN L ≤ i → L.getD i 0 = 0
  | [], i, _ => by simp
  | x :: r, i, h => by
    unfold trimN at h
    cases i with
    | zero =>
      split at h
      · split at h
        · rename_i h1; simp [h1]
        · omega
      · omega
    | succ i =>
      have := trimN_high r i (by split at h <;> (try split at h) <;> omega)
      simpa using this
theorem trimN_top : ∀ L : List Int, trimN L = 0 ∨ L.getD (trimN L - 1) 0 ≠ 0
  | [] => .inl rfl
  | x :: r => by
    have ih := trimN_top r
    unfold trimN
    split
    · split
      · exact .inl rfl
      · rename_i h; exact .inr (by simpa using h)
    · rename_i h
      rcases ih with ih | ih
      · exact absurd ih h
      · refine .inr ?_
        obtain ⟨k, hk⟩ : ∃ k, trimN r = k + 1 := ⟨trimN r - 1, by omega⟩
        rw [hk] at ih ⊢
        simpa using ih
theorem trimN_uniq {L : List Int} {k : Nat} (h1 : ∀ i, k ≤ i → L.getD i 0 = 0) (h2 : k = 0 ∨ L.getD (k - 1) 0 ≠ 0) : trimN L = k := by
  rcases Nat.lt_trichotomy (trimN L) k with h | h | h
  · rcases h2 with h2 | h2
    · omega
    · exact absurd (trimN_high L (k - 1) (by omega)) h2
  · exact h
  · rcases trimN_top L with h3 | h3
    · omega
    · exact absurd (h1 (trimN L - 1) (by omega)) h3
end Go.Nt
namespace Go.Proofs.YtdlpffgekmidnaaDoor
open Go.KRun Go.Nt
set_option maxRecDepth 100000
/-- words of 32 bits; the type of such a row's block, only read -/
def wU (L : List Int) : List Value := L.map (Value.int .u32)
def tU : TypeId := 63
def tR : TypeId := 63 + dead
theorem tR_ro : ro tR = true := by kernel_rfl
theorem tR_ab : ab tR = false := by kernel_rfl
theorem tR_tomb : tomb tR = false := by kernel_rfl
theorem tR_rt : rt tR = tU := by kernel_rfl
def sl (b o n c : Nat) : Value := .slice (some ⟨b, o, none⟩) n c
def nilS : Value := .slice none 0 0
/-! ### rows of words in a memory -/
def intOf : Value → Int
  | .int _ n => n
  | _ => 0
def isU : Value → Bool
  | .int .u32 n => decide (0 ≤ n ∧ n < 4294967296)
  | _ => false
theorem isU_spec {v : Value} (h : isU v = true) : v = .int .u32 (intOf v) ∧ 0 ≤ intOf v ∧ intOf v < 4294967296 := by
  unfold isU at h
  split at h
  · simp only [decide_eq_true_eq] at h
    exact ⟨rfl, h.1, h.2⟩
  · cases h
def cutV (l : List Value) (o n : Nat) : List Value := (l.drop o).take n
def cutI (l : List Value) (o n : Nat) : List Int := (cutV l o n).map intOf
theorem cutV_words {l : List Value} {o n : Nat} (h : ((cutV l o n).all isU) = true) : cutV l o n = wU (cutI l o n) := by
  unfold wU cutI
  rw [List.map_map]
  refine (List.map_id' _).symm.trans (List.map_congr_left fun v hv => ?_)
  exact (isU_spec (List.all_eq_true.1 h v hv)).1
/-- what is needed of a row in the smallest memory -/
structure Row (l : List Value) (o : Nat) (L : List Int) : Prop where
  len : o + L.length ≤ l.length
  cut : cutV l o L.length = wU L
  rng : ∀ x ∈ L, 0 ≤ x ∧ x < 4294967296
theorem Row.cell {l : List Value} {o : Nat} {L : List Int} (h : Row l o L) {k : Nat} (hk : k < L.length) : l[o + k]? = some (.int .u32 (L.getD k 0)) := by
  have e : (cutV l o L.length)[k]? = (wU L)[k]? := by rw [h.cut]
  unfold cutV wU at e
  rw [List.getElem?_take, if_pos hk, List.getElem?_drop, List.getElem?_map] at e
  rw [e, List.getElem?_eq_getElem hk]
  simp [List.getD, List.getElem?_eq_getElem hk]
/-- one row, the smallest memory -/
theorem rows1 {l : List Value} (h : ∀ v ∈ l, still v = true) : (⟨1, [(l, tR)]⟩ : Hp).rows := by
  refine ⟨rfl, fun b x hb => ?_⟩
  have hb0 : b = 0 := by have : b < 1 := Hp.blk_lt hb; omega
  subst hb0
  have : x = (l, tR) := (Option.some.inj hb).symm
  rw [this]
  exact ⟨tR_ro, h, tR_ab⟩
theorem fitsR1 {l : List Value} {h : Hp} {b : Nat} {x : List Value × TypeId} (hb : h.blk? b = some x) (h1 : tomb x.2 = false) (h2 : rt x.2 = tU) (e : x.1 = l) : (⟨1, [(l, tR)]⟩ : Hp).fits (fun _ => b) h := by
  intro i y hi _
  have hb0 : i = 0 := by have : i < 1 := Hp.blk_lt hi; omega
  subst hb0
  have : y = (l, tR) := (Option.some.inj hi).symm
  rw [this]
  exact ⟨x, [], hb, h1, by rw [h2]; exact tR_rt.symm, by rw [e, List.append_nil]⟩
/-- two rows -/
def h2 (la lb : List Value) : Hp := ⟨2, [(lb, tR), (la, tR)]⟩
def pair (a b i : Nat) : Nat := if Nat.beq i 0 = true then a else b
theorem blk2 {la lb : List Value} {i : Nat} {x : List Value × TypeId} (h : (h2 la lb).blk? i = some x) : (i = 0 ∧ x = (la, tR)) ∨ (i = 1 ∧ x = (lb, tR)) := by
  have : i < 2 := Hp.blk_lt h
  have : i = 0 ∨ i = 1 := by omega
  rcases this with rfl | rfl
  · exact .inl ⟨rfl, (Option.some.inj h).symm⟩
  · exact .inr ⟨rfl, (Option.some.inj h).symm⟩
theorem rows2 {la lb : List Value} (ha : ∀ v ∈ la, still v = true) (hb : ∀ v ∈ lb, still v = true) : (h2 la lb).rows := by
  refine ⟨rfl, fun b x hx => ?_⟩
  rcases blk2 hx with ⟨_, e⟩ | ⟨_, e⟩ <;> rw [e]
  · exact ⟨tR_ro, ha, tR_ab⟩
  · exact ⟨tR_ro, hb, tR_ab⟩
theorem fitsR2 {h : Hp} {a b : Nat} {x y : List Value × TypeId} (hx : h.blk? a = some x) (x1 : tomb x.2 = false) (x2 : rt x.2 = tU) (hy : h.blk? b = some y) (y1 : tomb y.2 = false) (y2 : rt y.2 = tU) : (h2 x.1 y.1).fits (pair a b) h := by
  intro i z hz _
  rcases blk2 hz with ⟨rfl, e⟩ | ⟨rfl, e⟩ <;> rw [e]
  · exact ⟨x, [], hx, x1, by rw [x2]; exact tR_rt.symm, by rw [List.append_nil]⟩
  · exact ⟨y, [], hy, y1, by rw [y2]; exact tR_rt.symm, by rw [List.append_nil]⟩
end Go.Proofs.YtdlpffgekmidnaaDoor
namespace Go.Nt
/-- a number's value, of digits to a base -/
def vb (b : Nat) : List Int → Nat
  | [] => 0
  | x :: l => x.toNat + b * vb b l
/-- a number's digits -/
def db (b V : Nat) : List Int := if _h : V = 0 ∨ b < 2 then [] else ((V % b : Nat) : Int) :: db b (V / b)
  termination_by V
  decreasing_by exact Nat.div_lt_self (by omega) (by omega)
/-- digits to a base -/
abbrev Dg (b : Nat) (x : Int) : Prop := 0 ≤ x ∧ x < b
theorem db_zero (b : Nat) : db b 0 = [] := by rw [db]; simp
theorem db_pos {b V : Nat} (hb : 2 ≤ b) (hV : V ≠ 0) : db b V = ((V % b : Nat) : Int) :: db b (V / b) := by
  rw [db]
  rw [dif_neg (by omega)]
theorem vb_db {b : Nat} (hb : 2 ≤ b) (V : Nat) : vb b (db b V) = V := by
  induction V using Nat.strongRecOn with
  | ind V ih =>
    by_cases hV : V = 0
    · subst hV; rw [db_zero]; rfl
    · rw [db_pos hb hV]
      simp only [vb]
      rw [ih (V / b) (Nat.div_lt_self (by omega) (by omega)), Int.toNat_natCast]
      exact Nat.mod_add_div V b
theorem db_dg {b : Nat} (hb : 2 ≤ b) (V : Nat) : ∀ x ∈ db b V, Dg b x := by
  induction V using Nat.strongRecOn with
  | ind V ih =>
    by_cases hV : V = 0
    · subst hV; rw [db_zero]; intro x hx; cases hx
    · rw [db_pos hb hV]
      intro x hx
      rcases List.mem_cons.1 hx with rfl | hx
      · have := Nat.mod_lt V (show b > 0 by omega)
        exact ⟨by omega, by omega⟩
      · exact ih (V / b) (Nat.div_lt_self (by omega) (by omega)) x hx
theorem db_nil {b V : Nat} (hb : 2 ≤ b) : db b V = [] ↔ V = 0 := by
  constructor
  · intro h
    by_cases hV : V = 0
    · exact hV
    · rw [db_pos hb hV] at h; cases h
  · rintro rfl; exact db_zero b
/-- digits without noughts at the end are the number's -/
theorem take_trim {b : Nat} (hb : 2 ≤ b) : ∀ (L : List Int), (∀ x ∈ L, Dg b x) → L.take (trimN L) = db b (vb b L)
  | [], _ => by simp [vb, db_zero]
  | x :: r, h => by
    have ih := take_trim hb r (fun y hy => h y (List.mem_cons_of_mem _ hy))
    have hx := h x (List.mem_cons_self)
    have hxn : ((x.toNat : Nat) : Int) = x := Int.toNat_of_nonneg hx.1
    have hlt : x.toNat < b := by omega
    have e1 : (x.toNat + b * vb b r) % b = x.toNat := by rw [Nat.add_mul_mod_self_left, Nat.mod_eq_of_lt hlt]
    have e2 : (x.toNat + b * vb b r) / b = vb b r := by rw [Nat.add_mul_div_left _ _ (by omega), Nat.div_eq_of_lt hlt, Nat.zero_add]
    unfold trimN
    by_cases h0 : trimN r = 0
    · rw [if_pos h0]
      rw [h0, List.take_zero] at ih
      have hv : vb b r = 0 := (db_nil hb).1 ih.symm
      by_cases hx0 : x = 0
      · rw [if_pos hx0]
        simp only [List.take_zero, vb, hv, hx0]
        simp [db_zero]
      · rw [if_neg hx0]
        have hx1 : x.toNat ≠ 0 := by omega
        show [x] = _
        simp only [vb]
        rw [db_pos hb (by rw [hv]; omega), e1, e2, hv, db_zero, hxn]
    · rw [if_neg h0]
      have hv : vb b r ≠ 0 := fun hv => by
        rw [hv, db_zero] at ih
        have hl := congrArg List.length ih
        have := trimN_le r
        simp at hl
        rcases hl with hl | hl
        · exact h0 hl
        · subst hl; exact h0 rfl
      have hpos : 0 < b * vb b r := Nat.mul_pos (by omega) (by omega)
      show x :: r.take (trimN r) = _
      simp only [vb]
      rw [db_pos hb (by omega), e1, e2, hxn, ih]
theorem trim_len {b : Nat} (hb : 2 ≤ b) {L : List Int} (h : ∀ x ∈ L, Dg b x) : trimN L = (db b (vb b L)).length := by
  rw [← take_trim hb L h]
  have := trimN_le L
  simp
  omega
/-- a number's digits are those of it -/
def Canon (b : Nat) (L : List Int) : Prop := (∀ x ∈ L, Dg b x) ∧ trimN L = L.length
theorem can_db {b : Nat} (hb : 2 ≤ b) (V : Nat) : Canon b (db b V) := by
  have h := db_dg hb V
  refine ⟨h, ?_⟩
  have := trim_len hb h
  rw [vb_db hb] at this
  exact this
theorem db_can {b : Nat} (hb : 2 ≤ b) {L : List Int} (h : Canon b L) : db b (vb b L) = L := by
  rw [← take_trim hb L h.1, h.2, List.take_length]
theorem db_len {b : Nat} (hb : 2 ≤ b) : ∀ (k V : Nat), V < b ^ k → (db b V).length ≤ k
  | 0, V, h => by
    have : V = 0 := by simpa using h
    subst this; rw [db_zero]; exact Nat.le_refl _
  | k + 1, V, h => by
    by_cases hV : V = 0
    · subst hV; rw [db_zero]; exact Nat.zero_le _
    · rw [db_pos hb hV]
      have : V / b < b ^ k := Nat.div_lt_of_lt_mul (by rw [Nat.pow_succ] at h; rw [Nat.mul_comm]; exact h)
      have := db_len hb k (V / b) this
      simp
      omega
theorem vb_lt {b : Nat} (hb : 2 ≤ b) : ∀ (L : List Int), (∀ x ∈ L, Dg b x) → vb b L < b ^ L.length
  | [], _ => by simp [vb]
  | x :: r, h => by
    have ih := vb_lt hb r (fun y hy => h y (List.mem_cons_of_mem _ hy))
    have hx := h x (List.mem_cons_self)
    have hlt : x.toNat < b := by omega
    simp only [vb, List.length_cons, Nat.pow_succ]
    calc x.toNat + b * vb b r < b + b * vb b r := by omega
      _ = b * (vb b r + 1) := by rw [Nat.mul_add, Nat.mul_one, Nat.add_comm]
      _ ≤ b * b ^ r.length := Nat.mul_le_mul_left _ ih
      _ = b ^ r.length * b := Nat.mul_comm _ _
theorem vb_append (b : Nat) : ∀ (L M : List Int), vb b (L ++ M) = vb b L + b ^ L.length * vb b M
  | [], M => by simp [vb]
  | x :: r, M => by
    simp only [List.cons_append, vb, vb_append b r M, List.length_cons, Nat.pow_succ]
    rw [Nat.mul_add, ← Nat.mul_assoc, Nat.mul_comm b (b ^ r.length)]
    omega
end Go.Nt
