/-
  FiD, FiE, FiF, FiG, RnA, RnB
-/
import Derived.Test.YtdlpffgekmidnabG10
namespace Go.Proofs.Ytdlpffgekmidnab
open Go.KRun Go.Wd
set_option maxRecDepth 100000
theorem uP_is : Go.Fx.uP = 452312848583266388373324160190187140051835877600158453279131187530910662656 := by rfl
theorem of_sub (A b : Int) : W4.of ((W4.of A).val - b) = W4.of (A - b) := by
  rw [W4.val_of, ← of_mod (_ - b), ← of_mod (A - b)]
  congr 1
  omega
theorem of_add (A b : Int) : W4.of ((W4.of A).val + b) = W4.of (A + b) := by
  rw [W4.val_of, ← of_mod (_ + b), ← of_mod (A + b)]
  congr 1
  omega
theorem ofN_val {n : Nat} (h : n ≤ Go.Fx.uP) : (ofN n).val = (n : Int) := by
  rw [uP_is] at h
  unfold ofN
  rw [W4.val_of]
  omega
theorem fmI_of {a b : Nat} (ha : a ≤ Go.Fx.uP) (hb : b ≤ Go.Fx.uP) : fmI (ofN a) (ofN b) = ((a * b / Go.Fx.uP : Nat) : Int) := by
  unfold fmI
  rw [ofN_val ha, ofN_val hb, uP_is]
  omega
theorem ofN_none {n : Nat} (h : n ≤ Go.Fx.uP) : eqW (ofN n) ⟨0, 0, 0, 0⟩ = decide (n = 0) := by
  rw [Bool.eq_iff_iff, eqW_iff, decide_eq_true_eq]
  constructor
  · intro e
    have := congrArg W4.val e
    rw [ofN_val h] at this
    have z : (⟨0, 0, 0, 0⟩ : W4).val = 0 := rfl
    omega
  · rintro rfl
    exact ofN_zero
section
variable (f x n : Nat)
/-- the square; the terms; the sums -/
def sqF : Nat := x * x / Go.Fx.uP
def tF (k : Nat) : Nat := Go.Fx.tm Go.Fx.uP (sqF x) f n k
def yF (k : Nat) : Int := Go.Fx.sr Go.Fx.uP (sqF x) f n k
end
section
variable {f x n : Nat} (hf : f ≤ Go.Fx.uP) (hx : x ≤ Go.Fx.uP) (hn : 1 ≤ n ∧ n ≤ 100)
include hx in
theorem sqF_le : sqF x ≤ Go.Fx.uP := Go.Fx.sq_le Go.Fx.uP_pos hx
include hf hx in
theorem tF_le (k : Nat) : tF f x n k ≤ Go.Fx.uP := Nat.le_trans (Go.Fx.tm_le Go.Fx.uP_pos (sqF_le hx) k) hf
include hf hx hn in
theorem srT_is {k : Nat} (hk : k < 28) : srT (ofN (tF f x n k)) (ofN (sqF x)) (n : Int) (k : Int) = ofN (tF f x n (k + 1)) ∧ (srO (ofN (tF f x n k)) (ofN (sqF x)) (n : Int) (k : Int)).1 = (srO (ofN (tF f x n k)) (ofN (sqF x)) (n : Int) (k : Int)).2 := by
  have ew : IntKind.u64.wrap ((n : Int) + IntKind.u64.wrap (2 * (k : Int))) = ((n + 2 * k : Nat) : Int) := by
    rw [wrap_u64' (n := 2 * (k : Int)) (by omega) (by omega), wrap_u64' (by omega) (by omega)]
    omega
  have hfm := fmI_of (tF_le hf hx k) (sqF_le hx) (a := tF f x n k)
  have hle : tF f x n k * sqF x / Go.Fx.uP ≤ Go.Fx.uP := by
    have := Nat.mul_le_mul (tF_le hf hx k (n := n)) (sqF_le hx)
    exact Nat.le_trans (Nat.div_le_div_right this) (by rw [Nat.mul_div_cancel _ Go.Fx.uP_pos]; exact Nat.le_refl _)
  constructor
  · unfold srT ofN
    rw [ew]
    unfold ofN at hfm
    rw [hfm]
    congr 1
  · unfold srO okPt
    rw [ew]
    have n1 : (1 : Int) ≤ ((n + 2 * k : Nat) : Int) := by omega
    have n2 : ((n + 2 * k : Nat) : Int) ≤ 1000 := by omega
    have hl : fmI (ofN (tF f x n k)) (ofN (sqF x)) < 115792089237316195423570985008687907853269984665640564039457584007913129639936 := by
      rw [hfm]
      clear hfm
      generalize tF f x n k * sqF x / Go.Fx.uP = p at *
      rw [uP_is] at hle
      omega
    dsimp only
    exact decide_eq_true ⟨ofN_ok _, ofN_ok _, hl, n1, n2⟩
/-- what holds at the loop's head -/
def sI (f x n : Nat) (v0 v1 v5 v8 v11 v12 v13 v14 v15 v16 v17 : Value) (k : Nat) (y : Lf) : Prop := ∃ v10 g, y.1 = srF v0 v1 (n : Int) v5 v8 v10 v11 v12 v13 v14 v15 v16 v17 (k : Int) ++ tl 23 g ∧ y.2.1 = srH (ofN (tF f x n k)) (ofN x) (ofN (sqF x)) (W4.of (yF f x n (k + 1)))
def sFinX (f x n : Nat) (v0 v1 v5 v8 v11 v12 v13 v14 v15 v16 v17 : Value) (y : Lf) : Prop := ∃ v10 t k g, y.1 = srF v0 v1 (n : Int) v5 v8 v10 v11 v12 v13 v14 v15 v16 v17 k ++ tl 23 g ∧ y.2.1 = srH t (ofN x) (ofN (sqF x)) (W4.of (yF f x n 29))
include hf hx hn in
theorem sr_round (v0 v1 v5 v8 v11 v12 v13 v14 v15 v16 v17 : Value) {k : Nat} (hk : k ≤ 28) {y : Lf} (h : sI f x n v0 v1 v5 v8 v11 v12 v13 v14 v15 v16 v17 k y) :
    Runs (tabOf Try.prog extY conFS true) (srL Try.f40) y fun e z => match e with | none => k < 28 ∧ sI f x n v0 v1 v5 v8 v11 v12 v13 v14 v15 v16 v17 (k + 1) z | some none => False | some (some id') => id' = 0 ∧ sFinX f x n v0 v1 v5 v8 v11 v12 v13 v14 v15 v16 v17 z := by
  obtain ⟨t, h', s⟩ := y
  obtain ⟨v10, g, ht, hh⟩ := h
  simp only at ht hh
  subst ht hh
  have T := tabY_ok conFS_ok
  by_cases c : k < 28
  · have hlt : decide ((k : Int) < 28) = true := decide_eq_true (by omega)
    obtain ⟨e1, o1⟩ := srT_is hf hx hn c
    have e2 := ofN_none (tF_le hf hx (n := n) (k + 1))
    have ek : IntKind.u64.wrap ((k : Int) + 1) = ((k + 1 : Nat) : Int) := by rw [wrap_u64' (by omega) (by omega)]; omega
    have oQ : (q2 (W4.of (yF f x n (k + 1))) (ofN (tF f x n (k + 1)))).1 = (q2 (W4.of (yF f x n (k + 1))) (ofN (tF f x n (k + 1)))).2 := decide_eq_true ⟨W4.ok_of _, ofN_ok _⟩
    have hv := ofN_val (tF_le hf hx (n := n) (k + 1))
    by_cases z : tF f x n (k + 1) = 0
    · have hg := sr_brk v0 v1 v5 v8 v10 v11 v12 v13 v14 v15 v16 v17 (ofN (tF f x n k)) (ofN x) (ofN (sqF x)) (W4.of (yF f x n (k + 1))) n k g
      rw [e1] at hg
      refine (goesT_runs (s0 := s) T hg (okPC (by rw [e2]; exact decide_eq_true z) (okPC o1 (okP1 hlt)))).mono fun e w hw => ?_
      obtain ⟨rfl, ⟨g', z1⟩, z2⟩ := hw
      refine ⟨rfl, _, ofN (tF f x n (k + 1)), _, g', z1, ?_⟩
      have : yF f x n 29 = yF f x n (k + 1) := by
        have := Go.Fx.sr_stop z (28 - k)
        rw [show k + 1 + (28 - k) = 29 by omega] at this
        exact this
      rw [z2, this]
    · have e2' : eqW (ofN (tF f x n (k + 1))) ⟨0, 0, 0, 0⟩ = false := by rw [e2]; exact decide_eq_false z
      rcases Nat.mod_two_eq_zero_or_one k with m | m
      · have hg := sr_less v0 v1 v5 v8 v10 v11 v12 v13 v14 v15 v16 v17 (ofN (tF f x n k)) (ofN x) (ofN (sqF x)) (W4.of (yF f x n (k + 1))) n k g
        rw [e1, ek, hv, of_sub] at hg
        have hm : ((k : Int).tmod 2 == 0) = true := by rw [beq_iff_eq, Int.tmod_eq_emod_of_nonneg (by omega)]; omega
        refine (goesT_runs (s0 := s) T hg (okPC oQ (okPC hm (okPC (by decide) (okPC e2' (okPC o1 (okP1 hlt))))))).mono fun e w hw => ?_
        obtain ⟨rfl, ⟨g', z1⟩, z2⟩ := hw
        refine ⟨c, _, g', z1, ?_⟩
        have : yF f x n (k + 1 + 1) = yF f x n (k + 1) - ((tF f x n (k + 1) : Nat) : Int) := by
          show (if (k + 1) % 2 = 0 then _ else _) = _
          rw [if_neg (by omega)]
          rfl
        rw [z2, this]
      · have hg := sr_plus v0 v1 v5 v8 v10 v11 v12 v13 v14 v15 v16 v17 (ofN (tF f x n k)) (ofN x) (ofN (sqF x)) (W4.of (yF f x n (k + 1))) n k g
        rw [e1, ek, hv, of_add] at hg
        have hm : ((k : Int).tmod 2 == 0) = false := by rw [beq_eq_false_iff_ne, Int.tmod_eq_emod_of_nonneg (by omega)]; omega
        refine (goesT_runs (s0 := s) T hg (okPC oQ (okPC hm (okPC (by decide) (okPC e2' (okPC o1 (okP1 hlt))))))).mono fun e w hw => ?_
        obtain ⟨rfl, ⟨g', z1⟩, z2⟩ := hw
        refine ⟨c, _, g', z1, ?_⟩
        have : yF f x n (k + 1 + 1) = yF f x n (k + 1) + ((tF f x n (k + 1) : Nat) : Int) := by
          show (if (k + 1) % 2 = 0 then _ else _) = _
          rw [if_pos (by omega)]
          rfl
        rw [z2, this]
  · have e : k = 28 := by omega
    subst e
    refine (goesT_runs (s0 := s) T (sr_out v0 v1 v5 v8 v10 v11 v12 v13 v14 v15 v16 v17 (ofN (tF f x n 28)) (ofN x) (ofN (sqF x)) (W4.of (yF f x n (28 + 1))) n ((28 : Nat) : Int) g) (okL1 (by decide))).mono fun e w hw => ?_
    obtain ⟨rfl, ⟨g', z1⟩, z2⟩ := hw
    exact ⟨rfl, _, _, _, g', z1, z2⟩
include hf hx hn in
theorem series_calls (w : World) : Calls Try.prog 40 #[vW (ofN f), vW (ofN x), .int .u64 (n : Int)] w fun e w' => e = .returned (vW (W4.of (yF f x n 29))) ∧ Tidy w w' := by
  have T := tabY_ok conFS_ok
  refine calls_of_runs (T := tabOf Try.prog extY conFS true) Try.func40 sr_body (vals := [vW (ofN f), vW (ofN x), .int .u64 (n : Int)]) (by rfl) (by rfl) ?_ w
  refine goesT_list T (sr_pre (ofN f) (ofN x) n) (okL1 (decide_eq_true ⟨ofN_ok _, ofN_ok _⟩)) fun g => ?_
  have es : W4.of (fmI (ofN x) (ofN x)) = ofN (sqF x) := by rw [fmI_of hx hx]; rfl
  rw [es]
  refine Runs.seq (P1 := fun e y => e = none ∧ ∃ v0 v1 v5 v8 v11 v12 v13 v14 v15 v16 v17, sFinX f x n v0 v1 v5 v8 v11 v12 v13 v14 v15 v16 v17 y) ?_ ?_ (fun e y he => by cases he.1)
  · refine Runs.seq (goesT_runs T (sr_i _ _ _ _ _ _ _ _ _ _ _ _ _ _ _ _ _ _ g _) okNil) ?_ (fun e y he => by cases he.1)
    rintro ⟨t, h', s⟩ ⟨_, ⟨g', ht⟩, hh⟩
    simp only at ht hh
    subst ht hh
    refine (Runs.forLoop (T := tabOf Try.prog extY conFS true) (c := srL Try.f40) (id := 0) (R := fun _ => False) (P := fun y => ∃ v0 v1 v5 v8 v11 v12 v13 v14 v15 v16 v17, sFinX f x n v0 v1 v5 v8 v11 v12 v13 v14 v15 v16 v17 y) (fun j y => ∃ k, j = 28 - k ∧ k ≤ 28 ∧ sI f x n _ _ _ _ _ _ _ _ _ _ _ k y) ?_ (n := 28) ⟨0, by omega, by omega, _, g', rfl, ?_⟩).mono fun e z hz => ?_
    · rintro j y ⟨k, hj, hk, hI⟩
      refine (sr_round hf hx hn _ _ _ _ _ _ _ _ _ _ _ hk hI).mono fun e z hz => ?_
      match e, hz with
      | none, hz => exact ⟨28 - (k + 1), by omega, k + 1, rfl, by omega, hz.2⟩
      | some none, hz => exact hz.elim
      | some (some _), hz => exact ⟨hz.1, _, _, _, _, _, _, _, _, _, _, _, hz.2⟩
    · have : yF f x n (0 + 1) = (f : Int) := by
        show (0 : Int) + ((f : Nat) : Int) = _
        omega
      rw [this]
      rfl
    · match e, hz with
      | none, hz => exact ⟨rfl, hz⟩
      | some none, hz => exact hz.elim
      | some (some _), hz => exact hz.elim
  · rintro ⟨t, h', s⟩ ⟨_, v0, v1, v5, v8, v11, v12, v13, v14, v15, v16, v17, v10, tt, k, g', ht, hh⟩
    simp only at ht hh
    subst ht hh
    refine (goesT_runs T (sr_end v0 v1 v5 v8 v10 v11 v12 v13 v14 v15 v16 v17 tt (ofN x) (ofN (sqF x)) (W4.of (yF f x n 29)) n k g') okNil).mono fun e z hz => ?_
    obtain ⟨rfl, ⟨g2, z1⟩, z2⟩ := hz
    refine ⟨.inr rfl, ?_⟩
    rw [z1, z2]
    rfl
end
def okSer (a b : W4) (n : Int) : Bool × Bool := (decide (a.ok ∧ b.ok ∧ a.nat ≤ Go.Fx.uP ∧ b.nat ≤ Go.Fx.uP ∧ 1 ≤ n ∧ n ≤ 100), true)
def serW (a b : W4) (n : Int) : W4 := W4.of (yF a.nat b.nat n.toNat 29)
def gSer : Ans := fun vals s =>
  match vals with
  | [x, y, .int .u64 n] =>
    match w4 x, w4 y with
    | some a, some b => some (vW (serW a b n), s, [okSer a b n])
    | _, _ => none
  | _ => none
theorem gSer_ok : AnsOk 40 gSer := by
  intro vals s v s' lg h hl w
  unfold gSer at h
  split at h
  · rename_i x y n
    split at h
    · rename_i a b ha hb
      cases h
      have h1 := hl _ (List.mem_singleton.2 rfl)
      simp only [okSer, decide_eq_true_eq] at h1
      obtain ⟨k1, k2, k3, k4, k5, k6⟩ := h1
      rw [w4_spec ha, w4_spec hb]
      have := series_calls (n := Int.toNat n) k3 k4 ⟨by omega, by omega⟩ w
      rw [ofN_self k1, ofN_self k2, Int.toNat_of_nonneg (by omega)] at this
      exact this
    · cases h
  · cases h
def conFO : Con := alt 31 (g1n (plain1n shlV4)) conN
theorem conFO_ok : ConOk conFO := alt_ok Try.func31 rfl (plain1n_ok shl_calls) conN_ok
/-- 1 -/
def oneW : W4 := ⟨0, 0, 0, 72057594037927936⟩
def g0 (k : Value) : Ans := fun vals s => match vals with | [] => some (k, s, []) | _ => none
theorem g0_ok {f : Nat} {k : Value} (hk : ∀ w, Calls Try.prog f #[] w fun e w' => e = .returned k ∧ Tidy w w') : AnsOk f (g0 k) := by
  intro vals s v s' lg h hl w
  unfold g0 at h
  split at h
  · cases h
    exact hk w
  · cases h
theorem one_fits : Fits (reckon (tabOf Try.prog extY conFO true) 300 38 [] []) (vW (shlW ⟨1, 0, 0, 0⟩ 248)) [qk ⟨1, 0, 0, 0⟩ 248] := ⟨by kernel_rfl, by kernel_rfl, by kernel_rfl, by kernel_rfl⟩
theorem one_calls (w : World) : Calls Try.prog 38 #[] w fun e w' => e = .returned (vW oneW) ∧ Tidy w w' := by
  have e : shlW ⟨1, 0, 0, 0⟩ 248 = oneW := eqW_iff.1 (by decide +kernel)
  have := fits_calls (tabY_ok conFO_ok) one_fits (okL1 (by decide)) (by rfl) (by rfl) w
  rw [e] at this
  exact this
def conFT : Con := alt 38 (g0 (vW oneW)) (alt 37 (g2 (plain2 cmpV4)) (alt 40 gSer (alt 39 (g1 bdV4) conN)))
theorem conFT_ok : ConOk conFT := alt_ok Try.func38 rfl (g0_ok one_calls) (alt_ok Try.func37 rfl (plain2_ok cmp_calls) (alt_ok Try.func40 rfl gSer_ok (alt_ok Try.func39 rfl (g1_ok bd_calls) conN_ok)))
def cg1 (x : W4) (d : Bool) : Bool × Bool := (decide (cmpI x oneW > 0), d)
def oW (x : W4) : Bool × Bool := (decide x.ok, true)
theorem sin_big (x : W4) : Fits (reckon (tabOf Try.prog extY conFT true) 300 28 [vW x] [cmp true]) (.tuple #[vW ⟨0, 0, 0, 0⟩, vW ⟨0, 0, 0, 0⟩, .iface 41 (.int .i64 1)]) [cg1 x true, q2 x oneW] := ⟨by kernel_rfl, by kernel_rfl, by kernel_rfl, by kernel_rfl⟩
theorem sin_in (x : W4) : Fits (reckon (tabOf Try.prog extY conFT true) 300 28 [vW x] [cmp false]) (.tuple #[vW (ofN (Go.Fx.lo32 (serW x x 2).val)), vW (ofN (Go.Fx.hi32 (serW x x 2).val)), .nilIface]) [oW (serW x x 2), okSer x x 2, cg1 x false, q2 x oneW] := ⟨by kernel_rfl, by kernel_rfl, by kernel_rfl, by kernel_rfl⟩
theorem cos_big (x : W4) : Fits (reckon (tabOf Try.prog extY conFT true) 300 26 [vW x] [cmp true]) (.tuple #[vW ⟨0, 0, 0, 0⟩, vW ⟨0, 0, 0, 0⟩, .iface 41 (.int .i64 1)]) [cg1 x true, q2 x oneW] := ⟨by kernel_rfl, by kernel_rfl, by kernel_rfl, by kernel_rfl⟩
theorem cos_in (x : W4) : Fits (reckon (tabOf Try.prog extY conFT true) 300 26 [vW x] [cmp false]) (.tuple #[vW (ofN (Go.Fx.lo32 (serW oneW x 1).val)), vW (ofN (Go.Fx.hi32 (serW oneW x 1).val)), .nilIface]) [oW (serW oneW x 1), okSer oneW x 1, oW (serW oneW x 1), okSer oneW x 1, oW (serW oneW x 1), oW (serW oneW x 1), okSer oneW x 1, oW (serW oneW x 1), okSer oneW x 1, oW (serW oneW x 1), okSer oneW x 1, oW (serW oneW x 1), oW (serW oneW x 1), okSer oneW x 1, oW (serW oneW x 1), okSer oneW x 1, oW (serW oneW x 1), oW (serW oneW x 1), okSer oneW x 1, oW (serW oneW x 1), okSer oneW x 1, oW (serW oneW x 1), oW (serW oneW x 1), okSer oneW x 1, oW (serW oneW x 1), oW (serW oneW x 1), oW (serW oneW x 1), oW (serW oneW x 1), oW (serW oneW x 1), okSer oneW x 1, cg1 x false, q2 x oneW] := ⟨by kernel_rfl, by kernel_rfl, by kernel_rfl, by kernel_rfl⟩
theorem oneW_ok : oneW.ok := by decide
theorem oneW_nat : oneW.nat = Go.Fx.uP := by rfl
theorem cg1_iff {x : W4} (hx : x.ok) : cmpI x oneW > 0 ↔ Go.Fx.uP < x.nat := by
  have h := W4.nat_val hx
  have e : oneW.val = 452312848583266388373324160190187140051835877600158453279131187530910662656 := by rfl
  rw [uP_is]
  unfold cmpI
  rw [e, h]
  split
  · omega
  · split <;> omega
theorem serW_val {a b n : Nat} (ha : a ≤ Go.Fx.uP) (hb : b ≤ Go.Fx.uP) : (W4.of (yF a b n 29)).val = yF a b n 29 := by
  have h : 0 ≤ yF a b n 29 ∧ yF a b n 29 ≤ (a : Int) := Go.Fx.sr_bd Go.Fx.uP_pos (Go.Fx.sq_le Go.Fx.uP_pos hb) 29
  rw [uP_is] at ha
  rw [W4.val_of, Int.emod_eq_of_lt h.1 (by omega)]
/-- the bounds -/
def slN (x : W4) : Nat := Go.Fx.lo32 (Go.Fx.sS Go.Fx.uP 29 x.nat)
def shN (x : W4) : Nat := Go.Fx.hi32 (Go.Fx.sS Go.Fx.uP 29 x.nat)
def clN (x : W4) : Nat := Go.Fx.lo32 (Go.Fx.cS Go.Fx.uP 29 x.nat)
def chN (x : W4) : Nat := Go.Fx.hi32 (Go.Fx.cS Go.Fx.uP 29 x.nat)
def tooV : Value := .tuple #[vW ⟨0, 0, 0, 0⟩, vW ⟨0, 0, 0, 0⟩, .iface 41 (.int .i64 1)]
def sinV (x : W4) : Value := .tuple #[vW (ofN (slN x)), vW (ofN (shN x)), .nilIface]
def cosV (x : W4) : Value := .tuple #[vW (ofN (clN x)), vW (ofN (chN x)), .nilIface]
/-- of an angle: above 1 an error; told ahead -/
def gAng (k : W4 → Value) : Ans := fun vals s =>
  match vals, s with
  | [x], .inr (.inr (.inr (.inl d))) :: s' =>
    match w4 x, d with
    | some a, true => some (tooV, s', [(decide (Go.Fx.uP < a.nat), true), (decide a.ok, true)])
    | some a, false => some (k a, s', [(decide (Go.Fx.uP < a.nat), false), (decide a.ok, true)])
    | _, _ => none
  | _, _ => none
theorem gAng_ok {f : Nat} {k : W4 → Value} (hk : ∀ x : W4, x.ok → ∀ w, Calls Try.prog f #[vW x] w fun e w' => e = .returned (if Go.Fx.uP < x.nat then tooV else k x) ∧ Tidy w w') : AnsOk f (gAng k) := by
  intro vals s v s' lg h hl w
  unfold gAng at h
  split at h
  · rename_i x d s2
    split at h
    · rename_i a ha
      cases h
      have h1 := of_decide_eq_true (hl _ List.mem_cons_self)
      have h2 := of_decide_eq_true (hl _ (List.mem_cons_of_mem _ (List.mem_singleton.2 rfl)))
      have := hk a h2 w
      rw [if_pos h1] at this
      rw [w4_spec ha]
      exact this
    · rename_i a ha
      cases h
      have h1 := of_decide_eq_false (hl _ List.mem_cons_self)
      have h2 := of_decide_eq_true (hl _ (List.mem_cons_of_mem _ (List.mem_singleton.2 rfl)))
      have := hk a h2 w
      rw [if_neg h1] at this
      rw [w4_spec ha]
      exact this
    · cases h
  · cases h
theorem sin_calls (x : W4) (hx : x.ok) (w : World) : Calls Try.prog 28 #[vW x] w fun e w' => e = .returned (if Go.Fx.uP < x.nat then tooV else sinV x) ∧ Tidy w w' := by
  have T := tabY_ok conFT_ok
  have h2 : (q2 x oneW).1 = (q2 x oneW).2 := decide_eq_true ⟨hx, oneW_ok⟩
  by_cases c : Go.Fx.uP < x.nat
  · rw [if_pos c]
    have h1 : (cg1 x true).1 = (cg1 x true).2 := decide_eq_true ((cg1_iff hx).2 c)
    exact fits_calls T (sin_big x) (okPC h1 (okPC h2 okNil)) (by rfl) (by rfl) w
  · rw [if_neg c]
    have h1 : (cg1 x false).1 = (cg1 x false).2 := decide_eq_false fun h => c ((cg1_iff hx).1 h)
    have hl : x.nat ≤ Go.Fx.uP := by omega
    have h3 : (okSer x x 2).1 = (okSer x x 2).2 := decide_eq_true ⟨hx, hx, hl, hl, by decide, by decide⟩
    have h4 : (oW (serW x x 2)).1 = (oW (serW x x 2)).2 := decide_eq_true (W4.ok_of _)
    have e : (serW x x 2).val = Go.Fx.sS Go.Fx.uP 29 x.nat := serW_val hl hl
    have := fits_calls T (sin_in x) (okPC h4 (okPC h3 (okPC h1 (okPC h2 okNil)))) (by rfl) (by rfl) w
    rw [e] at this
    exact this
theorem cos_calls (x : W4) (hx : x.ok) (w : World) : Calls Try.prog 26 #[vW x] w fun e w' => e = .returned (if Go.Fx.uP < x.nat then tooV else cosV x) ∧ Tidy w w' := by
  have T := tabY_ok conFT_ok
  have h2 : (q2 x oneW).1 = (q2 x oneW).2 := decide_eq_true ⟨hx, oneW_ok⟩
  by_cases c : Go.Fx.uP < x.nat
  · rw [if_pos c]
    have h1 : (cg1 x true).1 = (cg1 x true).2 := decide_eq_true ((cg1_iff hx).2 c)
    exact fits_calls T (cos_big x) (okPC h1 (okPC h2 okNil)) (by rfl) (by rfl) w
  · rw [if_neg c]
    have h1 : (cg1 x false).1 = (cg1 x false).2 := decide_eq_false fun h => c ((cg1_iff hx).1 h)
    have hl : x.nat ≤ Go.Fx.uP := by omega
    have h3 : (okSer oneW x 1).1 = (okSer oneW x 1).2 := decide_eq_true ⟨oneW_ok, hx, Nat.le_of_eq oneW_nat, hl, by decide, by decide⟩
    have h4 : (oW (serW oneW x 1)).1 = (oW (serW oneW x 1)).2 := decide_eq_true (W4.ok_of _)
    have e : (serW oneW x 1).val = Go.Fx.cS Go.Fx.uP 29 x.nat := serW_val (Nat.le_of_eq oneW_nat) hl
    have := fits_calls T (cos_in x) (okPC h4 (okPC h3 (okPC h4 (okPC h3 (okPC h4 (okPC h4 (okPC h3 (okPC h4 (okPC h3 (okPC h4 (okPC h3 (okPC h4 (okPC h4 (okPC h3 (okPC h4 (okPC h3 (okPC h4 (okPC h4 (okPC h3 (okPC h4 (okPC h3 (okPC h4 (okPC h4 (okPC h3 (okPC h4 (okPC h4 (okPC h4 (okPC h4 (okPC h4 (okPC h3 (okPC h1 (okPC h2 okNil)))))))))))))))))))))))))))))))) (by rfl) (by rfl) w
    rw [e] at this
    exact this
def errF (k : Int) : Value := .iface 41 (.int .i64 k)
theorem qz_fits (a b : W4) : Fits (reckon (tabOf Try.prog extY conN true) 300 52 [vW a, vW b] [sam true]) (.tuple #[vW ⟨0, 0, 0, 0⟩, vW ⟨0, 0, 0, 0⟩, errF 5]) [(eqW b ⟨0, 0, 0, 0⟩, true)] := ⟨by kernel_rfl, by kernel_rfl, by kernel_rfl, by kernel_rfl⟩
/-- the quotient and the rest, or the error; told ahead whether it is by nothing -/
def gQZ : Ans := fun vals s =>
  match vals, s with
  | [x, y], .inr (.inr (.inr (.inl d))) :: s' =>
    match w4 x, w4 y, d with
    | some a, some b, true => some (.tuple #[vW ⟨0, 0, 0, 0⟩, vW ⟨0, 0, 0, 0⟩, errF 5], s', [(decide (b.val = 0), true), q2 a b])
    | some a, some b, false => some (qrV (W4.of (a.val / b.val)) (W4.of (a.val % b.val)), s', [(decide (b.val = 0), false), q2 a b])
    | _, _, _ => none
  | _, _ => none
theorem gQZ_ok : AnsOk 52 gQZ := by
  intro vals s v s' lg h hl w
  unfold gQZ at h
  split at h
  · split at h
    · rename_i a b ha hb
      cases h
      have h1 := of_decide_eq_true (hl _ List.mem_cons_self)
      have h2 := hl _ (List.mem_cons_of_mem _ (List.mem_singleton.2 rfl))
      simp only [q2, decide_eq_true_eq] at h2
      rw [w4_spec ha, w4_spec hb]
      have e : b = ⟨0, 0, 0, 0⟩ := W4.val_inj h2.2 ⟨z64, z64, z64, z64⟩ (h1.trans (by rfl))
      exact fits_calls (tabY_ok conN_ok) (qz_fits a b) (okP1 (eqW_iff.2 e)) (by rfl) (by rfl) w
    · rename_i a b ha hb
      cases h
      have h1 := of_decide_eq_false (hl _ List.mem_cons_self)
      have h2 := hl _ (List.mem_cons_of_mem _ (List.mem_singleton.2 rfl))
      simp only [q2, decide_eq_true_eq] at h2
      rw [w4_spec ha, w4_spec hb]
      exact divmod_calls a b h2.1 h2.2 h1 w
    · cases h
  · cases h
def conFQ : Con := alt 52 gQZ conFA
theorem conFQ_ok : ConOk conFQ := alt_ok Try.func52 rfl gQZ_ok conFA_ok
def nW1 (n : Int) : W4 := ⟨n, 0, 0, 0⟩
def foA (n : Int) : W4 := shlW (nW1 n) 192
def foQ (n d : Int) : W4 := W4.of ((foA n).val / (nW1 d).val)
def foR (n d : Int) : W4 := W4.of ((foA n).val % (nW1 d).val)
def foL (n d : Int) : W4 := W4.of ((shlW (foR n d) 56).val / (nW1 d).val)
def foW (n d : Int) : W4 := W4.of ((shlW (foQ n d) 56).val + (foL n d).val)
def zW : W4 := ⟨0, 0, 0, 0⟩
def lq1 (n d : Int) (b : Bool) : Bool × Bool := (decide (lenI (foQ n d) > 200), b)
theorem fo_zero (n d : Int) : Fits (reckon (tabOf Try.prog extY conFQ true) 300 41 [.int .u64 n, .int .u64 d] [cmp true]) (.tuple #[vW zW, errF 5]) [(decide ((nW1 d).val = 0), true), q2 (foA n) (nW1 d), qk (nW1 n) 192] := ⟨by kernel_rfl, by kernel_rfl, by kernel_rfl, by kernel_rfl⟩
theorem fo_long (n d : Int) : Fits (reckon (tabOf Try.prog extY conFQ true) 300 41 [.int .u64 n, .int .u64 d] [cmp false, cmp true]) (.tuple #[vW zW, errF 2]) [lq1 n d true, oW (foQ n d), (decide ((nW1 d).val = 0), false), q2 (foA n) (nW1 d), qk (nW1 n) 192] := ⟨by kernel_rfl, by kernel_rfl, by kernel_rfl, by kernel_rfl⟩
theorem fo_in (n d : Int) : Fits (reckon (tabOf Try.prog extY conFQ true) 300 41 [.int .u64 n, .int .u64 d] [cmp false, cmp false, cmp false]) (.tuple #[vW (foW n d), .nilIface]) [q2 (shlW (foQ n d) 56) (foL n d), qk (foQ n d) 56, (decide ((nW1 d).val = 0), false), q2 (shlW (foR n d) 56) (nW1 d), qk (foR n d) 56, lq1 n d false, oW (foQ n d), (decide ((nW1 d).val = 0), false), q2 (foA n) (nW1 d), qk (nW1 n) 192] := ⟨by kernel_rfl, by kernel_rfl, by kernel_rfl, by kernel_rfl⟩
/-- the quotient -/
def foI (n d : Int) : Int := n * 452312848583266388373324160190187140051835877600158453279131187530910662656 / d
abbrev uu (n d : Int) : Prop := (0 ≤ n ∧ n < 18446744073709551616) ∧ 0 ≤ d ∧ d < 18446744073709551616
theorem nW1_val (n : Int) : (nW1 n).val = n := by unfold nW1 W4.val; dsimp only; omega
theorem shl_ok1 (x : W4) (k : Int) (h : x.ok) : (shlW x k).ok := by
  unfold shlW
  split
  · exact h
  · split
    · exact ⟨z64, z64, z64, z64⟩
    · exact W4.ok_of _
theorem fo_num {n d : Int} (h : uu n d) (hd : d ≠ 0) : (lenI (foQ n d) > 200 ↔ 115792089237316195423570985008687907853269984665640564039457584007913129639936 ≤ foI n d) ∧ (¬ 115792089237316195423570985008687907853269984665640564039457584007913129639936 ≤ foI n d → foW n d = W4.of (foI n d)) := by
  obtain ⟨⟨n0, n1⟩, d0, d1⟩ := h
  have e192 : (2 : Int) ^ (192 : Int).toNat = 6277101735386680763835789423207666416102355444464034512896 := by rfl
  have e56 : (2 : Int) ^ (56 : Int).toNat = 72057594037927936 := by rfl
  have eA : (foA n).val = n * 6277101735386680763835789423207666416102355444464034512896 := by
    unfold foA shlW
    rw [if_neg (by decide), if_neg (by decide), W4.val_of, e192, nW1_val]
    omega
  have hdiv := Int.mul_ediv_add_emod (n * 6277101735386680763835789423207666416102355444464034512896) d
  have m0 := Int.emod_nonneg (n * 6277101735386680763835789423207666416102355444464034512896) hd
  have m1 := Int.emod_lt_of_pos (n * 6277101735386680763835789423207666416102355444464034512896) (show 0 < d by omega)
  have q0 : 0 ≤ n * 6277101735386680763835789423207666416102355444464034512896 / d := Int.ediv_nonneg (by omega) d0
  have q1 : n * 6277101735386680763835789423207666416102355444464034512896 / d ≤ n * 6277101735386680763835789423207666416102355444464034512896 := Int.ediv_le_self _ (by omega)
  have eQ : (foQ n d).val = n * 6277101735386680763835789423207666416102355444464034512896 / d := by
    unfold foQ
    rw [eA, nW1_val, W4.val_of]
    omega
  have eR : (foR n d).val = n * 6277101735386680763835789423207666416102355444464034512896 % d := by
    unfold foR
    rw [eA, nW1_val, W4.val_of]
    omega
  have eF : foI n d = n * 6277101735386680763835789423207666416102355444464034512896 / d * 72057594037927936 + n * 6277101735386680763835789423207666416102355444464034512896 % d * 72057594037927936 / d := by
    unfold foI
    generalize hq : n * 6277101735386680763835789423207666416102355444464034512896 / d = q at *
    generalize hr : n * 6277101735386680763835789423207666416102355444464034512896 % d = r at *
    have : n * 452312848583266388373324160190187140051835877600158453279131187530910662656 = q * 72057594037927936 * d + r * 72057594037927936 := by
      have e : n * 452312848583266388373324160190187140051835877600158453279131187530910662656 = n * 6277101735386680763835789423207666416102355444464034512896 * 72057594037927936 := by omega
      rw [e, ← hdiv, Int.add_mul, Int.mul_right_comm q, Int.mul_comm d q]
    rw [this, Int.add_comm, Int.add_mul_ediv_right _ _ hd, Int.add_comm]
  have f0 : 0 ≤ n * 6277101735386680763835789423207666416102355444464034512896 % d * 72057594037927936 / d := Int.ediv_nonneg (by omega) d0
  have f1 : n * 6277101735386680763835789423207666416102355444464034512896 % d * 72057594037927936 / d < 72057594037927936 := Int.ediv_lt_of_lt_mul (by omega) (by
    have := Int.mul_lt_mul_of_pos_right m1 (show (0 : Int) < 72057594037927936 by decide)
    rw [Int.mul_comm 72057594037927936]
    exact this)
  constructor
  · have g := lenI_gt (foQ n d) 200
    have p : (2 : Nat) ^ 200 = 1606938044258990275541962092341162602522202993782792835301376 := by rfl
    have e : (foQ n d).nat = (n * 6277101735386680763835789423207666416102355444464034512896 / d).toNat := by unfold W4.nat; rw [eQ]
    rw [p, e] at g
    rw [eF]
    generalize n * 6277101735386680763835789423207666416102355444464034512896 / d = q at *
    generalize n * 6277101735386680763835789423207666416102355444464034512896 % d * 72057594037927936 / d = f at *
    omega
  · intro hl
    have eS : (shlW (foR n d) 56).val = n * 6277101735386680763835789423207666416102355444464034512896 % d * 72057594037927936 := by
      unfold shlW
      rw [if_neg (by decide), if_neg (by decide), W4.val_of, e56, eR]
      omega
    have eL : (foL n d).val = n * 6277101735386680763835789423207666416102355444464034512896 % d * 72057594037927936 / d := by
      unfold foL
      rw [eS, nW1_val, W4.val_of]
      omega
    have eT : (shlW (foQ n d) 56).val = n * 6277101735386680763835789423207666416102355444464034512896 / d * 72057594037927936 := by
      unfold shlW
      rw [if_neg (by decide), if_neg (by decide), W4.val_of, e56, eQ]
      rw [eF] at hl
      generalize n * 6277101735386680763835789423207666416102355444464034512896 / d = q at *
      generalize n * 6277101735386680763835789423207666416102355444464034512896 % d * 72057594037927936 / d = f at *
      omega
    unfold foW
    rw [eT, eL, eF]
theorem nW1_ok {n : Int} (h : 0 ≤ n ∧ n < 18446744073709551616) : (nW1 n).ok := ⟨h, z64, z64, z64⟩
theorem of_zero {n d : Int} (h : uu n d) (hd : d = 0) (w : World) : Calls Try.prog 41 #[.int .u64 n, .int .u64 d] w fun e w' => e = .returned (.tuple #[vW zW, errF 5]) ∧ Tidy w w' := by
  have z : decide ((nW1 d).val = 0) = true := decide_eq_true (by rw [nW1_val]; exact hd)
  have a1 : (q2 (foA n) (nW1 d)).1 = (q2 (foA n) (nW1 d)).2 := decide_eq_true ⟨shl_ok1 _ _ (nW1_ok h.1), nW1_ok h.2⟩
  have a2 : (qk (nW1 n) 192).1 = (qk (nW1 n) 192).2 := decide_eq_true ⟨nW1_ok h.1, by decide, by decide⟩
  exact fits_calls (tabY_ok conFQ_ok) (fo_zero n d) (okPC z (okPC a1 (okP1 a2))) (by rfl) (by rfl) w
theorem of_long {n d : Int} (h : uu n d) (hd : d ≠ 0) (hl : 115792089237316195423570985008687907853269984665640564039457584007913129639936 ≤ foI n d) (w : World) : Calls Try.prog 41 #[.int .u64 n, .int .u64 d] w fun e w' => e = .returned (.tuple #[vW zW, errF 2]) ∧ Tidy w w' := by
  have z : decide ((nW1 d).val = 0) = false := decide_eq_false (by rw [nW1_val]; exact hd)
  have a1 : (q2 (foA n) (nW1 d)).1 = (q2 (foA n) (nW1 d)).2 := decide_eq_true ⟨shl_ok1 _ _ (nW1_ok h.1), nW1_ok h.2⟩
  have a2 : (qk (nW1 n) 192).1 = (qk (nW1 n) 192).2 := decide_eq_true ⟨nW1_ok h.1, by decide, by decide⟩
  have a3 : (oW (foQ n d)).1 = (oW (foQ n d)).2 := decide_eq_true (W4.ok_of _)
  have a4 : (lq1 n d true).1 = (lq1 n d true).2 := decide_eq_true ((fo_num h hd).1.2 hl)
  exact fits_calls (tabY_ok conFQ_ok) (fo_long n d) (okPC a4 (okPC a3 (okPC z (okPC a1 (okP1 a2))))) (by rfl) (by rfl) w
theorem of_in {n d : Int} (h : uu n d) (hd : d ≠ 0) (hl : ¬ 115792089237316195423570985008687907853269984665640564039457584007913129639936 ≤ foI n d) (w : World) : Calls Try.prog 41 #[.int .u64 n, .int .u64 d] w fun e w' => e = .returned (.tuple #[vW (W4.of (foI n d)), .nilIface]) ∧ Tidy w w' := by
  have z : decide ((nW1 d).val = 0) = false := decide_eq_false (by rw [nW1_val]; exact hd)
  have a1 : (q2 (foA n) (nW1 d)).1 = (q2 (foA n) (nW1 d)).2 := decide_eq_true ⟨shl_ok1 _ _ (nW1_ok h.1), nW1_ok h.2⟩
  have a2 : (qk (nW1 n) 192).1 = (qk (nW1 n) 192).2 := decide_eq_true ⟨nW1_ok h.1, by decide, by decide⟩
  have a3 : (oW (foQ n d)).1 = (oW (foQ n d)).2 := decide_eq_true (W4.ok_of _)
  have a4 : (lq1 n d false).1 = (lq1 n d false).2 := decide_eq_false fun hh => hl ((fo_num h hd).1.1 hh)
  have a5 : (qk (foR n d) 56).1 = (qk (foR n d) 56).2 := decide_eq_true ⟨W4.ok_of _, by decide, by decide⟩
  have a6 : (q2 (shlW (foR n d) 56) (nW1 d)).1 = (q2 (shlW (foR n d) 56) (nW1 d)).2 := decide_eq_true ⟨shl_ok1 _ _ (W4.ok_of _), nW1_ok h.2⟩
  have a7 : (qk (foQ n d) 56).1 = (qk (foQ n d) 56).2 := decide_eq_true ⟨W4.ok_of _, by decide, by decide⟩
  have a8 : (q2 (shlW (foQ n d) 56) (foL n d)).1 = (q2 (shlW (foQ n d) 56) (foL n d)).2 := decide_eq_true ⟨shl_ok1 _ _ (W4.ok_of _), W4.ok_of _⟩
  rw [← (fo_num h hd).2 hl]
  exact fits_calls (tabY_ok conFQ_ok) (fo_in n d) (okPC a8 (okPC a7 (okPC z (okPC a6 (okPC a5 (okPC a4 (okPC a3 (okPC z (okPC a1 (okP1 a2)))))))))) (by rfl) (by rfl) w
/-- told ahead: by nothing; too great; the quotient -/
def gFOf : Ans := fun vals s =>
  match vals, s with
  | [.int .u64 n, .int .u64 d], .inr (.inr (.inr (.inl z))) :: s' =>
    match z, s' with
    | true, _ => some (.tuple #[vW zW, errF 5], s', [(decide (d = 0), true), (decide (uu n d), true)])
    | false, .inr (.inr (.inr (.inl true))) :: s2 => some (.tuple #[vW zW, errF 2], s2, [(decide (115792089237316195423570985008687907853269984665640564039457584007913129639936 ≤ foI n d), true), (decide (d = 0), false), (decide (uu n d), true)])
    | false, .inr (.inr (.inr (.inl false))) :: s2 => some (.tuple #[vW (W4.of (foI n d)), .nilIface], s2, [(decide (115792089237316195423570985008687907853269984665640564039457584007913129639936 ≤ foI n d), false), (decide (d = 0), false), (decide (uu n d), true)])
    | _, _ => none
  | _, _ => none
theorem gFOf_ok : AnsOk 41 gFOf := by
  intro vals s v s' lg h hl w
  unfold gFOf at h
  split at h
  · rename_i n d z s1
    split at h
    · cases h
      exact of_zero (of_decide_eq_true (hl _ (List.mem_cons_of_mem _ (List.mem_singleton.2 rfl)))) (of_decide_eq_true (hl _ List.mem_cons_self)) w
    · cases h
      exact of_long (of_decide_eq_true (hl _ (List.mem_cons_of_mem _ (List.mem_cons_of_mem _ (List.mem_singleton.2 rfl))))) (of_decide_eq_false (hl _ (List.mem_cons_of_mem _ List.mem_cons_self))) (of_decide_eq_true (hl _ List.mem_cons_self)) w
    · cases h
      exact of_in (of_decide_eq_true (hl _ (List.mem_cons_of_mem _ (List.mem_cons_of_mem _ (List.mem_singleton.2 rfl))))) (of_decide_eq_false (hl _ (List.mem_cons_of_mem _ List.mem_cons_self))) (of_decide_eq_false (hl _ List.mem_cons_self)) w
    · cases h
  · cases h
/-- the product; told ahead whether it is too great -/
def gFMd : Ans := fun vals s =>
  match vals, s with
  | [x, y], .inr (.inr (.inr (.inl d))) :: s' =>
    match w4 x, w4 y with
    | some a, some b => some (.tuple #[vW (W4.of (fmI a b)), .bool d], s', [(decide (115792089237316195423570985008687907853269984665640564039457584007913129639936 ≤ fmI a b), d), q2 a b])
    | _, _ => none
  | _, _ => none
theorem gFMd_ok : AnsOk 42 gFMd := by
  intro vals s v s' lg h hl w
  unfold gFMd at h
  split at h
  · split at h
    · rename_i a b ha hb
      cases h
      have h1 := hl _ List.mem_cons_self
      have h2 := of_decide_eq_true (hl _ (List.mem_cons_of_mem _ (List.mem_singleton.2 rfl)))
      simp only at h1
      rw [w4_spec ha, w4_spec hb, ← h1]
      exact fm_calls a b h2.1 h2.2 w
    · cases h
  · cases h
end Go.Proofs.Ytdlpffgekmidnab
namespace Go.Proofs.Ytdlpffgekmidnab
open Go.KRun Go.Wd Go.Pt Go.Rn
set_option maxRecDepth 100000
/-! ### goesUp -/
theorem u0 (c m : Int) (o n : Bool) : Fits (reckon (tabOf Try.prog extY conN true) 300 34 [.int .i64 c, .bool o, .bool n, .int .i64 m] [cmp true]) (Value.bool false) [(c == 0, true)] := ⟨by kernel_rfl, by kernel_rfl, by kernel_rfl, by kernel_rfl⟩
theorem u2 (c m : Int) (o n : Bool) : Fits (reckon (tabOf Try.prog extY conN true) 300 34 [.int .i64 c, .bool o, .bool n, .int .i64 m] [cmp false, cmp true]) (Value.bool false) [(m == 2, true), (c == 0, false)] := ⟨by kernel_rfl, by kernel_rfl, by kernel_rfl, by kernel_rfl⟩
theorem u3 (c m : Int) (o n : Bool) : Fits (reckon (tabOf Try.prog extY conN true) 300 34 [.int .i64 c, .bool o, .bool n, .int .i64 m] [cmp false, cmp false, cmp true]) (Value.bool !n) [(m == 3, true), (m == 2, false), (c == 0, false)] := ⟨by kernel_rfl, by kernel_rfl, by kernel_rfl, by kernel_rfl⟩
theorem u4 (c m : Int) (o n : Bool) : Fits (reckon (tabOf Try.prog extY conN true) 300 34 [.int .i64 c, .bool o, .bool n, .int .i64 m] [cmp false, cmp false, cmp false, cmp true]) (Value.bool n) [(m == 4, true), (m == 3, false), (m == 2, false), (c == 0, false)] := ⟨by kernel_rfl, by kernel_rfl, by kernel_rfl, by kernel_rfl⟩
theorem u1 (c m : Int) (o n : Bool) : Fits (reckon (tabOf Try.prog extY conN true) 300 34 [.int .i64 c, .bool o, .bool n, .int .i64 m] [cmp false, cmp false, cmp false, cmp false, cmp true]) (Value.bool (decide (c ≥ 2))) [(m == 1, true), (m == 4, false), (m == 3, false), (m == 2, false), (c == 0, false)] := ⟨by kernel_rfl, by kernel_rfl, by kernel_rfl, by kernel_rfl⟩
theorem ua (c m : Int) (o n : Bool) : Fits (reckon (tabOf Try.prog extY conN true) 300 34 [.int .i64 c, .bool o, .bool n, .int .i64 m] [cmp false, cmp false, cmp false, cmp false, cmp false, cmp true]) (Value.bool true) [(decide (c > 2), true), (m == 1, false), (m == 4, false), (m == 3, false), (m == 2, false), (c == 0, false)] := ⟨by kernel_rfl, by kernel_rfl, by kernel_rfl, by kernel_rfl⟩
theorem ub (c m : Int) (o n : Bool) : Fits (reckon (tabOf Try.prog extY conN true) 300 34 [.int .i64 c, .bool o, .bool n, .int .i64 m] [cmp false, cmp false, cmp false, cmp false, cmp false, cmp false, cmp true]) (Value.bool o) [(c == 2, true), (decide (c > 2), false), (m == 1, false), (m == 4, false), (m == 3, false), (m == 2, false), (c == 0, false)] := ⟨by kernel_rfl, by kernel_rfl, by kernel_rfl, by kernel_rfl⟩
theorem uc (c m : Int) (o n : Bool) : Fits (reckon (tabOf Try.prog extY conN true) 300 34 [.int .i64 c, .bool o, .bool n, .int .i64 m] [cmp false, cmp false, cmp false, cmp false, cmp false, cmp false, cmp false]) (Value.bool false) [(c == 2, false), (decide (c > 2), false), (m == 1, false), (m == 4, false), (m == 3, false), (m == 2, false), (c == 0, false)] := ⟨by kernel_rfl, by kernel_rfl, by kernel_rfl, by kernel_rfl⟩
def gUp : Ans := fun vals s =>
  match vals with
  | [.int .i64 c, .bool o, .bool n, .int .i64 m] => some (.bool (upR m n o c), s, [])
  | _ => none
theorem up_calls (c m : Int) (o n : Bool) (w : World) : Calls Try.prog 34 #[.int .i64 c, .bool o, .bool n, .int .i64 m] w fun e w' => e = .returned (.bool (upR m n o c)) ∧ Tidy w w' := by
  unfold upR
  by_cases h0 : c = 0
  · rw [if_pos h0]
    exact fits_calls (tabY_ok conN_ok) (u0 c m o n) (by simp [okCs, okNl, h0]) (by rfl) (by rfl) w
  · rw [if_neg h0]
    by_cases h2 : m = 2
    · rw [if_pos h2]
      exact fits_calls (tabY_ok conN_ok) (u2 c m o n) (by simp [okCs, okNl, h0, h2]) (by rfl) (by rfl) w
    · rw [if_neg h2]
      by_cases h3 : m = 3
      · rw [if_pos h3]
        exact fits_calls (tabY_ok conN_ok) (u3 c m o n) (by simp [okCs, okNl, h0, h3]) (by rfl) (by rfl) w
      · rw [if_neg h3]
        by_cases h4 : m = 4
        · rw [if_pos h4]
          exact fits_calls (tabY_ok conN_ok) (u4 c m o n) (by simp [okCs, okNl, h0, h4]) (by rfl) (by rfl) w
        · rw [if_neg h4]
          by_cases h1 : m = 1
          · rw [if_pos h1]
            exact fits_calls (tabY_ok conN_ok) (u1 c m o n) (by simp [okCs, okNl, h0, h1]) (by rfl) (by rfl) w
          · rw [if_neg h1]
            by_cases ha : 2 < c
            · have e : (decide (2 < c) || (decide (c = 2) && o)) = true := by simp [ha]
              rw [e]
              exact fits_calls (tabY_ok conN_ok) (ua c m o n) (by simp [okCs, okNl, h0, h1, h2, h3, h4, ha]) (by rfl) (by rfl) w
            · by_cases hb : c = 2
              · have e : (decide (2 < c) || (decide (c = 2) && o)) = o := by simp [hb]
                rw [e]
                exact fits_calls (tabY_ok conN_ok) (ub c m o n) (by simp [okCs, okNl, h1, h2, h3, h4, hb]) (by rfl) (by rfl) w
              · have e : (decide (2 < c) || (decide (c = 2) && o)) = false := by simp [ha, hb]
                rw [e]
                exact fits_calls (tabY_ok conN_ok) (uc c m o n) (by simp [okCs, okNl, h0, h1, h2, h3, h4, hb]; omega) (by rfl) (by rfl) w
theorem gUp_ok : AnsOk 34 gUp := by
  intro vals s v s' lg h hl w
  unfold gUp at h
  split at h
  · cases h; exact up_calls _ _ _ _ w
  · cases h
/-! ### what is known of wide -/
def conW : Con := alt 31 (g1n (plain1n shlV4)) (alt 45 (g1n shrB) (alt 35 (g1n (plain1n bitV4)) (alt 30 (g1 lenV4) (alt 46 (g2 (plain2 addV4)) conN))))
theorem conW_ok : ConOk conW := alt_ok Try.func31 rfl (plain1n_ok shl_calls) (alt_ok Try.func45 rfl shrB_ok (alt_ok Try.func35 rfl (plain1n_ok bit_calls) (alt_ok Try.func30 rfl (g1_ok wlen_calls) (alt_ok Try.func46 rfl (plain2_ok add_calls) conN_ok))))
theorem shlW_nat {x : W4} (hx : x.ok) {n : Int} (hn : 0 ≤ n) : shlW x n = ofN (x.nat * 2 ^ n.toNat) := by
  unfold shlW
  by_cases h1 : n < 1
  · have : n = 0 := by omega
    subst this
    rw [if_pos h1]
    simp [ofN_self hx]
  · rw [if_neg h1]
    by_cases h2 : 256 ≤ n
    · rw [if_pos h2, ofN_big (by omega)]
    · rw [if_neg h2, W4.nat_val hx, cast_pow]
      unfold ofN
      congr 1
theorem shrW_nat {x : W4} (hx : x.ok) {n : Int} (hn : 0 ≤ n) : shrW x n = ofN (x.nat / 2 ^ n.toNat) := by
  unfold shrW
  by_cases h1 : n < 1
  · have : n = 0 := by omega
    subst this
    rw [if_pos h1]
    simp [ofN_self hx]
  · rw [if_neg h1]
    by_cases h2 : 256 ≤ n
    · rw [if_pos h2, small_div (W4.nat_lt hx) (by omega), ofN_zero]
    · rw [if_neg h2, W4.nat_val hx, cast_pow]
      unfold ofN
      congr 1
theorem shrL_nat {x : W4} (hx : x.ok) {n : Int} (hn : 0 ≤ n) : shrL x n = decide (x.nat % 2 ^ n.toNat ≠ 0) := by
  unfold shrL
  by_cases h1 : n < 1
  · have : n = 0 := by omega
    subst this
    rw [if_pos h1]
    simp [Nat.mod_one]
  · rw [if_neg h1]
    by_cases h2 : 256 ≤ n
    · rw [if_pos h2, small_mod (W4.nat_lt hx) (by omega), W4.nat_val hx]
      congr 1
      simp
    · rw [if_neg h2, W4.nat_val hx, cast_pow]
      congr 1
      have : ((x.nat : Int) % ((2 ^ n.toNat : Nat) : Int)) = ((x.nat % 2 ^ n.toNat : Nat) : Int) := rfl
      rw [this]
      simp only [ne_eq, eq_iff_iff]
      omega
theorem bitI_nat {x : W4} (hx : x.ok) {n : Int} (hn : 0 ≤ n) : bitI x n = ((x.nat / 2 ^ n.toNat % 2 : Nat) : Int) := by
  unfold bitI
  rw [if_neg (by omega)]
  by_cases h2 : 256 ≤ n
  · rw [if_pos h2, small_div (W4.nat_lt hx) (by omega)]
    rfl
  · rw [if_neg h2, W4.nat_val hx, cast_pow]
    rfl
/-! ### halves -/
def hv (x : W4) (b : Bool) : W4 := match b with | true => ⟨bOr (shlW x 1).a 1, (shlW x 1).b, (shlW x 1).c, (shlW x 1).d⟩ | false => shlW x 1
def lOne (x : W4) : Bool × Bool := (decide (x.ok ∧ (-9223372036854775808 : Int) ≤ 1 ∧ (1 : Int) ≤ 9223372036854775807), true)
theorem hv_fits (x : W4) (b : Bool) : Fits (reckon (tabOf Try.prog extY conW true) 300 32 [vW x, .bool b] []) (vW (hv x b)) [lOne x] := by
  cases b <;> exact ⟨by kernel_rfl, by kernel_rfl, by kernel_rfl, by kernel_rfl⟩
theorem bOr_comm (x y : Int) : bOr x y = bOr y x := by unfold bOr; rw [BitVec.or_comm]
theorem hv_eq {x : W4} (hx : x.ok) (b : Bool) : hv x b = ofN (tw x b) := by
  have e1 := shlW_nat hx (n := 1) (by omega)
  have e2 : x.nat * 2 ^ (1 : Int).toNat = 2 * x.nat := by simp [Nat.mul_comm]
  rw [e2] at e1
  cases b
  · unfold hv tw
    simp only [Nat.add_zero]
    exact e1
  · unfold hv tw
    simp only
    rw [e1]
    have e3 : bOr (ofN (2 * x.nat)).a 1 = (ofN (2 * x.nat)).a + 1 := by
      have hb : 0 ≤ (ofN (2 * x.nat)).a ∧ (ofN (2 * x.nat)).a < 18446744073709551616 := (ofN_ok _).1
      have hev : (ofN (2 * x.nat)).a % 2 = 0 := by unfold ofN W4.of; dsimp only; omega
      rw [bOr_comm, or_low 1 (z := (ofN (2 * x.nat)).a / 2) (by omega) (by omega) (by omega) (by decide) (by omega)]
    rw [e3]
    unfold ofN W4.of
    refine W4.ext' ?_ ?_ ?_ ?_ <;> dsimp only <;> omega
def gHv : Ans := fun vals s =>
  match vals with
  | [x, .bool b] =>
    match w4 x with
    | some a => some (vW (ofN (tw a b)), s, [(decide a.ok, true)])
    | none => none
  | _ => none
theorem gHv_ok : AnsOk 32 gHv := by
  intro vals s v s' lg h hl w
  unfold gHv at h
  split at h
  · split at h
    · rename_i a ha
      cases h
      have h1 : a.ok := of_decide_eq_true (hl _ (List.mem_singleton.2 rfl))
      rw [w4_spec ha, ← hv_eq h1]
      exact fits_calls (tabY_ok conW_ok) (hv_fits a _) (okL1 (decide_eq_true ⟨h1, by omega, by omega⟩)) (by rfl) (by rfl) w
    · cases h
  · cases h
def conH : Con := alt 32 gHv conW
theorem conH_ok : ConOk conH := alt_ok Try.func32 rfl gHv_ok conW_ok
/-! ### numbers -/
def vN (n : Bool) (e : Int) (x : W4) (b : Bool) : Value := .agg #[.bool n, .int .i64 e, .int .u64 x.a, .int .u64 x.b, .int .u64 x.c, .int .u64 x.d, .bool b]
def n7 : Value → Option (Bool × Int × W4 × Bool)
  | .agg cs =>
    match cs.toList with
    | [.bool n, .int .i64 e, .int .u64 a, .int .u64 b, .int .u64 c, .int .u64 d, .bool m] => some (n, e, ⟨a, b, c, d⟩, m)
    | _ => none
  | _ => none
theorem n7_spec {v : Value} {n m : Bool} {e : Int} {x : W4} (h : n7 v = some (n, e, x, m)) : v = vN n e x m := by
  unfold n7 at h
  split at h
  · rename_i cs
    split at h
    · rename_i a b c d hc
      cases h
      obtain ⟨l⟩ := cs
      simp only at hc
      subst hc
      rfl
    · cases h
  · cases h
/-! ### cut -/
def lok (x : W4) (n : Int) : Bool × Bool := (decide (x.ok ∧ -9223372036854775808 ≤ n ∧ n ≤ 9223372036854775807), true)
def dnI (ex e : Int) : Int := IntKind.i64.wrap (e - ex)
def dn1 (ex e : Int) : Int := IntKind.i64.wrap (IntKind.i64.wrap (e - ex) - 1)
def ctV (x : W4) (ex e c : Int) : Value := .tuple #[vW (shrW x (dnI ex e)), .int .i64 c]
theorem ct0 (n : Bool) (x : W4) (ex e : Int) : Fits (reckon (tabOf Try.prog extY conH true) 300 33 [vN n ex x false, .int .i64 e] [cmp false]) (ctV x ex e 0) [lok x (dnI ex e), (shrL x (dnI ex e), false)] := ⟨by kernel_rfl, by kernel_rfl, by kernel_rfl, by kernel_rfl⟩
theorem ct1 (n : Bool) (x : W4) (ex e : Int) : Fits (reckon (tabOf Try.prog extY conH true) 300 33 [vN n ex x true, .int .i64 e] [cmp false, cmp true]) (ctV x ex e 2) [(dnI ex e == 0, true), lok x (dnI ex e), (shrL x (dnI ex e), false)] := ⟨by kernel_rfl, by kernel_rfl, by kernel_rfl, by kernel_rfl⟩
theorem ct2 (n : Bool) (x : W4) (ex e : Int) (d : Bool) : Fits (reckon (tabOf Try.prog extY conH true) 300 33 [vN n ex x true, .int .i64 e] [cmp false, cmp false, cmp d]) (ctV x ex e (match d with | true => 1 | false => 3)) [(bitI x (dn1 ex e) == 0, d), lok x (dn1 ex e), (dnI ex e == 0, false), lok x (dnI ex e), (shrL x (dnI ex e), false)] := by
  cases d <;> exact ⟨by kernel_rfl, by kernel_rfl, by kernel_rfl, by kernel_rfl⟩
theorem ct4 (n b : Bool) (x : W4) (ex e : Int) : Fits (reckon (tabOf Try.prog extY conH true) 300 33 [vN n ex x b, .int .i64 e] [cmp true, cmp false, cmp true]) (ctV x ex e 1) [(bitI x (dn1 ex e) == 0, true), lok x (dn1 ex e), (dnI ex e == 0, false), lok x (dnI ex e), (shrL x (dnI ex e), true)] := ⟨by kernel_rfl, by kernel_rfl, by kernel_rfl, by kernel_rfl⟩
theorem ct5 (n : Bool) (x : W4) (ex e : Int) : Fits (reckon (tabOf Try.prog extY conH true) 300 33 [vN n ex x true, .int .i64 e] [cmp true, cmp false, cmp false]) (ctV x ex e 3) [(bitI x (dn1 ex e) == 0, false), lok x (dn1 ex e), (dnI ex e == 0, false), lok x (dnI ex e), (shrL x (dnI ex e), true)] := ⟨by kernel_rfl, by kernel_rfl, by kernel_rfl, by kernel_rfl⟩
def bkW (x : W4) (ex e : Int) : W4 := shlW (ofN (tw (shrW x (dnI ex e)) true)) (dn1 ex e)
theorem ct6 (n : Bool) (x : W4) (ex e : Int) (d : Bool) : Fits (reckon (tabOf Try.prog extY conH true) 300 33 [vN n ex x false, .int .i64 e] [cmp true, cmp false, cmp false, sam d]) (ctV x ex e (match d with | true => 3 | false => 2)) [(!(eqW x (bkW x ex e)), d), lok (ofN (tw (shrW x (dnI ex e)) true)) (dn1 ex e), (decide (shrW x (dnI ex e)).ok, true), (bitI x (dn1 ex e) == 0, false), lok x (dn1 ex e), (dnI ex e == 0, false), lok x (dnI ex e), (shrL x (dnI ex e), true)] := by
  cases d <;> exact ⟨by kernel_rfl, by kernel_rfl, by kernel_rfl, by kernel_rfl⟩
def cutT (x : W4) (b : Bool) (d : Nat) : Value := .tuple #[vW (ofN (tw x b / 2 ^ (d + 1))), .int .i64 (restC (tw x b % 2 ^ (d + 1)) (2 ^ (d + 1)))]
theorem lok_ok {x : W4} {n : Int} (h : x.ok) (h0 : -9223372036854775808 ≤ n) (h1 : n ≤ 9223372036854775807) : decide (x.ok ∧ -9223372036854775808 ≤ n ∧ n ≤ 9223372036854775807) = true := decide_eq_true ⟨h, h0, h1⟩
theorem cut_calls (n b : Bool) (x : W4) (ex e : Int) (hx : x.ok) (h1 : -4000 ≤ ex) (h2 : ex ≤ e) (h3 : e ≤ 4000) (w : World) : Calls Try.prog 33 #[vN n ex x b, .int .i64 e] w fun r w' => r = .returned (cutT x b (e - ex).toNat) ∧ Tidy w w' := by
  obtain ⟨d, hd⟩ : ∃ d : Nat, e - ex = (d : Int) := ⟨(e - ex).toNat, by omega⟩
  have e1 : dnI ex e = (d : Int) := by unfold dnI; rw [wrapI' ⟨by omega, by omega⟩, hd]
  have e2 : dn1 ex e = (d : Int) - 1 := by
    unfold dn1
    rw [wrapI' (n := e - ex) ⟨by omega, by omega⟩, hd, wrapI' ⟨by omega, by omega⟩]
  have eV : ∀ c, c = restC (tw x b % 2 ^ (d + 1)) (2 ^ (d + 1)) → ctV x ex e c = cutT x b (e - ex).toNat := fun c hc => by
    unfold ctV cutT
    rw [e1, shrW_nat hx (by omega), hd, Int.toNat_natCast, tw_div, hc]
  have k1 : decide (x.ok ∧ -9223372036854775808 ≤ dnI ex e ∧ dnI ex e ≤ 9223372036854775807) = true := lok_ok hx (by omega) (by omega)
  have k2 : decide (x.ok ∧ -9223372036854775808 ≤ dn1 ex e ∧ dn1 ex e ≤ 9223372036854775807) = true := lok_ok hx (by omega) (by omega)
  have kl : shrL x (dnI ex e) = decide (x.nat % 2 ^ d ≠ 0) := by rw [e1, shrL_nat hx (by omega), Int.toNat_natCast]
  have hv : ([vN n ex x b, .int .i64 e].all (lt 0)) = true := rfl
  by_cases hl : x.nat % 2 ^ d = 0
  · have kf : shrL x (dnI ex e) = false := by rw [kl]; simp [hl]
    cases b
    · rw [← eV 0 (by rw [rc_none hl])]
      exact fits_calls (tabY_ok conH_ok) (ct0 n x ex e) (okCons k1 (okL1 kf)) hv (by rfl) w
    · cases d with
      | zero =>
        rw [← eV 2 (by rw [rc_zero])]
        exact fits_calls (tabY_ok conH_ok) (ct1 n x ex e) (okCons (by rw [e1]; rfl) (okCons k1 (okL1 kf))) hv (by rfl) w
      | succ j =>
        have k0 : (dnI ex e == 0) = false := by rw [e1]; simp; omega
        have e3 : dn1 ex e = (j : Int) := by rw [e2]; omega
        have kb : bitI x (dn1 ex e) = ((x.nat / 2 ^ j % 2 : Nat) : Int) := by rw [e3, bitI_nat hx (by omega), Int.toNat_natCast]
        by_cases hb : x.nat / 2 ^ j % 2 = 0
        · rw [← eV 1 (by rw [rc_below hb (.inr rfl)])]
          exact fits_calls (tabY_ok conH_ok) (ct2 n x ex e true) (okCons (by rw [kb, hb]; rfl) (okCons k2 (okCons k0 (okCons k1 (okL1 kf))))) hv (by rfl) w
        · have hb' : x.nat / 2 ^ j % 2 = 1 := by omega
          rw [← eV 3 (by rw [rc_above hb' (.inr rfl)])]
          exact fits_calls (tabY_ok conH_ok) (ct2 n x ex e false) (okCons (by rw [kb, hb']; rfl) (okCons k2 (okCons k0 (okCons k1 (okL1 kf))))) hv (by rfl) w
  · have kf : shrL x (dnI ex e) = true := by rw [kl]; simp [hl]
    cases d with
    | zero => exact absurd (by simp [Nat.mod_one]) hl
    | succ j =>
      have k0 : (dnI ex e == 0) = false := by rw [e1]; simp; omega
      have e3 : dn1 ex e = (j : Int) := by rw [e2]; omega
      have kb : bitI x (dn1 ex e) = ((x.nat / 2 ^ j % 2 : Nat) : Int) := by rw [e3, bitI_nat hx (by omega), Int.toNat_natCast]
      by_cases hb : x.nat / 2 ^ j % 2 = 0
      · rw [← eV 1 (by rw [rc_below hb (.inl hl)])]
        exact fits_calls (tabY_ok conH_ok) (ct4 n b x ex e) (okCons (by rw [kb, hb]; rfl) (okCons k2 (okCons k0 (okCons k1 (okL1 kf))))) hv (by rfl) w
      · have hb' : x.nat / 2 ^ j % 2 = 1 := by omega
        cases b
        · have hs : shrW x (dnI ex e) = ofN (x.nat / 2 ^ (j + 1)) := by rw [e1, shrW_nat hx (by omega), Int.toNat_natCast]
          have hlt := W4.nat_lt hx
          have hle : x.nat / 2 ^ (j + 1) ≤ x.nat := Nat.div_le_self _ _
          have hle2 : 2 * (x.nat / 2 ^ (j + 1)) ≤ x.nat := by
            have := Nat.div_mul_le_self x.nat (2 ^ (j + 1))
            have hp : 0 < 2 ^ j := Nat.pow_pos (by omega)
            have h9 : 2 * (x.nat / 2 ^ (j + 1)) ≤ x.nat / 2 ^ (j + 1) * 2 ^ (j + 1) := by
              rw [Nat.mul_comm 2, Nat.pow_succ]
              exact Nat.mul_le_mul_left _ (by omega)
            omega
          have ht : tw (shrW x (dnI ex e)) true = 2 * (x.nat / 2 ^ (j + 1)) + 1 := by
            unfold tw
            rw [hs, ofN_nat (by omega)]
          have hk : bkW x ex e = ofN ((2 * (x.nat / 2 ^ (j + 1)) + 1) * 2 ^ j) := by
            unfold bkW
            have e256 : (2 : Nat) ^ 256 = 115792089237316195423570985008687907853269984665640564039457584007913129639936 := rfl
            rw [ht, e3, shlW_nat (ofN_ok _) (by omega), Int.toNat_natCast, ofN_nat (by omega)]
          have kq : eqW x (bkW x ex e) = decide (x.nat % 2 ^ j = 0) := by rw [hk, back_iff hx hb']
          have kok : decide ((ofN (tw (shrW x (dnI ex e)) true)).ok ∧ -9223372036854775808 ≤ dn1 ex e ∧ dn1 ex e ≤ 9223372036854775807) = true := lok_ok (ofN_ok _) (by omega) (by omega)
          have ks : decide (shrW x (dnI ex e)).ok = true := by rw [hs]; exact decide_eq_true (ofN_ok _)
          by_cases hz : x.nat % 2 ^ j = 0
          · rw [← eV 2 (by rw [rc_half hb' hz])]
            exact fits_calls (tabY_ok conH_ok) (ct6 n x ex e false) (okCons (by rw [kq, decide_eq_true hz]; rfl) (okCons kok (okCons ks (okCons (by rw [kb, hb']; rfl) (okCons k2 (okCons k0 (okCons k1 (okL1 kf)))))))) hv (by rfl) w
          · rw [← eV 3 (by rw [rc_above hb' (.inl hz)])]
            exact fits_calls (tabY_ok conH_ok) (ct6 n x ex e true) (okCons (by rw [kq, decide_eq_false hz]; rfl) (okCons kok (okCons ks (okCons (by rw [kb, hb']; rfl) (okCons k2 (okCons k0 (okCons k1 (okL1 kf)))))))) hv (by rfl) w
        · rw [← eV 3 (by rw [rc_above hb' (.inr rfl)])]
          exact fits_calls (tabY_ok conH_ok) (ct5 n x ex e) (okCons (by rw [kb, hb']; rfl) (okCons k2 (okCons k0 (okCons k1 (okL1 kf))))) hv (by rfl) w
/-- what cut asks of its numbers -/
def okCut (x : W4) (ex e : Int) : Bool := decide (x.ok ∧ -4000 ≤ ex ∧ ex ≤ e ∧ e ≤ 4000)
def gCut : Ans := fun vals s =>
  match vals with
  | [v, .int .i64 e] =>
    match n7 v with
    | some (_, ex, x, b) => some (cutT x b (e - ex).toNat, s, [(okCut x ex e, true)])
    | none => none
  | _ => none
theorem gCut_ok : AnsOk 33 gCut := by
  intro vals s v s' lg h hl w
  unfold gCut at h
  split at h
  · split at h
    · rename_i n ex x b hn
      cases h
      have h1 := of_decide_eq_true (hl _ (List.mem_singleton.2 rfl))
      rw [n7_spec hn]
      exact cut_calls n b x ex _ h1.1 h1.2.1 h1.2.2.1 h1.2.2.2 w
    · cases h
  · cases h
def conC : Con := alt 34 gUp (alt 33 gCut conH)
theorem conC_ok : ConOk conC := alt_ok Try.func34 rfl gUp_ok (alt_ok Try.func33 rfl gCut_ok conH_ok)
end Go.Proofs.Ytdlpffgekmidnab
