/-
  The two ways through tillerlaw01.WideParts: a divisor that is not 0, and 0.
-/
import Derived.Test.YtdahpclbjeeeiaaDoorPartsA
namespace Go.Proofs.YtdahpclbjeeeiaaDoor
open Go.KRun Go.Wd Go.RowKit
set_option maxRecDepth 100000

def z4 : W4 := ⟨0, 0, 0, 0⟩
/-! ### a divisor that is not 0 -/
def nz2 (a b : W4) : Bool × Bool := (decide (a.ok ∧ b.ok ∧ b.val ≠ 0), true)
def gQR : Ans := fun vals s =>
  match vals with
  | [x, y] =>
    match w4 x, w4 y with
    | some a, some b => some (qrV (W4.of (a.val / b.val)) (W4.of (a.val % b.val)), s, [nz2 a b])
    | _, _ => none
  | _ => none
theorem gQR_ok : AnsOk 4 gQR := by
  intro vals s v s' lg h hl w
  unfold gQR at h
  split at h
  · split at h
    · rename_i a b ha hb
      cases h
      have h1 := hl _ (List.mem_singleton.2 rfl)
      simp only [nz2, decide_eq_true_eq] at h1
      rw [w4_spec ha, w4_spec hb]
      exact divmod_calls a b h1.1 h1.2.1 h1.2.2 w
    · cases h
  · cases h
def ovr (x y : W4) : Bool := decide (115792089237316195423570985008687907853269984665640564039457584007913129639936 ≤ x.val + y.val)
def addN : W4 → W4 → List Dec → Option (Value × List Dec × Log) := fun x y s => some (.tuple #[vW (W4.of (x.val + y.val)), .bool (pickC (ovr x y) s).1], (pickC (ovr x y) s).2.1, (pickC (ovr x y) s).2.2)
theorem addN_ok {f : Nat} (hk : ∀ x y : W4, x.ok → y.ok → ∀ w, Calls Tryd.prog f #[vW x, vW y] w fun e w' => e = .returned (addV4 x y) ∧ Tidy w w') : AnsOk f (g2 addN) := g2_ok fun x y hx hy s v s' lg h hl w => by
  unfold addN at h
  cases h
  rw [pickC_ok hl]
  exact hk x y hx hy w
def conP : Con := alt 4 gQR (alt 7 (g2 (plain2 mulV4)) (alt 8 (g2 addN) (alt 9 (g2 (plain2 cmpV4)) (alt 6 gSure conN))))
theorem conP_ok : ConOk conP := alt_ok Tryd.func4 rfl gQR_ok (alt_ok Tryd.func7 rfl (plain2_ok rmul_calls) (alt_ok Tryd.func8 rfl (addN_ok radd_calls) (alt_ok Tryd.func9 rfl (plain2_ok rcmp_calls) (alt_ok Tryd.func6 rfl gSure_ok conN_ok))))
/-- the quotient, the rest, their product with the divisor, its high part, the product and the rest -/
def pq (a b : W4) : W4 := W4.of (a.val / b.val)
def pr (a b : W4) : W4 := W4.of (a.val % b.val)
def px (a b : W4) : W4 := W4.of ((pq a b).val * b.val)
def ph (a b : W4) : W4 := W4.of ((pq a b).val * b.val / 115792089237316195423570985008687907853269984665640564039457584007913129639936)
def py (a b : W4) : W4 := W4.of ((px a b).val + (pr a b).val)
def l2 (x y : W4) : Bool × Bool := (decide (x.ok ∧ y.ok), true)
def lgP (a b : W4) : Log := [(decide (cmpI (pr a b) b < 0), true), l2 (pr a b) b, (eqW (py a b) a, true), (eqW (ph a b) z4, true), l2 (px a b) (pr a b), (ovr (px a b) (pr a b), false), l2 (pq a b) b, (eqW b z4, false), nz2 a b]
theorem lawP (a b : W4) : Fits (reckon (tabOf Tryd.prog extY conP true) 3000 3 [vW a, vW b] [sam false, cmp false, sam true, sam true, cmp true]) (.bool true) (lgP a b) := ⟨by kernel_rfl, by kernel_rfl, by kernel_rfl, by kernel_rfl⟩
theorem factsP (a b : W4) (ha : a.ok) (hb : b.ok) (hz : b.val ≠ 0) : okLog (lgP a b) := by
  have ba := W4.val_bd ha
  have bb := W4.val_bd hb
  have q0 : 0 ≤ a.val / b.val := Int.ediv_nonneg ba.1 bb.1
  have q9 : a.val / b.val ≤ a.val := Int.ediv_le_self _ ba.1
  have r0 := Int.emod_nonneg a.val hz
  have r9 := Int.emod_lt_of_pos a.val (show 0 < b.val by omega)
  have dm := Int.mul_ediv_add_emod a.val b.val
  rw [Int.mul_comm] at dm
  have m0 : 0 ≤ a.val / b.val * b.val := Int.mul_nonneg q0 bb.1
  have e1 : (pq a b).val = a.val / b.val := by unfold pq; rw [W4.val_of, Int.emod_eq_of_lt q0 (by omega)]
  have e2 : (pr a b).val = a.val % b.val := by unfold pr; rw [W4.val_of, Int.emod_eq_of_lt r0 (by omega)]
  have e3 : (px a b).val = a.val / b.val * b.val := by unfold px; rw [e1, W4.val_of, Int.emod_eq_of_lt m0 (by omega)]
  have e4 : ph a b = z4 := by
    unfold ph
    rw [e1, Int.ediv_eq_zero_of_lt m0 (by omega)]
    rfl
  have e5 : py a b = a := by
    unfold py
    rw [e2, e3, dm]
    exact W4.of_val ha
  have c : cmpI (pr a b) b < 0 := by
    unfold cmpI
    rw [e2, if_pos r9]
    omega
  have o : ovr (px a b) (pr a b) = false := decide_eq_false (by rw [e2, e3]; omega)
  have nb : eqW b z4 = false := by
    cases h : eqW b z4
    · rfl
    · rw [eqW_iff.1 h] at hz; exact absurd rfl hz
  exact okCons (decide_eq_true c) (okCons (decide_eq_true ⟨W4.ok_of _, hb⟩) (okCons (eqW_iff.2 e5) (okCons (eqW_iff.2 e4) (okCons (decide_eq_true ⟨W4.ok_of _, W4.ok_of _⟩) (okCons o (okCons (decide_eq_true ⟨W4.ok_of _, hb⟩) (okCons nb (okL1 (decide_eq_true ⟨ha, hb, hz⟩)))))))))
theorem walkP (a b : W4) (ha : a.ok) (hb : b.ok) (hz : b.val ≠ 0) (w : World) : Calls Tryd.prog 3 #[vW a, vW b] w fun e w' => e = .returned (.bool true) ∧ Tidy w w' :=
  fits_calls (tabY_ok conP_ok) (lawP a b) (factsP a b ha hb hz) (by rfl) (by rfl) w
/-! ### by 0 -/
def eZ : Value := .iface 38 (.int .i64 5)
def tZ : Value := .tuple #[vW z4, vW z4, eZ]
theorem dm_zero (a : W4) : Fits (reckon (tabOf Tryd.prog extY conN true) 500 4 [vW a, vW z4] []) tZ [] := ⟨by kernel_rfl, by kernel_rfl, by kernel_rfl, by kernel_rfl⟩
def gZ : Ans := fun vals s =>
  match vals with
  | [x, y] =>
    match w4 x, w4 y with
    | some _, some b => some (tZ, s, [(eqW b z4, true)])
    | _, _ => none
  | _ => none
theorem gZ_ok : AnsOk 4 gZ := by
  intro vals s v s' lg h hl w
  unfold gZ at h
  split at h
  · split at h
    · rename_i a b ha hb
      cases h
      have h1 := hl _ (List.mem_singleton.2 rfl)
      simp only at h1
      rw [eqW_iff.1 h1] at hb
      rw [w4_spec ha, w4_spec hb]
      exact fits_calls (tabY_ok conN_ok) (dm_zero a) okNil (by rfl) (by rfl) w
    · cases h
  · cases h
def conZ0 : Con := alt 4 gZ (alt 6 gSure conN)
theorem conZ0_ok : ConOk conZ0 := alt_ok Tryd.func4 rfl gZ_ok (alt_ok Tryd.func6 rfl gSure_ok conN_ok)
def rOps : Code → Array Oper
  | .region _ ops _ => ops
  | _ => #[]
def wPre (F : Func) : List Code := [cFst (cBody F), cFst (cSnd (cBody F))]
def wTwo (F : Func) : Code := cFst (cFst (cSnd (cSnd (cBody F))))
def wYes : Code → Code
  | .cond _ c _ => c
  | c => c
def wAns (F : Func) : Array Oper := rOps (cFst (wYes (cSnd (cFst (cSnd (cSnd (cBody F)))))))
def wEnd (F : Func) : Code := cSnd (cSnd (cSnd (cBody F)))
theorem parts_body : Tryd.f3.body = some (seqs (wPre Tryd.f3) (.seq (.seq (wTwo Tryd.f3) (.cond (.tmp 21) (.seq (.region 3 (wAns Tryd.f3) false) .ret) .skip)) (wEnd Tryd.f3))) := by kernel_rfl
def eA (x : W4) : List Value × TypeId := ([.int .u64 x.a, .int .u64 x.b, .int .u64 x.c, .int .u64 x.d], 23)
def eW (x : W4) : List Value × TypeId := ([.int .u64 x.a, .int .u64 x.b, .int .u64 x.c, .int .u64 x.d], 24)
def zHp (a : W4) : Hp := ⟨4, [eW z4, eW z4, eA z4, eA a]⟩
def zT (a : W4) : List Value := [vW a, vW z4, t_ 0, t_ 1, .bool false, t_ 2, t_ 3, eZ, undef, undef, undef, undef, tZ, vW a, vW z4, tZ, vW z4, vW z4, eZ]
theorem zero_pre (a : W4) : GoesT (evL (tabOf Tryd.prog extY conZ0 true) 500 (wPre Tryd.f3) ([vW a, vW z4] ++ List.replicate 73 undef, ⟨0, []⟩, []) ⟨[], [], []⟩) 75 0 none (zT a ++ List.replicate 56 undef) (zHp a) [(eqW z4 z4, true)] := ⟨by kernel_rfl, by kernel_rfl, by kernel_rfl⟩
theorem zero_two (a : W4) : GoesT (evC (tabOf Tryd.prog extY conZ0 true) 500 false (wTwo Tryd.f3) (zT a ++ List.replicate 56 undef, zHp a, []) ⟨[], [], []⟩) 75 0 none (zT a ++ ([vW z4, vW z4, .bool true] ++ List.replicate 53 undef)) (zHp a) [] := ⟨by kernel_rfl, by kernel_rfl, by kernel_rfl⟩
def zS (a : W4) (v23 : Value) (r : List Value) : List Value := zT a ++ ([vW z4, vW z4, .bool true, eZ, v23] ++ r)
theorem ans_ops : (wAns Tryd.f3).toList = (wAns Tryd.f3).toList.getD 0 default :: (wAns Tryd.f3).toList.getD 1 default :: (wAns Tryd.f3).toList.drop 2 := by kernel_rfl
theorem zero_one (a : W4) : opS (tabOf Tryd.prog extY conZ0 true) (callBy (tabOf Tryd.prog extY conZ0 true) (evC (tabOf Tryd.prog extY conZ0 true) 500 false)) (wAns Tryd.f3) ((wAns Tryd.f3).toList.getD 0 default) (zT a ++ ([vW z4, vW z4, .bool true] ++ List.replicate 53 undef), zHp a, []) ⟨[], [], []⟩
    = some ((zS a undef (List.replicate 51 undef), zHp a, []), ⟨[], [], []⟩) := by kernel_rfl
theorem zero_rest (a : W4) : GoesT ((evOps (tabOf Tryd.prog extY conZ0 true) (callBy (tabOf Tryd.prog extY conZ0 true) (evC (tabOf Tryd.prog extY conZ0 true) 500 false)) (wAns Tryd.f3) ((wAns Tryd.f3).toList.drop 2) (putL (zS a undef (List.replicate 51 undef)) ((wAns Tryd.f3).toList.getD 1 default).dst (.int .i64 5), zHp a, []) ⟨[], [], []⟩).map fun r => (none, r.1, r.2)) 5 70 none
    [vW a, vW z4, t_ 0, t_ 1, .bool true] (zHp a) [] := ⟨by kernel_rfl, by kernel_rfl, by kernel_rfl⟩
theorem walkZ (a : W4) (w : World) (hg : known w) : Calls Tryd.prog 3 #[vW a, vW z4] w fun e w' => e = .returned (.bool true) ∧ Tidy w w' := by
  have hlt : 0 < w.heap.size := by
    rcases Nat.eq_zero_or_pos w.heap.size with h0 | h
    · unfold known at hg
      simp [World.cell?, h0] at hg
    · exact h
  refine calls_of_runsAt (G := known) (T := (tabOf Tryd.prog extY conZ0 true)) Tryd.func3 parts_body (vals := [vW a, vW z4]) (by rfl) (by rfl) ?_ w (fun w' hb => by
    unfold known World.cell? at *
    rw [hb.block 0 hlt]
    exact hg)
  refine RunsAt.list (tabY_ok conZ0_ok) (zero_pre a) (okL1 (by rfl)) fun g => ?_
  refine RunsAt.seq (P1 := fun e y => e = some none ∧ (∃ g, y.1 = [vW a, vW z4, t_ 0, t_ 1, .bool true] ++ tl 70 g) ∧ y.2.1 = zHp a) ?_ (fun y he => by cases he.1) (fun e y he => ?_)
  · refine RunsAt.seq (goesT_runs (tabY_ok conZ0_ok) (zero_two a) okNil).w.known ?_ (fun e y he => by cases he.1)
    rintro ⟨t, h', s⟩ ⟨_, ⟨g', ht⟩, hh⟩
    simp only at ht hh
    have ht : t = _ := ht.trans (List.append_nil _)
    subst ht hh
    refine RunsAt.yes (by rfl) (by rfl) ?_
    refine RunsAt.seq (P1 := fun e y => e = none ∧ (∃ g, y.1 = [vW a, vW z4, t_ 0, t_ 1, .bool true] ++ tl 70 g) ∧ y.2.1 = zHp a) ?_ ?_ (fun e y he => by cases he.1)
    · intro m B a' w' R
      exact RunsAt.second (N := 500) (tabY_ok conZ0_ok) ans_ops (zero_one a) ⟨okNil, fun _ h => (by cases h), fun _ h => (by cases h)⟩ (f := 5) (args := #[.tmp 22]) (tys := #[26]) (by kernel_rfl) (by kernel_rfl) (by rfl) (by rfl) (v := .int .i64 5) (by rfl) Tryd.func5 (by kernel_rfl) (by kernel_rfl) (fun w hw => num_calls 5 w hw) (zero_rest a) okNil m B a' w' ⟨R.tmps, R.dfr, R.emb, R.wf⟩
    · rintro ⟨t, h', s⟩ ⟨_, ⟨g', ht⟩, hh⟩
      simp only at ht hh
      subst ht hh
      intro m B a' w' R _ Q hQ
      exact wp_ret (hQ (some none) _ ⟨rfl, ⟨g', rfl⟩, rfl⟩ m a' w' R (Below.refl _ _))
  · obtain ⟨h1, ⟨g', h2⟩, h3⟩ := he
    refine ⟨.inr h1, ?_⟩
    rw [h2, h3]
    rfl
theorem walk (a b : W4) (ha : a.ok) (hb : b.ok) (w : World) (hg : known w) : Calls Tryd.prog 3 #[vW a, vW b] w fun e w' => e = .returned (.bool true) ∧ Tidy w w' := by
  by_cases hz : b.val = 0
  · have e : b = z4 := W4.val_inj hb (by decide) (by rw [hz]; rfl)
    subst e
    exact walkZ a w hg
  · exact walkP a b ha hb hz w
end Go.Proofs.YtdahpclbjeeeiaaDoor
