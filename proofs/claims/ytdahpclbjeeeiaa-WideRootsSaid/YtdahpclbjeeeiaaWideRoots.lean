/-
  PROVED HERE: for every input the law tillerlaw01.WideRoots returns true, and each argument reads afterwards as it read before: the square of the root that Sqrt answers, and the rest, are the number, and the rest is at most twice the root. No condition.
-/
import Derived.Test.YtdahpclbjeeeiaaSure
import Derived.Test.YtdahpclbjeeeiaaConR5
import Derived.Test.YtdahpclbjeeeiaaConR6
import Derived.Test.YtdahpclbjeeeiaaConM4
import Derived.Test.YtdahpclbjeeeiaaConS2
import Derived.Test.YtdahpclbjeeeiaaRow
import Derived.Test.YtdahpclbjeeeiaaRows
namespace Go.Proofs.Ytdahpclbjeeeiaa.wideRoots
open Go.KRun Go.Wd Go.ChangeShapes Go.WideShapes Go.ChangeAt Go.RowKit
set_option linter.unusedVariables false

def ovr (x y : W4) : Bool := decide (115792089237316195423570985008687907853269984665640564039457584007913129639936 ≤ x.val + y.val)
def addN : W4 → W4 → List Dec → Option (Value × List Dec × Log) := fun x y s => some (.tuple #[vW (W4.of (x.val + y.val)), .bool (pickC (ovr x y) s).1], (pickC (ovr x y) s).2.1, (pickC (ovr x y) s).2.2)
theorem addN_ok {f : Nat} (hk : ∀ x y : W4, x.ok → y.ok → ∀ w, Calls Try.prog f #[vW x, vW y] w fun e w' => e = .returned (addV4 x y) ∧ Tidy w w') : AnsOk f (g2 addN) := g2_ok fun x y hx hy s v s' lg h hl w => by
  unfold addN at h
  cases h
  rw [pickC_ok hl]
  exact hk x y hx hy w
def con : Con := alt 20 (g1 rootV) (alt 15 (g2 (plain2 mulV4)) (alt 8 (g2 addN) (alt 12 (g2 (plain2 cmpV4)) (alt 13 gSure conN))))
theorem con_ok : ConOk con := alt_ok Try.func20 rfl (g1_ok sqrt_calls) (alt_ok Try.func15 rfl (plain2_ok rmul_calls) (alt_ok Try.func8 rfl (addN_ok radd_calls) (alt_ok Try.func12 rfl (plain2_ok rcmp_calls) (alt_ok Try.func13 rfl gSure_ok conN_ok))))

/-- the root, the rest, the square, its high part, the square and the rest, twice the root -/
def rt (a : W4) : W4 := W4.of (isI a)
def rs (a : W4) : W4 := W4.of (a.val - isI a * isI a)
def sq (a : W4) : W4 := W4.of ((rt a).val * (rt a).val)
def hg (a : W4) : W4 := W4.of ((rt a).val * (rt a).val / 115792089237316195423570985008687907853269984665640564039457584007913129639936)
def su (a : W4) : W4 := W4.of ((sq a).val + (rs a).val)
def tw (a : W4) : W4 := W4.of ((rt a).val + (rt a).val)
def l2 (x y : W4) : Bool × Bool := (decide (x.ok ∧ y.ok), true)
def lg (a : W4) : Log := [(decide (cmpI (rs a) (tw a) ≤ 0), true), l2 (rs a) (tw a), (eqW (su a) a, true), (eqW (hg a) z4, true), l2 (rt a) (rt a), (ovr (rt a) (rt a), false), l2 (sq a) (rs a), (ovr (sq a) (rs a), false), l2 (rt a) (rt a), (decide a.ok, true)]
set_option maxRecDepth 100000 in
theorem law (a : W4) : Fits (reckon (tabOf Try.prog extY con true) 3000 6 [vW a] [cmp false, cmp false, sam true, sam true, cmp true]) (.bool true) (lg a) := ⟨by kernel_rfl, by kernel_rfl, by kernel_rfl, by kernel_rfl⟩
theorem facts (a : W4) (ha : a.ok) : okLog (lg a) := by
  have ba := W4.val_bd ha
  obtain ⟨i0, i1, i2⟩ := isI_spec ha
  rw [sq_suc] at i2
  have i3 : isI a ≤ 340282366920938463463374607431768211456 := by
    rcases Int.lt_or_le 340282366920938463463374607431768211456 (isI a) with h | h
    · have := sq_mono (x := 340282366920938463463374607431768211456) (y := isI a) (by omega) (by omega)
      omega
    · exact h
  have i4 := sq_nonneg' (isI a)
  have e1 : (rt a).val = isI a := by unfold rt; rw [W4.val_of, Int.emod_eq_of_lt i0 (by omega)]
  have e2 : (rs a).val = a.val - isI a * isI a := by unfold rs; rw [W4.val_of, Int.emod_eq_of_lt (by omega) (by omega)]
  have e3 : (sq a).val = isI a * isI a := by unfold sq; rw [e1, W4.val_of, Int.emod_eq_of_lt (by omega) (by omega)]
  have e4 : hg a = z4 := by
    unfold hg
    rw [e1, Int.ediv_eq_zero_of_lt i4 (by omega)]
    rfl
  have e5 : su a = a := by
    unfold su
    rw [e2, e3, show isI a * isI a + (a.val - isI a * isI a) = a.val from by omega]
    exact W4.of_val ha
  have e6 : (tw a).val = isI a + isI a := by unfold tw; rw [e1, W4.val_of, Int.emod_eq_of_lt (by omega) (by omega)]
  have c : cmpI (rs a) (tw a) ≤ 0 := by
    unfold cmpI
    rw [e2, e6]
    split
    · omega
    · rw [if_pos (by omega)]
      omega
  have o1 : ovr (rt a) (rt a) = false := decide_eq_false (by rw [e1]; omega)
  have o2 : ovr (sq a) (rs a) = false := decide_eq_false (by rw [e2, e3]; omega)
  have k : ∀ m n : Int, (l2 (W4.of m) (W4.of n)).1 = (l2 (W4.of m) (W4.of n)).2 := fun m n => decide_eq_true ⟨W4.ok_of _, W4.ok_of _⟩
  exact okCons (decide_eq_true c) (okCons (k _ _) (okCons (eqW_iff.2 e5) (okCons (eqW_iff.2 e4) (okCons (k _ _) (okCons o1 (okCons (k _ _) (okCons o2 (okCons (k _ _) (okL1 (decide_eq_true ha))))))))))
set_option maxRecDepth 100000 in
theorem walk (a : W4) (ha : a.ok) (w : World) : Calls Try.prog 6 #[vW a] w fun e w' => e = .returned (.bool true) ∧ Tidy w w' :=
  fits_calls (tabY_ok con_ok) (law a) (facts a ha) (by rfl) (by rfl) w

theorem own : ownKnob Try.prog.godebug = none := by kernel_rfl
theorem cellsA : Try.prog.cellsOf 23 = 4 := by kernel_rfl
theorem cellsE : Try.prog.cellsOf 22 = 1 := by kernel_rfl
set_option maxRecDepth 100000 in
theorem lifted (os : Os) (started : os.Started) (H : Type) (enc : TypeId × Value → H) :
    ReturnsInHanded {} Try.checked os 6 .any (Rows.wideRootsSpec.pre6 enc Try.prog Try.f6 Rows.wideRootsRow.domain false) (Rows.wideRootsSpec.post enc Try.prog Try.f6 false true false false) := by
  refine returnsInHanded_of_change (C := Try.checked) own started (by kernel_rfl) Try.func6
    (ChangeSpec.witness6 (enc := enc) (C := Try.checked) false ⟨#[], #[.agg #[.int .u64 0, .int .u64 0, .int .u64 0, .int .u64 0]], []⟩ 8 (by kernel_rfl) (by kernel_rfl) (by kernel_rfl) (by kernel_rfl)) ?_
  intro W base args ds gs before hval0 hW hcnd _
  have hval : ∀ (j : Nat) t v, Try.f6.params[j]? = some t → args[j]? = some v → Value.okWide Try.prog W .any base t v := hval0
  have hW' := hW
  obtain ⟨p, q, hA0, hV, rfl, hfz, hnd⟩ := hW
  have hA : DataW.TrodAll enc Try.prog W 0 (fun _ => true) true Try.f6.params.toList args.toList ds p := hA0
  rw [Try.params6] at hA hval
  obtain ⟨v0, d0, rfl, rfl, h0⟩ := trodAll_one hA
  obtain ⟨rfl, rfl⟩ := trodVars_none hV
  obtain ⟨a0, a1, a2, a3, rfl, rfl, rfl, wa0, wa1, wa2, wa3⟩ := open_w4 Try.underlying23 Try.underlying22 cellsA cellsE (hval 0 23 v0 rfl rfl) h0
  clear hA0 hval0
  simp only [List.append_nil] at hW'
  refine (walk ⟨a0, a1, a2, a3⟩ ⟨u64_bounds wa0, u64_bounds wa1, u64_bounds wa2, u64_bounds wa3⟩ W).mono fun e W' ⟨he, hg⟩ => ?_
  subst he
  exact ⟨_, rfl, post_of_same (pa := []) (pv := []) hW' (fun _ _ _ => trodAll_mk1 (shut_bool Try.underlying4 _))
    (fun sp _ => trodAll_mk1 (shut_w4 Try.underlying23 Try.underlying22 cellsA cellsE wa0 wa1 wa2 wa3)) (fun _ _ => rfl) rfl
    (hg.1.frame _) (tidy_frozen hg) (ok_one (by kernel_rfl) rfl (okWide_bool_mk Try.underlying4 _))⟩

theorem proved : Rows.WideRootsSaid :=
  OpenClaim.holds_of_wide 6 Try.f6 rfl rfl rfl rfl rfl rfl rfl ⟨rfl, rfl, rfl, rfl, rfl⟩ rfl rfl rfl rfl rfl (by kernel_rfl) Try.func6 (by kernel_rfl)
    (of_decide_eq_true (by kernel_rfl)) (by unfold Func.isWrapper; first | (rw [if_pos (by decide +kernel)]; kernel_rfl) | (rw [if_neg (by decide +kernel)]; exact ⟨rfl, rfl⟩))
    (fun os started H enc _ => lifted os started H enc)
end Go.Proofs.Ytdahpclbjeeeiaa.wideRoots
