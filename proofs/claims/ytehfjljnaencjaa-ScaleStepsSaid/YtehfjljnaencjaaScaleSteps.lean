/-
  PROVED HERE: for every input the law tillerlaw09.ScaleSteps returns true, and each argument reads afterwards as it read before: a size and its Step are the next size, without flags, where that is finite; and by Up and Down a size and a little of it more lies between them. No condition.
-/
import Derived.Test.YtehfjljnaencjaaG18
import Derived.Test.YtehfjljnaencjaaG19
import Derived.Test.YtehfjljnaencjaaRows
namespace Go.Proofs.Ytehfjljnaencjaa.scaleSteps
open Go.KRun Go.Pt Go.ChangeShapes Go.WideShapes Go.ChangeAt Go.RowKit Go.Wd Go.Rn
set_option linter.unusedVariables false

theorem st_s (a : Int) : Fits (reckon (tabOf Try.prog extY conG9 true) 400 7 [.int .u64 a] [cmp true]) (.bool true) [(decide ((bNot a 9223372036854775808) ≥ 9218868437227405311), true)] := ⟨by kernel_rfl, by kernel_rfl, by kernel_rfl, by kernel_rfl⟩
theorem st_1 (a : Int) : Fits (reckon (tabOf Try.prog extY conG9 true) 400 7 [.int .u64 a] [cmp false, cmp true, cmp true, cmp true, cmp true, cmp true, cmp true]) (.bool true) [(suP 4 (bNot a 9223372036854775808) 1 == (bNot a 9223372036854775808), true), (suP 3 (bNot a 9223372036854775808) 1 == upP (bNot a 9223372036854775808), true), (suP 0 (bNot a 9223372036854775808) (stepP (bNot a 9223372036854775808)) == upP (bNot a 9223372036854775808), true), (upF (bNot a 9223372036854775808) == 0, true), (suF 0 (bNot a 9223372036854775808) (stepP (bNot a 9223372036854775808)) == 0, true), (stepF (bNot a 9223372036854775808) == 0, true), (decide (U (bNot a 9223372036854775808) ∧ U 1), true), (decide (U (bNot a 9223372036854775808) ∧ U 1), true), (decide (U (bNot a 9223372036854775808)), true), (decide (U (bNot a 9223372036854775808) ∧ U (stepP (bNot a 9223372036854775808))), true), (decide (U (bNot a 9223372036854775808)), true), (decide ((bNot a 9223372036854775808) ≥ 9218868437227405311), false)] := ⟨by kernel_rfl, by kernel_rfl, by kernel_rfl, by kernel_rfl⟩
theorem st_2 (a : Int) : Fits (reckon (tabOf Try.prog extY conG9 true) 400 7 [.int .u64 a] [cmp false, cmp true, cmp true, cmp true, cmp true, cmp true, cmp false, cmp true, cmp true]) (.bool true) [(suP 4 (bNot a 9223372036854775808) 1 == upP (bNot a 9223372036854775808), true), (stepP (bNot a 9223372036854775808) == 1, true), (suP 4 (bNot a 9223372036854775808) 1 == (bNot a 9223372036854775808), false), (suP 3 (bNot a 9223372036854775808) 1 == upP (bNot a 9223372036854775808), true), (suP 0 (bNot a 9223372036854775808) (stepP (bNot a 9223372036854775808)) == upP (bNot a 9223372036854775808), true), (upF (bNot a 9223372036854775808) == 0, true), (suF 0 (bNot a 9223372036854775808) (stepP (bNot a 9223372036854775808)) == 0, true), (stepF (bNot a 9223372036854775808) == 0, true), (decide (U (bNot a 9223372036854775808) ∧ U 1), true), (decide (U (bNot a 9223372036854775808) ∧ U 1), true), (decide (U (bNot a 9223372036854775808)), true), (decide (U (bNot a 9223372036854775808) ∧ U (stepP (bNot a 9223372036854775808))), true), (decide (U (bNot a 9223372036854775808)), true), (decide ((bNot a 9223372036854775808) ≥ 9218868437227405311), false)] := ⟨by kernel_rfl, by kernel_rfl, by kernel_rfl, by kernel_rfl⟩
theorem walk (a : Int) (ha : U a) (w : World) : Calls Try.prog 7 #[.int .u64 a] w fun e w' => e = .returned (.bool true) ∧ Tidy w w' := by
  have hv : ([.int .u64 a].all (lt 0)) = true := rfl
  have T := tabY_ok conG9_ok
  have eB := bNot_mag ha
  have ma := mag_lt (p := a)
  have um : U (mag a) := ⟨by omega, by omega⟩
  by_cases hb : mag a < 9218868437227405311
  case neg => exact fits_calls T (st_s a) (okL1 (decide_eq_true (by rw [eB]; omega))) hv (by rfl) w
  have eu := up_pos ma.1 (show mag a < 9218868437227405312 by omega)
  obtain ⟨us, sf, p0, pf, p3, h4 | h4⟩ := steps9 ma.1 hb
  · exact fits_calls T (st_1 a) (okCons (beq_t (by rw [eB]; exact h4)) (okCons (beq_t (by rw [eB, eu.1]; exact p3)) (okCons (beq_t (by rw [eB, eu.1]; exact p0)) (okCons (beq_t (by rw [eB]; exact eu.2)) (okCons (beq_t (by rw [eB]; exact pf)) (okCons (beq_t (by rw [eB]; exact sf)) (okCons (decide_eq_true (by rw [eB]; exact ⟨um, by decide⟩)) (okCons (decide_eq_true (by rw [eB]; exact ⟨um, by decide⟩)) (okCons (decide_eq_true (by rw [eB]; exact um)) (okCons (decide_eq_true (by rw [eB]; exact ⟨um, us⟩)) (okCons (decide_eq_true (by rw [eB]; exact um)) (okL1 (decide_eq_false (by rw [eB]; omega)))))))))))))) hv (by rfl) w
  · exact fits_calls T (st_2 a) (okCons (beq_t (by rw [eB, eu.1]; exact h4.2)) (okCons (beq_t (by rw [eB]; exact h4.1)) (okCons (beq_f (by rw [eB, h4.2]; omega)) (okCons (beq_t (by rw [eB, eu.1]; exact p3)) (okCons (beq_t (by rw [eB, eu.1]; exact p0)) (okCons (beq_t (by rw [eB]; exact eu.2)) (okCons (beq_t (by rw [eB]; exact pf)) (okCons (beq_t (by rw [eB]; exact sf)) (okCons (decide_eq_true (by rw [eB]; exact ⟨um, by decide⟩)) (okCons (decide_eq_true (by rw [eB]; exact ⟨um, by decide⟩)) (okCons (decide_eq_true (by rw [eB]; exact um)) (okCons (decide_eq_true (by rw [eB]; exact ⟨um, us⟩)) (okCons (decide_eq_true (by rw [eB]; exact um)) (okL1 (decide_eq_false (by rw [eB]; omega)))))))))))))))) hv (by rfl) w
theorem own : ownKnob Try.prog.godebug = none := by kernel_rfl
set_option maxRecDepth 100000 in
theorem lifted (os : Os) (started : os.Started) (H : Type) (enc : TypeId × Value → H) :
    ReturnsInHanded {} Try.checked os 7 .any (Rows.scaleStepsSpec.pre6 enc Try.prog Try.f7 Rows.scaleStepsRow.domain false) (Rows.scaleStepsSpec.post enc Try.prog Try.f7 false true false false) := by
  refine returnsInHanded_of_change (C := Try.checked) own started (by kernel_rfl) Try.func7
    (ChangeSpec.witness6 (enc := enc) (C := Try.checked) false ⟨#[], #[.int .u64 0], []⟩ 8 (by kernel_rfl) (by kernel_rfl) (by kernel_rfl) (by kernel_rfl)) ?_
  intro W base args ds gs before hval0 hW hcnd _
  have hval : ∀ (j : Nat) t v, Try.f7.params[j]? = some t → args[j]? = some v → Value.okWide Try.prog W .any base t v := hval0
  have hW' := hW
  obtain ⟨p, q, hA0, hV, rfl, hfz, hnd⟩ := hW
  have hA : DataW.TrodAll enc Try.prog W 0 (fun _ => true) true Try.f7.params.toList args.toList ds p := hA0
  rw [Try.params7] at hA hval
  obtain ⟨v0, d0, rfl, rfl, h0⟩ := trodAll_one hA
  obtain ⟨rfl, rfl⟩ := trodVars_none hV
  obtain ⟨x0, rfl, rfl, rfl, w0⟩ := open_int Try.underlying22 (hval 0 22 v0 rfl rfl) h0
  clear hA0 hval0
  simp only [List.append_nil] at hW'
  refine (walk x0 (u64_bounds w0) W).mono fun e W' ⟨he, hg⟩ => ?_
  subst he
  exact ⟨_, rfl, post_of_same (pa := []) (pv := []) hW' (fun _ _ _ => trodAll_mk1 (shut_bool Try.underlying4 _))
    (fun sp _ => trodAll_mk1 (shut_int Try.underlying22 w0)) (fun _ _ => rfl) rfl
    (hg.1.frame _) (tidy_frozen hg) (ok_one (by kernel_rfl) rfl (okWide_bool_mk Try.underlying4 _))⟩

theorem proved : Rows.ScaleStepsSaid :=
  OpenClaim.holds_of_wide 7 Try.f7 rfl rfl rfl rfl rfl rfl rfl ⟨rfl, rfl, rfl, rfl, rfl⟩ rfl rfl rfl rfl rfl (by kernel_rfl) Try.func7 (by kernel_rfl)
    (of_decide_eq_true (by kernel_rfl)) (by unfold Func.isWrapper; first | (rw [if_pos (by decide +kernel)]; kernel_rfl) | (rw [if_neg (by decide +kernel)]; exact ⟨rfl, rfl⟩))
    (fun os started H enc _ => lifted os started H enc)
end Go.Proofs.Ytehfjljnaencjaa.scaleSteps
