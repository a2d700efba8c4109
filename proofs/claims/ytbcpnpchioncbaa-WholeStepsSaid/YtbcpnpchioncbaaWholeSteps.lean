/-
  PROVED HERE: for every input the law tillerlaw08.WholeSteps returns true, and each argument reads afterwards as it read before: a whole number stays, by every mode; by Down a pattern rounded to a whole number is not greater, by Up not less; twice is as once. No condition.
-/
import Derived.Test.YtbcpnpchioncbaaG37
import Derived.Test.YtbcpnpchioncbaaG38
import Derived.Test.YtbcpnpchioncbaaRows
namespace Go.Proofs.Ytbcpnpchioncbaa.wholeSteps
open Go.KRun Go.Pt Go.ChangeShapes Go.WideShapes Go.ChangeAt Go.RowKit Go.Wd Go.Rn
set_option linter.unusedVariables false

theorem st_n (a m : Int) : Fits (reckon (tabOf Try.prog extY conL8 true) 400 6 [.int .u64 a, .int .i64 m] [cmp false]) (.bool true) [(decide (cl a < 3), false), lU a] := ⟨by kernel_rfl, by kernel_rfl, by kernel_rfl, by kernel_rfl⟩
theorem st_lT (a m : Int) : Fits (reckon (tabOf Try.prog extY conL8 true) 400 6 [.int .u64 a, .int .i64 m] [cmp true, cmp true, cmp true, cmp true, cmp true, cmp true, cmp true, cmp true, cmp true, cmp true, cmp true, cmp true]) (.bool true) [((bAnd (woP m a) 9223372036854775808) == (bAnd a 9223372036854775808), true), (decide (IntKind.i64.wrap (0 - IntKind.i64.wrap (bNot a 9223372036854775808)) ≤ IntKind.i64.wrap (0 - IntKind.i64.wrap (bNot (woP 3 a) 9223372036854775808))), true), (decide (woP 3 a ≥ 9223372036854775808), true), (decide (a ≥ 9223372036854775808), true), (decide (IntKind.i64.wrap (0 - IntKind.i64.wrap (bNot (woP 4 a) 9223372036854775808)) ≤ IntKind.i64.wrap (0 - IntKind.i64.wrap (bNot a 9223372036854775808))), true), (decide (a ≥ 9223372036854775808), true), (decide (woP 4 a ≥ 9223372036854775808), true), (woP m a == woP 4 a, true), (woP m (woP m a) == woP m a, true), (woF (woP m a) true == 0, true), (woF a false == 0, true), (decide (U (woP m a)), true), lU a, lU a, lU a, (decide (cl a < 3), true), lU a] := ⟨by kernel_rfl, by kernel_rfl, by kernel_rfl, by kernel_rfl⟩
theorem st_hT (a m : Int) : Fits (reckon (tabOf Try.prog extY conL8 true) 400 6 [.int .u64 a, .int .i64 m] [cmp true, cmp true, cmp true, cmp true, cmp false, cmp true, cmp true, cmp true, cmp true, cmp true, cmp true, cmp true, cmp true]) (.bool true) [((bAnd (woP m a) 9223372036854775808) == (bAnd a 9223372036854775808), true), (decide (IntKind.i64.wrap (0 - IntKind.i64.wrap (bNot a 9223372036854775808)) ≤ IntKind.i64.wrap (0 - IntKind.i64.wrap (bNot (woP 3 a) 9223372036854775808))), true), (decide (woP 3 a ≥ 9223372036854775808), true), (decide (a ≥ 9223372036854775808), true), (decide (IntKind.i64.wrap (0 - IntKind.i64.wrap (bNot (woP 4 a) 9223372036854775808)) ≤ IntKind.i64.wrap (0 - IntKind.i64.wrap (bNot a 9223372036854775808))), true), (decide (a ≥ 9223372036854775808), true), (decide (woP 4 a ≥ 9223372036854775808), true), (woP m a == woP 3 a, true), (woP m a == woP 4 a, false), (woP m (woP m a) == woP m a, true), (woF (woP m a) true == 0, true), (woF a false == 0, true), (decide (U (woP m a)), true), lU a, lU a, lU a, (decide (cl a < 3), true), lU a] := ⟨by kernel_rfl, by kernel_rfl, by kernel_rfl, by kernel_rfl⟩
theorem st_lF (a m : Int) : Fits (reckon (tabOf Try.prog extY conL8 true) 400 6 [.int .u64 a, .int .i64 m] [cmp true, cmp true, cmp true, cmp true, cmp true, cmp false, cmp false, cmp true, cmp false, cmp false, cmp true, cmp true]) (.bool true) [((bAnd (woP m a) 9223372036854775808) == (bAnd a 9223372036854775808), true), (decide (IntKind.i64.wrap a ≤ IntKind.i64.wrap (woP 3 a)), true), (decide (woP 3 a ≥ 9223372036854775808), false), (decide (a ≥ 9223372036854775808), false), (decide (IntKind.i64.wrap (woP 4 a) ≤ IntKind.i64.wrap a), true), (decide (a ≥ 9223372036854775808), false), (decide (woP 4 a ≥ 9223372036854775808), false), (woP m a == woP 4 a, true), (woP m (woP m a) == woP m a, true), (woF (woP m a) true == 0, true), (woF a false == 0, true), (decide (U (woP m a)), true), lU a, lU a, lU a, (decide (cl a < 3), true), lU a] := ⟨by kernel_rfl, by kernel_rfl, by kernel_rfl, by kernel_rfl⟩
theorem st_hF (a m : Int) : Fits (reckon (tabOf Try.prog extY conL8 true) 400 6 [.int .u64 a, .int .i64 m] [cmp true, cmp true, cmp true, cmp true, cmp false, cmp true, cmp false, cmp false, cmp true, cmp false, cmp false, cmp true, cmp true]) (.bool true) [((bAnd (woP m a) 9223372036854775808) == (bAnd a 9223372036854775808), true), (decide (IntKind.i64.wrap a ≤ IntKind.i64.wrap (woP 3 a)), true), (decide (woP 3 a ≥ 9223372036854775808), false), (decide (a ≥ 9223372036854775808), false), (decide (IntKind.i64.wrap (woP 4 a) ≤ IntKind.i64.wrap a), true), (decide (a ≥ 9223372036854775808), false), (decide (woP 4 a ≥ 9223372036854775808), false), (woP m a == woP 3 a, true), (woP m a == woP 4 a, false), (woP m (woP m a) == woP m a, true), (woF (woP m a) true == 0, true), (woF a false == 0, true), (decide (U (woP m a)), true), lU a, lU a, lU a, (decide (cl a < 3), true), lU a] := ⟨by kernel_rfl, by kernel_rfl, by kernel_rfl, by kernel_rfl⟩

theorem sign_and {p q : Int} (hp : U p) (hq : U q) (h : sgn p = sgn q) : bAnd p 9223372036854775808 = bAnd q 9223372036854775808 := by
  have h' := decide_eq_decide.1 h
  rw [bAnd_sign hp, bAnd_sign hq]
  unfold U at hp hq
  omega
theorem kM {p : Int} (hp : U p) : IntKind.i64.wrap (0 - IntKind.i64.wrap (bNot p 9223372036854775808)) = 0 - mag p := by
  have := mag_lt (p := p)
  rw [bNot_mag hp, wrapI' (n := mag p) ⟨by omega, by omega⟩, wrapI' ⟨by omega, by omega⟩]
theorem walk (a m : Int) (ha : U a) (w : World) : Calls Try.prog 6 #[.int .u64 a, .int .i64 m] w fun e w' => e = .returned (.bool true) ∧ Tidy w w' := by
  have hv : ([.int .u64 a, .int .i64 m].all (lt 0)) = true := rfl
  have T := tabY_ok conL8_ok
  have ka : decide (U a) = true := decide_eq_true ha
  by_cases ca : cl a < 3
  case neg => exact fits_calls T (st_n a m) (okCons (decide_eq_false ca) (okL1 ka)) hv (by rfl) w
  have c2 : cl a ≤ 2 := by omega
  obtain ⟨u1, u2, u3, u4, u5⟩ := wh_again m c2
  obtain ⟨k1, _, _, k4, k5⟩ := wh_again 3 c2
  obtain ⟨l1, _, _, l4, l5⟩ := wh_again 4 c2
  obtain ⟨e1, _, _, w4⟩ := wh_fin m c2
  have e3 := (wh_fin 3 c2).1
  have e4 := (wh_fin 4 c2).1
  obtain ⟨o1, o2, o3⟩ := wh_order m c2
  have eS := sign_and u1 ha u4
  have m3 := mag_lt (p := woP 3 a)
  have m4 := mag_lt (p := woP 4 a)
  have ma := mag_lt (p := a)
  have sa := decide_eq_decide.1 k4
  have sb := decide_eq_decide.1 l4
  have hh : woP m a ≠ woP 4 a → woP m a = woP 3 a := fun h => by
    rcases o1 with o | o
    · exact absurd (by rw [e1, e4, o]) h
    · rw [e1, e3, o]
  have ua := ha
  have uk := k1
  have ul := l1
  unfold U at ua uk ul
  cases hs : sgn a with
  | true =>
    obtain ⟨p1, p2⟩ := o3 hs
    have hs' := of_decide_eq_true hs
    by_cases h4 : woP m a = woP 4 a
    · exact fits_calls T (st_lT a m) (okCons (beq_t eS) (okCons (decide_eq_true (by rw [kM ha, kM k1, k5]; omega)) (okCons (decide_eq_true (by omega)) (okCons (decide_eq_true (by omega)) (okCons (decide_eq_true (by rw [kM ha, kM l1, l5]; omega)) (okCons (decide_eq_true (by omega)) (okCons (decide_eq_true (by omega)) (okCons (beq_t h4) (okCons (beq_t u2) (okCons (beq_t u3) (okCons (beq_t w4) (okCons (decide_eq_true u1) (okCons ka (okCons ka (okCons ka (okCons (decide_eq_true ca) (okL1 ka))))))))))))))))) hv (by rfl) w
    · have h3 := hh h4
      exact fits_calls T (st_hT a m) (okCons (beq_t eS) (okCons (decide_eq_true (by rw [kM ha, kM k1, k5]; omega)) (okCons (decide_eq_true (by omega)) (okCons (decide_eq_true (by omega)) (okCons (decide_eq_true (by rw [kM ha, kM l1, l5]; omega)) (okCons (decide_eq_true (by omega)) (okCons (decide_eq_true (by omega)) (okCons (beq_t h3) (okCons (beq_f h4) (okCons (beq_t u2) (okCons (beq_t u3) (okCons (beq_t w4) (okCons (decide_eq_true u1) (okCons ka (okCons ka (okCons ka (okCons (decide_eq_true ca) (okL1 ka)))))))))))))))))) hv (by rfl) w
  | false =>
    obtain ⟨p1, p2⟩ := o2 hs
    have hs' := of_decide_eq_false hs
    have ga : mag a = a := mag_self (by omega) (by omega)
    have g3 : mag (woP 3 a) = woP 3 a := mag_self (by omega) (by omega)
    have g4 : mag (woP 4 a) = woP 4 a := mag_self (by omega) (by omega)
    by_cases h4 : woP m a = woP 4 a
    · exact fits_calls T (st_lF a m) (okCons (beq_t eS) (okCons (decide_eq_true (by rw [wrapI' ⟨by omega, by omega⟩, wrapI' ⟨by omega, by omega⟩]; omega)) (okCons (decide_eq_false (by omega)) (okCons (decide_eq_false (by omega)) (okCons (decide_eq_true (by rw [wrapI' ⟨by omega, by omega⟩, wrapI' ⟨by omega, by omega⟩]; omega)) (okCons (decide_eq_false (by omega)) (okCons (decide_eq_false (by omega)) (okCons (beq_t h4) (okCons (beq_t u2) (okCons (beq_t u3) (okCons (beq_t w4) (okCons (decide_eq_true u1) (okCons ka (okCons ka (okCons ka (okCons (decide_eq_true ca) (okL1 ka))))))))))))))))) hv (by rfl) w
    · have h3 := hh h4
      exact fits_calls T (st_hF a m) (okCons (beq_t eS) (okCons (decide_eq_true (by rw [wrapI' ⟨by omega, by omega⟩, wrapI' ⟨by omega, by omega⟩]; omega)) (okCons (decide_eq_false (by omega)) (okCons (decide_eq_false (by omega)) (okCons (decide_eq_true (by rw [wrapI' ⟨by omega, by omega⟩, wrapI' ⟨by omega, by omega⟩]; omega)) (okCons (decide_eq_false (by omega)) (okCons (decide_eq_false (by omega)) (okCons (beq_t h3) (okCons (beq_f h4) (okCons (beq_t u2) (okCons (beq_t u3) (okCons (beq_t w4) (okCons (decide_eq_true u1) (okCons ka (okCons ka (okCons ka (okCons (decide_eq_true ca) (okL1 ka)))))))))))))))))) hv (by rfl) w
theorem own : ownKnob Try.prog.godebug = none := by kernel_rfl
set_option maxRecDepth 100000 in
theorem lifted (os : Os) (started : os.Started) (H : Type) (enc : TypeId × Value → H) :
    ReturnsInHanded {} Try.checked os 6 .any (Rows.wholeStepsSpec.pre6 enc Try.prog Try.f6 Rows.wholeStepsRow.domain false) (Rows.wholeStepsSpec.post enc Try.prog Try.f6 false true false false) := by
  refine returnsInHanded_of_change (C := Try.checked) own started (by kernel_rfl) Try.func6
    (ChangeSpec.witness6 (enc := enc) (C := Try.checked) false ⟨#[], #[.int .u64 0, .int .i64 0], []⟩ 8 (by kernel_rfl) (by kernel_rfl) (by kernel_rfl) (by kernel_rfl)) ?_
  intro W base args ds gs before hval0 hW hcnd _
  have hval : ∀ (j : Nat) t v, Try.f6.params[j]? = some t → args[j]? = some v → Value.okWide Try.prog W .any base t v := hval0
  have hW' := hW
  obtain ⟨p, q, hA0, hV, rfl, hfz, hnd⟩ := hW
  have hA : DataW.TrodAll enc Try.prog W 0 (fun _ => true) true Try.f6.params.toList args.toList ds p := hA0
  rw [Try.params6] at hA hval
  obtain ⟨v0, v1, d0, d1, p0, p1, rfl, rfl, rfl, h0, h1⟩ := trodAll_two hA
  obtain ⟨rfl, rfl⟩ := trodVars_none hV
  obtain ⟨x0, rfl, rfl, rfl, w0⟩ := open_int Try.underlying22 (hval 0 22 v0 rfl rfl) h0
  obtain ⟨x1, rfl, rfl, rfl, w1⟩ := open_int Try.underlying3 (hval 1 3 v1 rfl rfl) h1
  clear hA0 hval0
  simp only [List.append_nil] at hW'
  refine (walk x0 x1 (u64_bounds w0) W).mono fun e W' ⟨he, hg⟩ => ?_
  subst he
  exact ⟨_, rfl, post_of_same (pa := []) (pv := []) hW' (fun _ _ _ => trodAll_mk1 (shut_bool Try.underlying4 _))
    (fun sp _ => trodAll_mk2 (shut_int Try.underlying22 w0) (shut_int Try.underlying3 w1)) (fun _ _ => rfl) rfl
    (hg.1.frame _) (tidy_frozen hg) (ok_one (by kernel_rfl) rfl (okWide_bool_mk Try.underlying4 _))⟩

theorem proved : Rows.WholeStepsSaid :=
  OpenClaim.holds_of_wide 6 Try.f6 rfl rfl rfl rfl rfl rfl rfl ⟨rfl, rfl, rfl, rfl, rfl⟩ rfl rfl rfl rfl rfl (by kernel_rfl) Try.func6 (by kernel_rfl)
    (of_decide_eq_true (by kernel_rfl)) (by unfold Func.isWrapper; first | (rw [if_pos (by decide +kernel)]; kernel_rfl) | (rw [if_neg (by decide +kernel)]; exact ⟨rfl, rfl⟩))
    (fun os started H enc _ => lifted os started H enc)
end Go.Proofs.Ytbcpnpchioncbaa.wholeSteps
