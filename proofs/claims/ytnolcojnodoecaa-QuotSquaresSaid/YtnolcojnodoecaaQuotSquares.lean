/-
  PROVED HERE: for every input the law tillerlaw07.QuotSquares returns true, and each argument reads afterwards as it read before: the root of a square that needs no rounding is the number without its sign, without flags; by Down and Up a root lies between neighbours. No condition.
-/
import Derived.Test.YtnolcojnodoecaaG37
import Derived.Test.YtnolcojnodoecaaG38
import Derived.Test.YtnolcojnodoecaaRows
namespace Go.Proofs.Ytnolcojnodoecaa.quotSquares
open Go.KRun Go.Pt Go.ChangeShapes Go.WideShapes Go.ChangeAt Go.RowKit Go.Wd Go.Rn
set_option linter.unusedVariables false

theorem qq_fz (a b : Int) : Fits (reckon (tabOf Try.prog extY conL7 true) 300 6 [.int .u64 a, .int .u64 b] [cmp false, cmp true]) (.bool true) [(b == 0, true), (muF 0 a a == 0, false), (decide (U a ∧ U a), true)] := ⟨by kernel_rfl, by kernel_rfl, by kernel_rfl, by kernel_rfl⟩
theorem qq_fi (a b : Int) : Fits (reckon (tabOf Try.prog extY conL7 true) 300 6 [.int .u64 a, .int .u64 b] [cmp false, cmp false, cmp true]) (.bool true) [(decide (b ≥ 9218868437227405312), true), (b == 0, false), (muF 0 a a == 0, false), (decide (U a ∧ U a), true)] := ⟨by kernel_rfl, by kernel_rfl, by kernel_rfl, by kernel_rfl⟩
theorem qq_fe (a b : Int) : Fits (reckon (tabOf Try.prog extY conL7 true) 300 6 [.int .u64 a, .int .u64 b] [cmp false, cmp false, cmp false, cmp true, cmp true, cmp true]) (.bool true) [(sqF 4 b == 0, true), (sqP 3 b == sqP 4 b, true), (sqF 4 b == sqF 3 b, true), lU b, lU b, (decide (b ≥ 9218868437227405312), false), (b == 0, false), (muF 0 a a == 0, false), (decide (U a ∧ U a), true)] := ⟨by kernel_rfl, by kernel_rfl, by kernel_rfl, by kernel_rfl⟩
theorem qq_fx (a b : Int) : Fits (reckon (tabOf Try.prog extY conL7 true) 300 6 [.int .u64 a, .int .u64 b] [cmp false, cmp false, cmp false, cmp true, cmp false, cmp true, cmp true]) (.bool true) [(sqF 4 b == 16, true), (sqP 3 b == IntKind.u64.wrap (sqP 4 b + 1), true), (sqP 3 b == sqP 4 b, false), (sqF 4 b == sqF 3 b, true), lU b, lU b, (decide (b ≥ 9218868437227405312), false), (b == 0, false), (muF 0 a a == 0, false), (decide (U a ∧ U a), true)] := ⟨by kernel_rfl, by kernel_rfl, by kernel_rfl, by kernel_rfl⟩
theorem qq_nz (a b : Int) : Fits (reckon (tabOf Try.prog extY conL7 true) 300 6 [.int .u64 a, .int .u64 b] [cmp true, cmp false, cmp true]) (.bool true) [(b == 0, true), (decide ((bNot a 9223372036854775808) ≤ 9218868437227405312), false), (muF 0 a a == 0, true), (decide (U a ∧ U a), true)] := ⟨by kernel_rfl, by kernel_rfl, by kernel_rfl, by kernel_rfl⟩
theorem qq_ni (a b : Int) : Fits (reckon (tabOf Try.prog extY conL7 true) 300 6 [.int .u64 a, .int .u64 b] [cmp true, cmp false, cmp false, cmp true]) (.bool true) [(decide (b ≥ 9218868437227405312), true), (b == 0, false), (decide ((bNot a 9223372036854775808) ≤ 9218868437227405312), false), (muF 0 a a == 0, true), (decide (U a ∧ U a), true)] := ⟨by kernel_rfl, by kernel_rfl, by kernel_rfl, by kernel_rfl⟩
theorem qq_ne (a b : Int) : Fits (reckon (tabOf Try.prog extY conL7 true) 300 6 [.int .u64 a, .int .u64 b] [cmp true, cmp false, cmp false, cmp false, cmp true, cmp true, cmp true]) (.bool true) [(sqF 4 b == 0, true), (sqP 3 b == sqP 4 b, true), (sqF 4 b == sqF 3 b, true), lU b, lU b, (decide (b ≥ 9218868437227405312), false), (b == 0, false), (decide ((bNot a 9223372036854775808) ≤ 9218868437227405312), false), (muF 0 a a == 0, true), (decide (U a ∧ U a), true)] := ⟨by kernel_rfl, by kernel_rfl, by kernel_rfl, by kernel_rfl⟩
theorem qq_nx (a b : Int) : Fits (reckon (tabOf Try.prog extY conL7 true) 300 6 [.int .u64 a, .int .u64 b] [cmp true, cmp false, cmp false, cmp false, cmp true, cmp false, cmp true, cmp true]) (.bool true) [(sqF 4 b == 16, true), (sqP 3 b == IntKind.u64.wrap (sqP 4 b + 1), true), (sqP 3 b == sqP 4 b, false), (sqF 4 b == sqF 3 b, true), lU b, lU b, (decide (b ≥ 9218868437227405312), false), (b == 0, false), (decide ((bNot a 9223372036854775808) ≤ 9218868437227405312), false), (muF 0 a a == 0, true), (decide (U a ∧ U a), true)] := ⟨by kernel_rfl, by kernel_rfl, by kernel_rfl, by kernel_rfl⟩
theorem qq_sz (a b : Int) : Fits (reckon (tabOf Try.prog extY conL7 true) 300 6 [.int .u64 a, .int .u64 b] [cmp true, cmp true, cmp false, cmp false, cmp true]) (.bool true) [(b == 0, true), (sqF 0 (muP 0 a a) != 0, false), (sqP 0 (muP 0 a a) != (bNot a 9223372036854775808), false), (decide (U (muP 0 a a)), true), (decide ((bNot a 9223372036854775808) ≤ 9218868437227405312), true), (muF 0 a a == 0, true), (decide (U a ∧ U a), true)] := ⟨by kernel_rfl, by kernel_rfl, by kernel_rfl, by kernel_rfl⟩
theorem qq_si (a b : Int) : Fits (reckon (tabOf Try.prog extY conL7 true) 300 6 [.int .u64 a, .int .u64 b] [cmp true, cmp true, cmp false, cmp false, cmp false, cmp true]) (.bool true) [(decide (b ≥ 9218868437227405312), true), (b == 0, false), (sqF 0 (muP 0 a a) != 0, false), (sqP 0 (muP 0 a a) != (bNot a 9223372036854775808), false), (decide (U (muP 0 a a)), true), (decide ((bNot a 9223372036854775808) ≤ 9218868437227405312), true), (muF 0 a a == 0, true), (decide (U a ∧ U a), true)] := ⟨by kernel_rfl, by kernel_rfl, by kernel_rfl, by kernel_rfl⟩
theorem qq_se (a b : Int) : Fits (reckon (tabOf Try.prog extY conL7 true) 300 6 [.int .u64 a, .int .u64 b] [cmp true, cmp true, cmp false, cmp false, cmp false, cmp false, cmp true, cmp true, cmp true]) (.bool true) [(sqF 4 b == 0, true), (sqP 3 b == sqP 4 b, true), (sqF 4 b == sqF 3 b, true), lU b, lU b, (decide (b ≥ 9218868437227405312), false), (b == 0, false), (sqF 0 (muP 0 a a) != 0, false), (sqP 0 (muP 0 a a) != (bNot a 9223372036854775808), false), (decide (U (muP 0 a a)), true), (decide ((bNot a 9223372036854775808) ≤ 9218868437227405312), true), (muF 0 a a == 0, true), (decide (U a ∧ U a), true)] := ⟨by kernel_rfl, by kernel_rfl, by kernel_rfl, by kernel_rfl⟩
theorem qq_sx (a b : Int) : Fits (reckon (tabOf Try.prog extY conL7 true) 300 6 [.int .u64 a, .int .u64 b] [cmp true, cmp true, cmp false, cmp false, cmp false, cmp false, cmp true, cmp false, cmp true, cmp true]) (.bool true) [(sqF 4 b == 16, true), (sqP 3 b == IntKind.u64.wrap (sqP 4 b + 1), true), (sqP 3 b == sqP 4 b, false), (sqF 4 b == sqF 3 b, true), lU b, lU b, (decide (b ≥ 9218868437227405312), false), (b == 0, false), (sqF 0 (muP 0 a a) != 0, false), (sqP 0 (muP 0 a a) != (bNot a 9223372036854775808), false), (decide (U (muP 0 a a)), true), (decide ((bNot a 9223372036854775808) ≤ 9218868437227405312), true), (muF 0 a a == 0, true), (decide (U a ∧ U a), true)] := ⟨by kernel_rfl, by kernel_rfl, by kernel_rfl, by kernel_rfl⟩

theorem walk (a b : Int) (ha : U a) (hb : U b) (w : World) : Calls Try.prog 6 #[.int .u64 a, .int .u64 b] w fun e w' => e = .returned (.bool true) ∧ Tidy w w' := by
  have hv : ([.int .u64 a, .int .u64 b].all (lt 0)) = true := rfl
  have T := tabY_ok conL7_ok
  have ea := bNot_mag ha
  obtain ⟨c1, c2, c3⟩ := mag_cl a
  by_cases hf : muF 0 a a = 0
  · by_cases hn : 3 < cl a
    · have hm := c1.1 hn
      by_cases b0 : b = 0
      · exact fits_calls T (qq_nz a b) (okCons (beq_t b0) (okCons (decide_eq_false (by rw [ea]; omega)) (okCons (beq_t hf) (okL1 (decide_eq_true ⟨ha, ha⟩))))) hv (by rfl) w
      by_cases b9 : b ≥ 9218868437227405312
      · exact fits_calls T (qq_ni a b) (okCons (decide_eq_true b9) (okCons (beq_f b0) (okCons (decide_eq_false (by rw [ea]; omega)) (okCons (beq_t hf) (okL1 (decide_eq_true ⟨ha, ha⟩)))))) hv (by rfl) w
      have hb0 := hb.1
      obtain ⟨hs, l0, l9⟩ := sq_sides (b := b) (by omega) (by omega)
      rcases hs with ⟨p3, f3, f4⟩ | ⟨p3, f3, f4⟩
      · exact fits_calls T (qq_ne a b) (okCons (beq_t f4) (okCons (beq_t p3) (okCons (beq_t (by rw [f3, f4])) (okCons (decide_eq_true hb) (okCons (decide_eq_true hb) (okCons (decide_eq_false b9) (okCons (beq_f b0) (okCons (decide_eq_false (by rw [ea]; omega)) (okCons (beq_t hf) (okL1 (decide_eq_true ⟨ha, ha⟩))))))))))) hv (by rfl) w
      · exact fits_calls T (qq_nx a b) (okCons (beq_t f4) (okCons (beq_t (by rw [wrapU' ⟨by omega, by omega⟩]; exact p3)) (okCons (beq_f (by omega)) (okCons (beq_t (by rw [f3, f4])) (okCons (decide_eq_true hb) (okCons (decide_eq_true hb) (okCons (decide_eq_false b9) (okCons (beq_f b0) (okCons (decide_eq_false (by rw [ea]; omega)) (okCons (beq_t hf) (okL1 (decide_eq_true ⟨ha, ha⟩)))))))))))) hv (by rfl) w
    · have hm : ¬ 9218868437227405312 < mag a := fun h => hn (c1.2 h)
      obtain ⟨r1, r2⟩ := sq_back (a := a) (by omega) hf
      by_cases b0 : b = 0
      · exact fits_calls T (qq_sz a b) (okCons (beq_t b0) (okCons (bne_f r2) (okCons (bne_f (by rw [ea]; exact r1)) (okCons (decide_eq_true mu_U7) (okCons (decide_eq_true (by rw [ea]; omega)) (okCons (beq_t hf) (okL1 (decide_eq_true ⟨ha, ha⟩)))))))) hv (by rfl) w
      by_cases b9 : b ≥ 9218868437227405312
      · exact fits_calls T (qq_si a b) (okCons (decide_eq_true b9) (okCons (beq_f b0) (okCons (bne_f r2) (okCons (bne_f (by rw [ea]; exact r1)) (okCons (decide_eq_true mu_U7) (okCons (decide_eq_true (by rw [ea]; omega)) (okCons (beq_t hf) (okL1 (decide_eq_true ⟨ha, ha⟩))))))))) hv (by rfl) w
      have hb0 := hb.1
      obtain ⟨hs, l0, l9⟩ := sq_sides (b := b) (by omega) (by omega)
      rcases hs with ⟨p3, f3, f4⟩ | ⟨p3, f3, f4⟩
      · exact fits_calls T (qq_se a b) (okCons (beq_t f4) (okCons (beq_t p3) (okCons (beq_t (by rw [f3, f4])) (okCons (decide_eq_true hb) (okCons (decide_eq_true hb) (okCons (decide_eq_false b9) (okCons (beq_f b0) (okCons (bne_f r2) (okCons (bne_f (by rw [ea]; exact r1)) (okCons (decide_eq_true mu_U7) (okCons (decide_eq_true (by rw [ea]; omega)) (okCons (beq_t hf) (okL1 (decide_eq_true ⟨ha, ha⟩)))))))))))))) hv (by rfl) w
      · exact fits_calls T (qq_sx a b) (okCons (beq_t f4) (okCons (beq_t (by rw [wrapU' ⟨by omega, by omega⟩]; exact p3)) (okCons (beq_f (by omega)) (okCons (beq_t (by rw [f3, f4])) (okCons (decide_eq_true hb) (okCons (decide_eq_true hb) (okCons (decide_eq_false b9) (okCons (beq_f b0) (okCons (bne_f r2) (okCons (bne_f (by rw [ea]; exact r1)) (okCons (decide_eq_true mu_U7) (okCons (decide_eq_true (by rw [ea]; omega)) (okCons (beq_t hf) (okL1 (decide_eq_true ⟨ha, ha⟩))))))))))))))) hv (by rfl) w
  · by_cases b0 : b = 0
    · exact fits_calls T (qq_fz a b) (okCons (beq_t b0) (okCons (beq_f hf) (okL1 (decide_eq_true ⟨ha, ha⟩)))) hv (by rfl) w
    by_cases b9 : b ≥ 9218868437227405312
    · exact fits_calls T (qq_fi a b) (okCons (decide_eq_true b9) (okCons (beq_f b0) (okCons (beq_f hf) (okL1 (decide_eq_true ⟨ha, ha⟩))))) hv (by rfl) w
    have hb0 := hb.1
    obtain ⟨hs, l0, l9⟩ := sq_sides (b := b) (by omega) (by omega)
    rcases hs with ⟨p3, f3, f4⟩ | ⟨p3, f3, f4⟩
    · exact fits_calls T (qq_fe a b) (okCons (beq_t f4) (okCons (beq_t p3) (okCons (beq_t (by rw [f3, f4])) (okCons (decide_eq_true hb) (okCons (decide_eq_true hb) (okCons (decide_eq_false b9) (okCons (beq_f b0) (okCons (beq_f hf) (okL1 (decide_eq_true ⟨ha, ha⟩)))))))))) hv (by rfl) w
    · exact fits_calls T (qq_fx a b) (okCons (beq_t f4) (okCons (beq_t (by rw [wrapU' ⟨by omega, by omega⟩]; exact p3)) (okCons (beq_f (by omega)) (okCons (beq_t (by rw [f3, f4])) (okCons (decide_eq_true hb) (okCons (decide_eq_true hb) (okCons (decide_eq_false b9) (okCons (beq_f b0) (okCons (beq_f hf) (okL1 (decide_eq_true ⟨ha, ha⟩))))))))))) hv (by rfl) w
theorem own : ownKnob Try.prog.godebug = none := by kernel_rfl
set_option maxRecDepth 100000 in
theorem lifted (os : Os) (started : os.Started) (H : Type) (enc : TypeId × Value → H) :
    ReturnsInHanded {} Try.checked os 6 .any (Rows.quotSquaresSpec.pre6 enc Try.prog Try.f6 Rows.quotSquaresRow.domain false) (Rows.quotSquaresSpec.post enc Try.prog Try.f6 false true false false) := by
  refine returnsInHanded_of_change (C := Try.checked) own started (by kernel_rfl) Try.func6
    (ChangeSpec.witness6 (enc := enc) (C := Try.checked) false ⟨#[], #[.int .u64 0, .int .u64 0], []⟩ 8 (by kernel_rfl) (by kernel_rfl) (by kernel_rfl) (by kernel_rfl)) ?_
  intro W base args ds gs before hval0 hW hcnd _
  have hval : ∀ (j : Nat) t v, Try.f6.params[j]? = some t → args[j]? = some v → Value.okWide Try.prog W .any base t v := hval0
  have hW' := hW
  obtain ⟨p, q, hA0, hV, rfl, hfz, hnd⟩ := hW
  have hA : DataW.TrodAll enc Try.prog W 0 (fun _ => true) true Try.f6.params.toList args.toList ds p := hA0
  rw [Try.params6] at hA hval
  obtain ⟨v0, v1, d0, d1, p0, p1, rfl, rfl, rfl, h0, h1⟩ := trodAll_two hA
  obtain ⟨rfl, rfl⟩ := trodVars_none hV
  obtain ⟨x0, rfl, rfl, rfl, w0⟩ := open_int Try.underlying22 (hval 0 22 v0 rfl rfl) h0
  obtain ⟨x1, rfl, rfl, rfl, w1⟩ := open_int Try.underlying22 (hval 1 22 v1 rfl rfl) h1
  clear hA0 hval0
  simp only [List.append_nil] at hW'
  refine (walk x0 x1 (u64_bounds w0) (u64_bounds w1) W).mono fun e W' ⟨he, hg⟩ => ?_
  subst he
  exact ⟨_, rfl, post_of_same (pa := []) (pv := []) hW' (fun _ _ _ => trodAll_mk1 (shut_bool Try.underlying4 _))
    (fun sp _ => trodAll_mk2 (shut_int Try.underlying22 w0) (shut_int Try.underlying22 w1)) (fun _ _ => rfl) rfl
    (hg.1.frame _) (tidy_frozen hg) (ok_one (by kernel_rfl) rfl (okWide_bool_mk Try.underlying4 _))⟩

theorem proved : Rows.QuotSquaresSaid :=
  OpenClaim.holds_of_wide 6 Try.f6 rfl rfl rfl rfl rfl rfl rfl ⟨rfl, rfl, rfl, rfl, rfl⟩ rfl rfl rfl rfl rfl (by kernel_rfl) Try.func6 (by kernel_rfl)
    (of_decide_eq_true (by kernel_rfl)) (by unfold Func.isWrapper; first | (rw [if_pos (by decide +kernel)]; kernel_rfl) | (rw [if_neg (by decide +kernel)]; exact ⟨rfl, rfl⟩))
    (fun os started H enc _ => lifted os started H enc)
end Go.Proofs.Ytnolcojnodoecaa.quotSquares
