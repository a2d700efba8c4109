/-
  PROVED HERE: for every input the law tillerlaw05.SumsTwo returns true, and each argument reads afterwards as it read before: where nothing is lost of a sum and of it less one of its parts, the other part is left. No condition.
-/
import Derived.Test.YtgmfnecdpfdncaaSuS
import Derived.Test.YtgmfnecdpfdncaaSuM
import Derived.Test.YtgmfnecdpfdncaaFlat
import Derived.Test.YtgmfnecdpfdncaaRows
namespace Go.Proofs.Ytgmfnecdpfdncaa.sumsTwo
open Go.KRun Go.Pt Go.ChangeShapes Go.WideShapes Go.ChangeAt Go.RowKit Go.Wd Go.Rn
set_option linter.unusedVariables false

theorem tw_0 (a b : Int) : Fits (reckon (tabOf Try.prog extY conS5 true) 300 6 [.int .u64 a, .int .u64 b] [cmp true]) (.bool true) [(suF 0 a b != 0, true), (decide (U (suP 0 a b) ∧ U (bXor a 9223372036854775808)), true), (decide (U a ∧ U b), true)] := ⟨by kernel_rfl, by kernel_rfl, by kernel_rfl, by kernel_rfl⟩
theorem tw_1 (a b : Int) : Fits (reckon (tabOf Try.prog extY conS5 true) 300 6 [.int .u64 a, .int .u64 b] [cmp false, cmp true]) (.bool true) [(suF 0 (suP 0 a b) (bXor a 9223372036854775808) != 0, true), (suF 0 a b != 0, false), (decide (U (suP 0 a b) ∧ U (bXor a 9223372036854775808)), true), (decide (U a ∧ U b), true)] := ⟨by kernel_rfl, by kernel_rfl, by kernel_rfl, by kernel_rfl⟩
theorem tw_2 (a b : Int) : Fits (reckon (tabOf Try.prog extY conS5 true) 300 6 [.int .u64 a, .int .u64 b] [cmp false, cmp false, cmp true]) (.bool true) [(decide ((bNot (suP 0 a b) 9223372036854775808) ≥ 9218868437227405312), true), (suF 0 (suP 0 a b) (bXor a 9223372036854775808) != 0, false), (suF 0 a b != 0, false), (decide (U (suP 0 a b) ∧ U (bXor a 9223372036854775808)), true), (decide (U a ∧ U b), true)] := ⟨by kernel_rfl, by kernel_rfl, by kernel_rfl, by kernel_rfl⟩
theorem tw_3 (a b : Int) : Fits (reckon (tabOf Try.prog extY conS5 true) 300 6 [.int .u64 a, .int .u64 b] [cmp false, cmp false, cmp false, cmp true]) (.bool true) [(decide ((bNot a 9223372036854775808) ≥ 9218868437227405312), true), (decide ((bNot (suP 0 a b) 9223372036854775808) ≥ 9218868437227405312), false), (suF 0 (suP 0 a b) (bXor a 9223372036854775808) != 0, false), (suF 0 a b != 0, false), (decide (U (suP 0 a b) ∧ U (bXor a 9223372036854775808)), true), (decide (U a ∧ U b), true)] := ⟨by kernel_rfl, by kernel_rfl, by kernel_rfl, by kernel_rfl⟩
theorem tw_4 (a b : Int) : Fits (reckon (tabOf Try.prog extY conS5 true) 300 6 [.int .u64 a, .int .u64 b] [cmp false, cmp false, cmp false, cmp false, cmp true]) (.bool true) [((bNot b 9223372036854775808) == 0, true), (decide ((bNot a 9223372036854775808) ≥ 9218868437227405312), false), (decide ((bNot (suP 0 a b) 9223372036854775808) ≥ 9218868437227405312), false), (suF 0 (suP 0 a b) (bXor a 9223372036854775808) != 0, false), (suF 0 a b != 0, false), (decide (U (suP 0 a b) ∧ U (bXor a 9223372036854775808)), true), (decide (U a ∧ U b), true)] := ⟨by kernel_rfl, by kernel_rfl, by kernel_rfl, by kernel_rfl⟩
theorem tw_x (a b : Int) : Fits (reckon (tabOf Try.prog extY conS5 true) 300 6 [.int .u64 a, .int .u64 b] [cmp false, cmp false, cmp false, cmp false, cmp false, cmp true]) (.bool true) [(suP 0 (suP 0 a b) (bXor a 9223372036854775808) == b, true), ((bNot b 9223372036854775808) == 0, false), (decide ((bNot a 9223372036854775808) ≥ 9218868437227405312), false), (decide ((bNot (suP 0 a b) 9223372036854775808) ≥ 9218868437227405312), false), (suF 0 (suP 0 a b) (bXor a 9223372036854775808) != 0, false), (suF 0 a b != 0, false), (decide (U (suP 0 a b) ∧ U (bXor a 9223372036854775808)), true), (decide (U a ∧ U b), true)] := ⟨by kernel_rfl, by kernel_rfl, by kernel_rfl, by kernel_rfl⟩

theorem walk (a b : Int) (ha : U a) (hb : U b) (w : World) : Calls Try.prog 6 #[.int .u64 a, .int .u64 b] w fun e w' => e = .returned (.bool true) ∧ Tidy w w' := by
  have hv : ([.int .u64 a, .int .u64 b].all (lt 0)) = true := rfl
  have hs := su_U (m := 0) ha hb
  have k1 : decide (U a ∧ U b) = true := decide_eq_true ⟨ha, hb⟩
  have k2 : decide (U (suP 0 a b) ∧ U (bXor a 9223372036854775808)) = true := decide_eq_true ⟨hs, by rw [bXor_ng ha]; exact (ng_parts ha).1⟩
  by_cases h0 : suF 0 a b = 0
  · by_cases h1 : suF 0 (suP 0 a b) (bXor a 9223372036854775808) = 0
    · by_cases h2 : bNot (suP 0 a b) 9223372036854775808 ≥ 9218868437227405312
      · exact fits_calls (tabY_ok conS5_ok) (tw_2 a b) (okCons (decide_eq_true h2) (okCons (bne_f h1) (okCons (bne_f h0) (okCons k2 (okL1 k1))))) hv (by rfl) w
      · by_cases h3 : bNot a 9223372036854775808 ≥ 9218868437227405312
        · exact fits_calls (tabY_ok conS5_ok) (tw_3 a b) (okCons (decide_eq_true h3) (okCons (decide_eq_false h2) (okCons (bne_f h1) (okCons (bne_f h0) (okCons k2 (okL1 k1)))))) hv (by rfl) w
        · by_cases h4 : bNot b 9223372036854775808 = 0
          · exact fits_calls (tabY_ok conS5_ok) (tw_4 a b) (okCons (beq_t h4) (okCons (decide_eq_false h3) (okCons (decide_eq_false h2) (okCons (bne_f h1) (okCons (bne_f h0) (okCons k2 (okL1 k1))))))) hv (by rfl) w
          · have e := su_two ha hb h0 (by rw [bNot_mag hs] at h2; omega) (by rw [bNot_mag ha] at h3; omega) (by rw [bNot_mag hb] at h4; exact h4)
            rw [← bXor_ng ha] at e
            exact fits_calls (tabY_ok conS5_ok) (tw_x a b) (okCons (beq_t e) (okCons (beq_f h4) (okCons (decide_eq_false h3) (okCons (decide_eq_false h2) (okCons (bne_f h1) (okCons (bne_f h0) (okCons k2 (okL1 k1)))))))) hv (by rfl) w
    · exact fits_calls (tabY_ok conS5_ok) (tw_1 a b) (okCons (bne_t h1) (okCons (bne_f h0) (okCons k2 (okL1 k1)))) hv (by rfl) w
  · exact fits_calls (tabY_ok conS5_ok) (tw_0 a b) (okCons (bne_t h0) (okCons k2 (okL1 k1))) hv (by rfl) w
theorem own : ownKnob Try.prog.godebug = none := by kernel_rfl
set_option maxRecDepth 100000 in
theorem lifted (os : Os) (started : os.Started) (H : Type) (enc : TypeId × Value → H) :
    ReturnsInHanded {} Try.checked os 6 .any (Rows.sumsTwoSpec.pre6 enc Try.prog Try.f6 Rows.sumsTwoRow.domain false) (Rows.sumsTwoSpec.post enc Try.prog Try.f6 false true false false) := by
  refine returnsInHanded_of_change (C := Try.checked) own started (by kernel_rfl) Try.func6
    (ChangeSpec.witness6 (enc := enc) (C := Try.checked) false ⟨#[], #[.int .u64 0, .int .u64 0], []⟩ 8 (by kernel_rfl) (by kernel_rfl) (by kernel_rfl) (by kernel_rfl)) ?_
  intro W base args ds gs before hval0 hW hcnd _
  have hval : ∀ (j : Nat) t v, Try.f6.params[j]? = some t → args[j]? = some v → Value.okWide Try.prog W .any base t v := hval0
  have hW' := hW
  obtain ⟨p, q, hA0, hV, rfl, hfz, hnd⟩ := hW
  have hA : DataW.TrodAll enc Try.prog W 0 (fun _ => true) true Try.f6.params.toList args.toList ds p := hA0
  rw [Try.params6] at hA hval
  obtain ⟨v0, v1, d0, d1, p0, p1, rfl, rfl, rfl, h0, h1⟩ := trodAll_two hA
  obtain ⟨rfl, rfl⟩ := trodVars_none hV
  obtain ⟨x0, rfl, rfl, rfl, w0⟩ := open_int Try.underlying22 (hval 0 22 v0 rfl rfl) h0
  obtain ⟨x1, rfl, rfl, rfl, w1⟩ := open_int Try.underlying22 (hval 1 22 v1 rfl rfl) h1
  clear hA0 hval0
  simp only [List.append_nil] at hW'
  refine (walk x0 x1 (u64_bounds w0) (u64_bounds w1) W).mono fun e W' ⟨he, hg⟩ => ?_
  subst he
  exact ⟨_, rfl, post_of_same (pa := []) (pv := []) hW' (fun _ _ _ => trodAll_mk1 (shut_bool Try.underlying4 _))
    (fun sp _ => trodAll_mk2 (shut_int Try.underlying22 w0) (shut_int Try.underlying22 w1)) (fun _ _ => rfl) rfl
    (hg.1.frame _) (tidy_frozen hg) (ok_one (by kernel_rfl) rfl (okWide_bool_mk Try.underlying4 _))⟩

theorem proved : Rows.SumsTwoSaid :=
  OpenClaim.holds_of_wide 6 Try.f6 rfl rfl rfl rfl rfl rfl rfl ⟨rfl, rfl, rfl, rfl, rfl⟩ rfl rfl rfl rfl rfl (by kernel_rfl) Try.func6 (by kernel_rfl)
    (of_decide_eq_true (by kernel_rfl)) (by unfold Func.isWrapper; first | (rw [if_pos (by decide +kernel)]; kernel_rfl) | (rw [if_neg (by decide +kernel)]; exact ⟨rfl, rfl⟩))
    (fun os started H enc _ => lifted os started H enc)
end Go.Proofs.Ytgmfnecdpfdncaa.sumsTwo
