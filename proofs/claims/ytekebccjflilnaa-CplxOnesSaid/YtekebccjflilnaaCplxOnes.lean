/-
  PROVED HERE: for every input the law tillerlaw17.CplxOnes returns true, and each argument reads afterwards as it read before: times 1 a pair of numbers stays, times i it is turned, but for noughts' signs; less itself it is nothing; all without flags. No condition.
-/
import Derived.Test.YtekebccjflilnaaG27
import Derived.Test.YtekebccjflilnaaRows
namespace Go.Proofs.Ytekebccjflilnaa.cplxOnes
open Go.KRun Go.Pt Go.ChangeShapes Go.WideShapes Go.ChangeAt Go.RowKit Go.Wd Go.Rn
set_option linter.unusedVariables false
theorem co_1 (a b : Int) : Fits (reckon (tabOf Try.prog extY conL4 true) 300 6 [.agg #[.int .u64 a, .int .u64 b]] [cmp true, cmp true]) (.bool true) [(decide ((bNot a 9223372036854775808) ≥ 9218868437227405312), true), (decide ((0 : Int) < ((2 : Nat) : Int)), true)] := ⟨by kernel_rfl, by kernel_rfl, by kernel_rfl, by kernel_rfl⟩
theorem co_2 (a b : Int) : Fits (reckon (tabOf Try.prog extY conL4 true) 300 6 [.agg #[.int .u64 a, .int .u64 b]] [cmp true, cmp false, cmp true, cmp true]) (.bool true) [(decide ((bNot b 9223372036854775808) ≥ 9218868437227405312), true), (decide (IntKind.i64.wrap (0 + 1) < ((2 : Nat) : Int)), true), (decide ((bNot a 9223372036854775808) ≥ 9218868437227405312), false), (decide ((0 : Int) < ((2 : Nat) : Int)), true)] := ⟨by kernel_rfl, by kernel_rfl, by kernel_rfl, by kernel_rfl⟩
theorem co_3 (a b : Int) : Fits (reckon (tabOf Try.prog extY conL4 true) 300 6 [.agg #[.int .u64 a, .int .u64 b]] [cmp true, cmp false, cmp true, cmp false, cmp false, cmp true, cmp true, cmp true, sam true]) (.bool true) [(suP 0 a (ng a) == 0 && (suP 0 b (ng b) == 0 && true), true), (decide (nrB (reP a b 0 4607182418800017408) (ng b) ∧ nrB (imP a b 0 4607182418800017408) a ∧ U (reP a b 0 4607182418800017408) ∧ U (imP a b 0 4607182418800017408) ∧ U (ng b) ∧ U a), true), (decide (nrB (reP a b 4607182418800017408 0) a ∧ nrB (imP a b 4607182418800017408 0) b ∧ U (reP a b 4607182418800017408 0) ∧ U (imP a b 4607182418800017408 0) ∧ U a ∧ U b), true), (orB (suF 0 a (ng a)) (suF 0 b (ng b)) == 0, true), (orB (orB (orB (muF 0 b 4607182418800017408) (fmF 0 a 0 (ng (muP 0 b 4607182418800017408)))) (muF 0 b 0)) (fmF 0 a 4607182418800017408 (muP 0 b 0)) == 0, true), (orB (orB (orB (muF 0 b 0) (fmF 0 a 4607182418800017408 (ng (muP 0 b 0)))) (muF 0 b 4607182418800017408)) (fmF 0 a 0 (muP 0 b 4607182418800017408)) == 0, true), (decide (U a ∧ U b), true), (decide (U a ∧ U b ∧ U a ∧ U b), true), (decide (U a ∧ U b ∧ U a ∧ U b), true), (decide (U a ∧ U b ∧ U a ∧ U b), true), (decide (U a ∧ U b ∧ U a ∧ U b), true), (decide (U a ∧ U b ∧ U 0 ∧ U 4607182418800017408), true), (decide (U a ∧ U b ∧ U 4607182418800017408 ∧ U 0), true), (decide (IntKind.i64.wrap (IntKind.i64.wrap (0 + 1) + 1) < ((2 : Nat) : Int)), false), (decide ((bNot b 9223372036854775808) ≥ 9218868437227405312), false), (decide (IntKind.i64.wrap (0 + 1) < ((2 : Nat) : Int)), true), (decide ((bNot a 9223372036854775808) ≥ 9218868437227405312), false), (decide ((0 : Int) < ((2 : Nat) : Int)), true)] := ⟨by kernel_rfl, by kernel_rfl, by kernel_rfl, by kernel_rfl⟩
theorem walk (a b : Int) (ha : U a) (hb : U b) (w : World) : Calls Try.prog 6 #[.agg #[.int .u64 a, .int .u64 b]] w fun e w' => e = .returned (.bool true) ∧ Tidy w w' := by
  have hv : ([.agg #[.int .u64 a, .int .u64 b]].all (lt 0)) = true := rfl
  by_cases h1 : bNot a 9223372036854775808 ≥ 9218868437227405312
  · exact fits_calls (tabY_ok conL4_ok) (co_1 a b) (okCons (decide_eq_true h1) (okL1 (by decide))) hv (by rfl) w
  by_cases h2 : bNot b 9223372036854775808 ≥ 9218868437227405312
  · exact fits_calls (tabY_ok conL4_ok) (co_2 a b) (okCons (decide_eq_true h2) (okCons (by decide) (okCons (decide_eq_false h1) (okL1 (by decide))))) hv (by rfl) w
  have ca : cl a ≤ 2 := (mag_cl a).2.2.2 (by rw [bNot_mag ha] at h1; omega)
  have cb : cl b ≤ 2 := (mag_cl b).2.2.2 (by rw [bNot_mag hb] at h2; omega)
  obtain ⟨o1, o2, o3, o4, o5, o6, o7, o8⟩ := ones_all ha hb ca cb
  exact fits_calls (tabY_ok conL4_ok) (co_3 a b) (okCons o1 (okCons (decide_eq_true ⟨o2, o3, fm_U _ _ _ (ng_parts (mu_U 0 b _)).1, fm_U _ _ _ (mu_U 0 b _), (ng_parts hb).1, ha⟩) (okCons (decide_eq_true ⟨o4, o5, fm_U _ _ _ (ng_parts (mu_U 0 b _)).1, fm_U _ _ _ (mu_U 0 b _), ha, hb⟩) (okCons (beq_t o6) (okCons (beq_t o7) (okCons (beq_t o8) (okCons (decide_eq_true ⟨ha, hb⟩) (okCons (decide_eq_true ⟨ha, hb, ha, hb⟩) (okCons (decide_eq_true ⟨ha, hb, ha, hb⟩) (okCons (decide_eq_true ⟨ha, hb, ha, hb⟩) (okCons (decide_eq_true ⟨ha, hb, ha, hb⟩) (okCons (decide_eq_true ⟨ha, hb, by decide, by decide⟩) (okCons (decide_eq_true ⟨ha, hb, by decide, by decide⟩) (okCons (by decide) (okCons (decide_eq_false h2) (okCons (by decide) (okCons (decide_eq_false h1) (okL1 (by decide))))))))))))))))))) hv (by rfl) w
theorem cells0 {l : List Value} (h : okC [some .u64, some .u64] l) : ∃ a b, l = [.int .u64 a, .int .u64 b] ∧ (Lit.int .u64 a).wf = true ∧ (Lit.int .u64 b).wf = true := by
  have hl := okC_length h
  obtain ⟨v0, v1, rfl⟩ : ∃ v0 v1, l = [v0, v1] := by
    match l, hl with
    | [v0, v1], _ => exact ⟨v0, v1, rfl⟩
  obtain ⟨⟨a, rfl, ka⟩, ⟨b, rfl, kb⟩, _⟩ := h
  exact ⟨a, b, rfl, ka, kb⟩
theorem own : ownKnob Try.prog.godebug = none := by kernel_rfl
set_option maxRecDepth 100000 in
theorem lifted (os : Os) (started : os.Started) (H : Type) (enc : TypeId × Value → H) :
    ReturnsInHanded {} Try.checked os 6 .any (Rows.cplxOnesSpec.pre6 enc Try.prog Try.f6 Rows.cplxOnesRow.domain false) (Rows.cplxOnesSpec.post enc Try.prog Try.f6 false true false false) := by
  refine returnsInHanded_of_change (C := Try.checked) own started (by kernel_rfl) Try.func6
    (ChangeSpec.witness6 (enc := enc) (C := Try.checked) false ⟨#[], #[.agg #[.int .u64 0, .int .u64 0]], []⟩ 8 (by kernel_rfl) (by kernel_rfl) (by kernel_rfl) (by kernel_rfl)) ?_
  intro W base args ds gs before hval0 hW hcnd _
  have hval : ∀ (j : Nat) t v, Try.f6.params[j]? = some t → args[j]? = some v → Value.okWide Try.prog W .any base t v := hval0
  have hW' := hW
  obtain ⟨p, q, hA0, hV, rfl, hfz, hnd⟩ := hW
  have hA : DataW.TrodAll enc Try.prog W 0 (fun _ => true) true Try.f6.params.toList args.toList ds p := hA0
  rw [Try.params6] at hA hval
  obtain ⟨v0, d0, rfl, rfl, h0⟩ := trodAll_one hA
  obtain ⟨rfl, rfl⟩ := trodVars_none hV
  obtain ⟨c0, rfl, r0⟩ := flat_open (L := [some .u64, some .u64]) (by kernel_rfl) h0
  obtain ⟨cs0, rfl⟩ := agg_struct Try.underlying24 (hval 0 24 v0 rfl rfl)
  obtain ⟨a, b, hcs0, ka, kb⟩ := cells0 c0
  have hcs0' : cs0 = #[.int .u64 a, .int .u64 b] := by
    have := congrArg List.toArray hcs0
    simpa [Value.cells] using this
  subst hcs0'
  clear hA0 hval0
  simp only [List.append_nil] at hW'
  refine (walk a b (u64_bounds ka) (u64_bounds kb) W).mono fun e W' ⟨he, hg⟩ => ?_
  subst he
  exact ⟨_, rfl, post_of_same (pa := []) (pv := []) hW' (fun _ _ _ => trodAll_mk1 (shut_bool Try.underlying4 _))
    (fun sp _ => trodAll_mk1 (r0 _ _ _ _)) (fun _ _ => rfl) rfl
    (hg.1.frame _) (tidy_frozen hg) (ok_one (by kernel_rfl) rfl (okWide_bool_mk Try.underlying4 _))⟩
theorem proved : Rows.CplxOnesSaid :=
  OpenClaim.holds_of_wide 6 Try.f6 rfl rfl rfl rfl rfl rfl rfl ⟨rfl, rfl, rfl, rfl, rfl⟩ rfl rfl rfl rfl rfl (by kernel_rfl) Try.func6 (by kernel_rfl)
    (of_decide_eq_true (by kernel_rfl)) (by unfold Func.isWrapper; first | (rw [if_pos (by decide +kernel)]; kernel_rfl) | (rw [if_neg (by decide +kernel)]; exact ⟨rfl, rfl⟩))
    (fun os started H enc _ => lifted os started H enc)
end Go.Proofs.Ytekebccjflilnaa.cplxOnes
