/-
  PROVED HERE: for every input the law tillerlaw17.CplxSums returns true, and each argument reads afterwards as it read before: the sum and the difference of any two pairs, and the flags, are the document's. No condition.
-/
import Derived.Test.YtekebccjflilnaaG27
import Derived.Test.YtekebccjflilnaaRows
namespace Go.Proofs.Ytekebccjflilnaa.cplxSums
open Go.KRun Go.Pt Go.ChangeShapes Go.WideShapes Go.ChangeAt Go.RowKit Go.Wd Go.Rn
set_option linter.unusedVariables false
theorem cl1 (a b c d : Int) : Fits (reckon (tabOf Try.prog extY conL1 true) 300 3 [.agg #[.int .u64 a, .int .u64 b], .agg #[.int .u64 c, .int .u64 d]] []) (.bool true) [(decide (suP 0 a (ng c) = suP 0 a (ng c) ∧ suP 0 b (ng d) = suP 0 b (ng d) ∧ orB (suF 0 a (ng c)) (suF 0 b (ng d)) = orI (suF 0 a (ng c)) (suF 0 b (ng d)) ∧ 0 ≤ orB (suF 0 a (ng c)) (suF 0 b (ng d)) ∧ orB (suF 0 a (ng c)) (suF 0 b (ng d)) < 32), true), (decide (suP 0 a c = suP 0 a c ∧ suP 0 b d = suP 0 b d ∧ orB (suF 0 a c) (suF 0 b d) = orI (suF 0 a c) (suF 0 b d) ∧ 0 ≤ orB (suF 0 a c) (suF 0 b d) ∧ orB (suF 0 a c) (suF 0 b d) < 32), true), (decide (U a ∧ U b ∧ U c ∧ U d), true), (decide (U a ∧ U b ∧ U c ∧ U d), true), (decide (U a ∧ U b ∧ U c ∧ U d), true), (decide (U a ∧ U b ∧ U c ∧ U d), true), (decide (U a ∧ U b ∧ U c ∧ U d), true), (decide (U a ∧ U b ∧ U c ∧ U d), true), (decide (U a ∧ U b ∧ U c ∧ U d), true), (decide (U a ∧ U b ∧ U c ∧ U d), true), (decide (U a ∧ U b ∧ U c ∧ U d), true), (decide (U a ∧ U b ∧ U c ∧ U d), true)] := ⟨by kernel_rfl, by kernel_rfl, by kernel_rfl, by kernel_rfl⟩
theorem walk (a b c d : Int) (ha : U a) (hb : U b) (hc : U c) (hd : U d) (w : World) : Calls Try.prog 3 #[.agg #[.int .u64 a, .int .u64 b], .agg #[.int .u64 c, .int .u64 d]] w fun e w' => e = .returned (.bool true) ∧ Tidy w w' := by
  have hv : ([.agg #[.int .u64 a, .int .u64 b], .agg #[.int .u64 c, .int .u64 d]].all (lt 0)) = true := rfl
  have k4 : decide (U a ∧ U b ∧ U c ∧ U d) = true := decide_eq_true ⟨ha, hb, hc, hd⟩
  exact fits_calls (tabY_ok conL1_ok) (cl1 a b c d) (okCons (is_met (or_same (suF_5 _ _ _) (suF_5 _ _ _))) (okCons (is_met (or_same (suF_5 _ _ _) (suF_5 _ _ _))) (okCons k4 (okCons k4 (okCons k4 (okCons k4 (okCons k4 (okCons k4 (okCons k4 (okCons k4 (okCons k4 (okL1 k4)))))))))))) hv (by rfl) w
theorem cells0 {l : List Value} (h : okC [some .u64, some .u64] l) : ∃ a b, l = [.int .u64 a, .int .u64 b] ∧ (Lit.int .u64 a).wf = true ∧ (Lit.int .u64 b).wf = true := by
  have hl := okC_length h
  obtain ⟨v0, v1, rfl⟩ : ∃ v0 v1, l = [v0, v1] := by
    match l, hl with
    | [v0, v1], _ => exact ⟨v0, v1, rfl⟩
  obtain ⟨⟨a, rfl, ka⟩, ⟨b, rfl, kb⟩, _⟩ := h
  exact ⟨a, b, rfl, ka, kb⟩
theorem cells1 {l : List Value} (h : okC [some .u64, some .u64] l) : ∃ c d, l = [.int .u64 c, .int .u64 d] ∧ (Lit.int .u64 c).wf = true ∧ (Lit.int .u64 d).wf = true := by
  have hl := okC_length h
  obtain ⟨v0, v1, rfl⟩ : ∃ v0 v1, l = [v0, v1] := by
    match l, hl with
    | [v0, v1], _ => exact ⟨v0, v1, rfl⟩
  obtain ⟨⟨c, rfl, kc⟩, ⟨d, rfl, kd⟩, _⟩ := h
  exact ⟨c, d, rfl, kc, kd⟩
theorem own : ownKnob Try.prog.godebug = none := by kernel_rfl
set_option maxRecDepth 100000 in
theorem lifted (os : Os) (started : os.Started) (H : Type) (enc : TypeId × Value → H) :
    ReturnsInHanded {} Try.checked os 3 .any (Rows.cplxSumsSpec.pre6 enc Try.prog Try.f3 Rows.cplxSumsRow.domain false) (Rows.cplxSumsSpec.post enc Try.prog Try.f3 false true false false) := by
  refine returnsInHanded_of_change (C := Try.checked) own started (by kernel_rfl) Try.func3
    (ChangeSpec.witness6 (enc := enc) (C := Try.checked) false ⟨#[], #[.agg #[.int .u64 0, .int .u64 0], .agg #[.int .u64 0, .int .u64 0]], []⟩ 8 (by kernel_rfl) (by kernel_rfl) (by kernel_rfl) (by kernel_rfl)) ?_
  intro W base args ds gs before hval0 hW hcnd _
  have hval : ∀ (j : Nat) t v, Try.f3.params[j]? = some t → args[j]? = some v → Value.okWide Try.prog W .any base t v := hval0
  have hW' := hW
  obtain ⟨p, q, hA0, hV, rfl, hfz, hnd⟩ := hW
  have hA : DataW.TrodAll enc Try.prog W 0 (fun _ => true) true Try.f3.params.toList args.toList ds p := hA0
  rw [Try.params3] at hA hval
  obtain ⟨v0, v1, d0, d1, p0, p1, rfl, rfl, rfl, h0, h1⟩ := trodAll_two hA
  obtain ⟨rfl, rfl⟩ := trodVars_none hV
  obtain ⟨c0, rfl, r0⟩ := flat_open (L := [some .u64, some .u64]) (by kernel_rfl) h0
  obtain ⟨cs0, rfl⟩ := agg_struct Try.underlying24 (hval 0 24 v0 rfl rfl)
  obtain ⟨a, b, hcs0, ka, kb⟩ := cells0 c0
  have hcs0' : cs0 = #[.int .u64 a, .int .u64 b] := by
    have := congrArg List.toArray hcs0
    simpa [Value.cells] using this
  subst hcs0'
  obtain ⟨c1, rfl, r1⟩ := flat_open (L := [some .u64, some .u64]) (by kernel_rfl) h1
  obtain ⟨cs1, rfl⟩ := agg_struct Try.underlying24 (hval 1 24 v1 rfl rfl)
  obtain ⟨c, d, hcs1, kc, kd⟩ := cells1 c1
  have hcs1' : cs1 = #[.int .u64 c, .int .u64 d] := by
    have := congrArg List.toArray hcs1
    simpa [Value.cells] using this
  subst hcs1'
  clear hA0 hval0
  simp only [List.append_nil] at hW'
  refine (walk a b c d (u64_bounds ka) (u64_bounds kb) (u64_bounds kc) (u64_bounds kd) W).mono fun e W' ⟨he, hg⟩ => ?_
  subst he
  exact ⟨_, rfl, post_of_same (pa := []) (pv := []) hW' (fun _ _ _ => trodAll_mk1 (shut_bool Try.underlying4 _))
    (fun sp _ => trodAll_mk2 (r0 _ _ _ _) (r1 _ _ _ _)) (fun _ _ => rfl) rfl
    (hg.1.frame _) (tidy_frozen hg) (ok_one (by kernel_rfl) rfl (okWide_bool_mk Try.underlying4 _))⟩
theorem proved : Rows.CplxSumsSaid :=
  OpenClaim.holds_of_wide 3 Try.f3 rfl rfl rfl rfl rfl rfl rfl ⟨rfl, rfl, rfl, rfl, rfl⟩ rfl rfl rfl rfl rfl (by kernel_rfl) Try.func3 (by kernel_rfl)
    (of_decide_eq_true (by kernel_rfl)) (by unfold Func.isWrapper; first | (rw [if_pos (by decide +kernel)]; kernel_rfl) | (rw [if_neg (by decide +kernel)]; exact ⟨rfl, rfl⟩))
    (fun os started H enc _ => lifted os started H enc)
end Go.Proofs.Ytekebccjflilnaa.cplxSums
