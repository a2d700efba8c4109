/-
  PROVED HERE: for every input the law tillerlaw17.CplxMuls returns true, and each argument reads afterwards as it read before: the product of any two pairs, and the flags, are the document's. No condition.
-/
import Derived.Test.YtekebccjflilnaaG27
import Derived.Test.YtekebccjflilnaaRows
namespace Go.Proofs.Ytekebccjflilnaa.cplxMuls
open Go.KRun Go.Pt Go.ChangeShapes Go.WideShapes Go.ChangeAt Go.RowKit Go.Wd Go.Rn
set_option linter.unusedVariables false
theorem cl2 (a b c d : Int) : Fits (reckon (tabOf Try.prog extY conL2 true) 300 4 [.agg #[.int .u64 a, .int .u64 b], .agg #[.int .u64 c, .int .u64 d]] []) (.bool true) [(decide (reP a b c d = reP a b c d ∧ imP a b c d = imP a b c d ∧ orB (orB (orB (muF 0 b d) (fmF 0 a c (ng (muP 0 b d)))) (muF 0 b c)) (fmF 0 a d (muP 0 b c)) = orI (orI (orI (muF 0 b d) (fmF 0 a c (ng (muP 0 b d)))) (muF 0 b c)) (fmF 0 a d (muP 0 b c)) ∧ 0 ≤ orB (orB (orB (muF 0 b d) (fmF 0 a c (ng (muP 0 b d)))) (muF 0 b c)) (fmF 0 a d (muP 0 b c)) ∧ orB (orB (orB (muF 0 b d) (fmF 0 a c (ng (muP 0 b d)))) (muF 0 b c)) (fmF 0 a d (muP 0 b c)) < 32), true), (decide (U a ∧ U b ∧ U c ∧ U d), true), (decide (U a ∧ U b ∧ U c ∧ U d), true), (decide (U a ∧ U b ∧ U c ∧ U d), true), (decide (U a ∧ U b ∧ U c ∧ U d), true), (decide (U a ∧ U b ∧ U c ∧ U d), true)] := ⟨by kernel_rfl, by kernel_rfl, by kernel_rfl, by kernel_rfl⟩
theorem walk (a b c d : Int) (ha : U a) (hb : U b) (hc : U c) (hd : U d) (w : World) : Calls Try.prog 4 #[.agg #[.int .u64 a, .int .u64 b], .agg #[.int .u64 c, .int .u64 d]] w fun e w' => e = .returned (.bool true) ∧ Tidy w w' := by
  have hv : ([.agg #[.int .u64 a, .int .u64 b], .agg #[.int .u64 c, .int .u64 d]].all (lt 0)) = true := rfl
  have k4 : decide (U a ∧ U b ∧ U c ∧ U d) = true := decide_eq_true ⟨ha, hb, hc, hd⟩
  exact fits_calls (tabY_ok conL2_ok) (cl2 a b c d) (okCons (is_met (or4_same (muF_5 _ _ _) (fmF_5 _ _ _ _) (muF_5 _ _ _) (fmF_5 _ _ _ _))) (okCons k4 (okCons k4 (okCons k4 (okCons k4 (okL1 k4)))))) hv (by rfl) w
theorem cells0 {l : List Value} (h : okC [some .u64, some .u64] l) : ∃ a b, l = [.int .u64 a, .int .u64 b] ∧ (Lit.int .u64 a).wf = true ∧ (Lit.int .u64 b).wf = true := by
  have hl := okC_length h
  obtain ⟨v0, v1, rfl⟩ : ∃ v0 v1, l = [v0, v1] := by
    match l, hl with
    | [v0, v1], _ => exact ⟨v0, v1, rfl⟩
  obtain ⟨⟨a, rfl, ka⟩, ⟨b, rfl, kb⟩, _⟩ := h
  exact ⟨a, b, rfl, ka, kb⟩
theorem cells1 {l : List Value} (h : okC [some .u64, some .u64] l) : ∃ c d, l = [.int .u64 c, .int .u64 d] ∧ (Lit.int .u64 c).wf = true ∧ (Lit.int .u64 d).wf = true := by
  have hl := okC_length h
  obtain ⟨v0, v1, rfl⟩ : ∃ v0 v1, l = [v0, v1] := by
    match l, hl with
    | [v0, v1], _ => exact ⟨v0, v1, rfl⟩
  obtain ⟨⟨c, rfl, kc⟩, ⟨d, rfl, kd⟩, _⟩ := h
  exact ⟨c, d, rfl, kc, kd⟩
theorem own : ownKnob Try.prog.godebug = none := by kernel_rfl
set_option maxRecDepth 100000 in
theorem lifted (os : Os) (started : os.Started) (H : Type) (enc : TypeId × Value → H) :
    ReturnsInHanded {} Try.checked os 4 .any (Rows.cplxMulsSpec.pre6 enc Try.prog Try.f4 Rows.cplxMulsRow.domain false) (Rows.cplxMulsSpec.post enc Try.prog Try.f4 false true false false) := by
  refine returnsInHanded_of_change (C := Try.checked) own started (by kernel_rfl) Try.func4
    (ChangeSpec.witness6 (enc := enc) (C := Try.checked) false ⟨#[], #[.agg #[.int .u64 0, .int .u64 0], .agg #[.int .u64 0, .int .u64 0]], []⟩ 8 (by kernel_rfl) (by kernel_rfl) (by kernel_rfl) (by kernel_rfl)) ?_
  intro W base args ds gs before hval0 hW hcnd _
  have hval : ∀ (j : Nat) t v, Try.f4.params[j]? = some t → args[j]? = some v → Value.okWide Try.prog W .any base t v := hval0
  have hW' := hW
  obtain ⟨p, q, hA0, hV, rfl, hfz, hnd⟩ := hW
  have hA : DataW.TrodAll enc Try.prog W 0 (fun _ => true) true Try.f4.params.toList args.toList ds p := hA0
  rw [Try.params4] at hA hval
  obtain ⟨v0, v1, d0, d1, p0, p1, rfl, rfl, rfl, h0, h1⟩ := trodAll_two hA
  obtain ⟨rfl, rfl⟩ := trodVars_none hV
  obtain ⟨c0, rfl, r0⟩ := flat_open (L := [some .u64, some .u64]) (by kernel_rfl) h0
  obtain ⟨cs0, rfl⟩ := agg_struct Try.underlying24 (hval 0 24 v0 rfl rfl)
  obtain ⟨a, b, hcs0, ka, kb⟩ := cells0 c0
  have hcs0' : cs0 = #[.int .u64 a, .int .u64 b] := by
    have := congrArg List.toArray hcs0
    simpa [Value.cells] using this
  subst hcs0'
  obtain ⟨c1, rfl, r1⟩ := flat_open (L := [some .u64, some .u64]) (by kernel_rfl) h1
  obtain ⟨cs1, rfl⟩ := agg_struct Try.underlying24 (hval 1 24 v1 rfl rfl)
  obtain ⟨c, d, hcs1, kc, kd⟩ := cells1 c1
  have hcs1' : cs1 = #[.int .u64 c, .int .u64 d] := by
    have := congrArg List.toArray hcs1
    simpa [Value.cells] using this
  subst hcs1'
  clear hA0 hval0
  simp only [List.append_nil] at hW'
  refine (walk a b c d (u64_bounds ka) (u64_bounds kb) (u64_bounds kc) (u64_bounds kd) W).mono fun e W' ⟨he, hg⟩ => ?_
  subst he
  exact ⟨_, rfl, post_of_same (pa := []) (pv := []) hW' (fun _ _ _ => trodAll_mk1 (shut_bool Try.underlying4 _))
    (fun sp _ => trodAll_mk2 (r0 _ _ _ _) (r1 _ _ _ _)) (fun _ _ => rfl) rfl
    (hg.1.frame _) (tidy_frozen hg) (ok_one (by kernel_rfl) rfl (okWide_bool_mk Try.underlying4 _))⟩
theorem proved : Rows.CplxMulsSaid :=
  OpenClaim.holds_of_wide 4 Try.f4 rfl rfl rfl rfl rfl rfl rfl ⟨rfl, rfl, rfl, rfl, rfl⟩ rfl rfl rfl rfl rfl (by kernel_rfl) Try.func4 (by kernel_rfl)
    (of_decide_eq_true (by kernel_rfl)) (by unfold Func.isWrapper; first | (rw [if_pos (by decide +kernel)]; kernel_rfl) | (rw [if_neg (by decide +kernel)]; exact ⟨rfl, rfl⟩))
    (fun os started H enc _ => lifted os started H enc)
end Go.Proofs.Ytekebccjflilnaa.cplxMuls
