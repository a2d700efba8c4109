/-
  PROVED HERE: for every input the law tillerlaw06.ProdFmas returns true, and each argument reads afterwards as it read before: the product of any two patterns with any third one added, rounded once, by any mode, and the flags, are the document's. No condition.
-/
import Derived.Test.YtecaahiajbkioaaG34
import Derived.Test.YtecaahiajbkioaaG35
import Derived.Test.YtecaahiajbkioaaRows
namespace Go.Proofs.Ytecaahiajbkioaa.prodFmas
open Go.KRun Go.Pt Go.ChangeShapes Go.WideShapes Go.ChangeAt Go.RowKit Go.Wd Go.Rn
set_option linter.unusedVariables false

theorem pf (a b c m : Int) : Fits (reckon (tabOf Try.prog extY conS6R true) 300 4 [.agg #[.int .u64 a, .int .u64 b, .int .u64 c], .int .i64 m] [cmp true, cmp true]) (.bool true) [(IntKind.i64.wrap (fmF m a b c) == fmF m a b c, true), (fmP m a b c == fmP m a b c, true), (decide (U a ∧ U b ∧ U c), true), (decide (U a ∧ U b ∧ U c), true)] := ⟨by kernel_rfl, by kernel_rfl, by kernel_rfl, by kernel_rfl⟩

theorem walk (a b c m : Int) (ha : U a) (hb : U b) (hc : U c) (w : World) : Calls Try.prog 4 #[.agg #[.int .u64 a, .int .u64 b, .int .u64 c], .int .i64 m] w fun e w' => e = .returned (.bool true) ∧ Tidy w w' := by
  have hv : ([.agg #[.int .u64 a, .int .u64 b, .int .u64 c], .int .i64 m].all (lt 0)) = true := rfl
  have k1 : decide (U a ∧ U b ∧ U c) = true := decide_eq_true ⟨ha, hb, hc⟩
  have hF := fmF_bd m a b c
  exact fits_calls (tabY_ok conS6R_ok) (pf a b c m) (okCons (beq_t (wrapI' ⟨by omega, by omega⟩)) (okCons (beq_t rfl) (okCons k1 (okL1 k1)))) hv (by rfl) w
theorem cells0 {l : List Value} (h : okC [some .u64, some .u64, some .u64] l) : ∃ a b c, l = [.int .u64 a, .int .u64 b, .int .u64 c] ∧ (Lit.int .u64 a).wf = true ∧ (Lit.int .u64 b).wf = true ∧ (Lit.int .u64 c).wf = true := by
  have hl := okC_length h
  obtain ⟨v0, v1, v2, rfl⟩ : ∃ v0 v1 v2, l = [v0, v1, v2] := by
    match l, hl with
    | [v0, v1, v2], _ => exact ⟨v0, v1, v2, rfl⟩
  obtain ⟨⟨a, rfl, ka⟩, ⟨b, rfl, kb⟩, ⟨c, rfl, kc⟩, _⟩ := h
  exact ⟨a, b, c, rfl, ka, kb, kc⟩
theorem own : ownKnob Try.prog.godebug = none := by kernel_rfl
set_option maxRecDepth 100000 in
theorem lifted (os : Os) (started : os.Started) (H : Type) (enc : TypeId × Value → H) :
    ReturnsInHanded {} Try.checked os 4 .any (Rows.prodFmasSpec.pre6 enc Try.prog Try.f4 Rows.prodFmasRow.domain false) (Rows.prodFmasSpec.post enc Try.prog Try.f4 false true false false) := by
  refine returnsInHanded_of_change (C := Try.checked) own started (by kernel_rfl) Try.func4
    (ChangeSpec.witness6 (enc := enc) (C := Try.checked) false ⟨#[], #[.agg #[.int .u64 0, .int .u64 0, .int .u64 0], .int .i64 0], []⟩ 8 (by kernel_rfl) (by kernel_rfl) (by kernel_rfl) (by kernel_rfl)) ?_
  intro W base args ds gs before hval0 hW hcnd _
  have hval : ∀ (j : Nat) t v, Try.f4.params[j]? = some t → args[j]? = some v → Value.okWide Try.prog W .any base t v := hval0
  have hW' := hW
  obtain ⟨p, q, hA0, hV, rfl, hfz, hnd⟩ := hW
  have hA : DataW.TrodAll enc Try.prog W 0 (fun _ => true) true Try.f4.params.toList args.toList ds p := hA0
  rw [Try.params4] at hA hval
  obtain ⟨v0, v1, d0, d1, p0, p1, rfl, rfl, rfl, h0, h1⟩ := trodAll_two hA
  obtain ⟨rfl, rfl⟩ := trodVars_none hV
  obtain ⟨c0, rfl, r0⟩ := flat_open (L := [some .u64, some .u64, some .u64]) (by kernel_rfl) h0
  obtain ⟨cs0, rfl⟩ := agg_array Try.underlying31 (hval 0 31 v0 rfl rfl)
  obtain ⟨a, b, c, hcs0, ka, kb, kc⟩ := cells0 c0
  have hcs0' : cs0 = #[.int .u64 a, .int .u64 b, .int .u64 c] := by
    have := congrArg List.toArray hcs0
    simpa [Value.cells] using this
  subst hcs0'
  obtain ⟨x1, rfl, rfl, rfl, w1⟩ := open_int Try.underlying3 (hval 1 3 v1 rfl rfl) h1
  clear hA0 hval0
  simp only [List.append_nil] at hW'
  refine (walk a b c x1 (u64_bounds ka) (u64_bounds kb) (u64_bounds kc) W).mono fun e W' ⟨he, hg⟩ => ?_
  subst he
  exact ⟨_, rfl, post_of_same (pa := []) (pv := []) hW' (fun _ _ _ => trodAll_mk1 (shut_bool Try.underlying4 _))
    (fun sp _ => trodAll_mk2 (r0 _ _ _ _) (shut_int Try.underlying3 w1)) (fun _ _ => rfl) rfl
    (hg.1.frame _) (tidy_frozen hg) (ok_one (by kernel_rfl) rfl (okWide_bool_mk Try.underlying4 _))⟩

theorem proved : Rows.ProdFmasSaid :=
  OpenClaim.holds_of_wide 4 Try.f4 rfl rfl rfl rfl rfl rfl rfl ⟨rfl, rfl, rfl, rfl, rfl⟩ rfl rfl rfl rfl rfl (by kernel_rfl) Try.func4 (by kernel_rfl)
    (of_decide_eq_true (by kernel_rfl)) (by unfold Func.isWrapper; first | (rw [if_pos (by decide +kernel)]; kernel_rfl) | (rw [if_neg (by decide +kernel)]; exact ⟨rfl, rfl⟩))
    (fun os started H enc _ => lifted os started H enc)
end Go.Proofs.Ytecaahiajbkioaa.prodFmas
