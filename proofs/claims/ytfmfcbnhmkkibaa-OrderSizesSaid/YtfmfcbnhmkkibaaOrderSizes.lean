/-
  PROVED HERE: for every input the law tillerlaw10.OrderSizes returns true, and each argument reads afterwards as it read before: the one of the less and of the greater size of any two patterns, and the flags, are the document's. No condition.
-/
import Derived.Test.YtfmfcbnhmkkibaaG24
import Derived.Test.YtfmfcbnhmkkibaaRows
namespace Go.Proofs.Ytfmfcbnhmkkibaa.orderSizes
open Go.KRun Go.Pt Go.ChangeShapes Go.WideShapes Go.ChangeAt Go.RowKit 
set_option linter.unusedVariables false

theorem os_w (a b : Int) : Fits (reckon (tabOf Try.prog extY conO7 true) 400 5 [.int .u64 a, .int .u64 b] [cmp true, cmp true, cmp true, cmp true]) (.bool true) [(IntKind.i64.wrap (coF a b) == coF a b, true), (mtP a b == pkP a b false true false, true), (IntKind.i64.wrap (coF a b) == coF a b, true), (msP a b == pkP a b true true false, true), (decide (U a ∧ U b), true), (true, true), (decide (U a ∧ U b), true), (decide (U a ∧ U b), true), (true, true), (decide (U a ∧ U b), true)] := ⟨by kernel_rfl, by kernel_rfl, by kernel_rfl, by kernel_rfl⟩
theorem walk (a b : Int) (ha : U a) (hb : U b) (w : World) : Calls Try.prog 5 #[.int .u64 a, .int .u64 b] w fun e w' => e = .returned (.bool true) ∧ Tidy w w' := by
  have hv : ([.int .u64 a, .int .u64 b].all (lt 0)) = true := rfl
  have T := tabY_ok conO7_ok
  have f := coF_bd a b
  obtain ⟨n1, n2⟩ := pk_size ha hb
  exact fits_calls T (os_w a b) (okCons (beq_t (wrapI' ⟨by omega, by omega⟩)) (okCons (beq_t n2.symm) (okCons (beq_t (wrapI' ⟨by omega, by omega⟩)) (okCons (beq_t n1.symm) (okCons (decide_eq_true ⟨ha, hb⟩) (okCons rfl (okCons (decide_eq_true ⟨ha, hb⟩) (okCons (decide_eq_true ⟨ha, hb⟩) (okCons rfl (okL1 (decide_eq_true ⟨ha, hb⟩))))))))))) hv (by rfl) w
theorem own : ownKnob Try.prog.godebug = none := by kernel_rfl
set_option maxRecDepth 100000 in
theorem lifted (os : Os) (started : os.Started) (H : Type) (enc : TypeId × Value → H) :
    ReturnsInHanded {} Try.checked os 5 .any (Rows.orderSizesSpec.pre6 enc Try.prog Try.f5 Rows.orderSizesRow.domain false) (Rows.orderSizesSpec.post enc Try.prog Try.f5 false true false false) := by
  refine returnsInHanded_of_change (C := Try.checked) own started (by kernel_rfl) Try.func5
    (ChangeSpec.witness6 (enc := enc) (C := Try.checked) false ⟨#[], #[.int .u64 0, .int .u64 0], []⟩ 8 (by kernel_rfl) (by kernel_rfl) (by kernel_rfl) (by kernel_rfl)) ?_
  intro W base args ds gs before hval0 hW hcnd _
  have hval : ∀ (j : Nat) t v, Try.f5.params[j]? = some t → args[j]? = some v → Value.okWide Try.prog W .any base t v := hval0
  have hW' := hW
  obtain ⟨p, q, hA0, hV, rfl, hfz, hnd⟩ := hW
  have hA : DataW.TrodAll enc Try.prog W 0 (fun _ => true) true Try.f5.params.toList args.toList ds p := hA0
  rw [Try.params5] at hA hval
  obtain ⟨v0, v1, d0, d1, p0, p1, rfl, rfl, rfl, h0, h1⟩ := trodAll_two hA
  obtain ⟨rfl, rfl⟩ := trodVars_none hV
  obtain ⟨x0, rfl, rfl, rfl, w0⟩ := open_int Try.underlying22 (hval 0 22 v0 rfl rfl) h0
  obtain ⟨x1, rfl, rfl, rfl, w1⟩ := open_int Try.underlying22 (hval 1 22 v1 rfl rfl) h1
  clear hA0 hval0
  simp only [List.append_nil] at hW'
  refine (walk x0 x1 (u64_bounds w0) (u64_bounds w1) W).mono fun e W' ⟨he, hg⟩ => ?_
  subst he
  exact ⟨_, rfl, post_of_same (pa := []) (pv := []) hW' (fun _ _ _ => trodAll_mk1 (shut_bool Try.underlying4 _))
    (fun sp _ => trodAll_mk2 (shut_int Try.underlying22 w0) (shut_int Try.underlying22 w1)) (fun _ _ => rfl) rfl
    (hg.1.frame _) (tidy_frozen hg) (ok_one (by kernel_rfl) rfl (okWide_bool_mk Try.underlying4 _))⟩

theorem proved : Rows.OrderSizesSaid :=
  OpenClaim.holds_of_wide 5 Try.f5 rfl rfl rfl rfl rfl rfl rfl ⟨rfl, rfl, rfl, rfl, rfl⟩ rfl rfl rfl rfl rfl (by kernel_rfl) Try.func5 (by kernel_rfl)
    (of_decide_eq_true (by kernel_rfl)) (by unfold Func.isWrapper; first | (rw [if_pos (by decide +kernel)]; kernel_rfl) | (rw [if_neg (by decide +kernel)]; exact ⟨rfl, rfl⟩))
    (fun os started H enc _ => lifted os started H enc)
end Go.Proofs.Ytfmfcbnhmkkibaa.orderSizes
