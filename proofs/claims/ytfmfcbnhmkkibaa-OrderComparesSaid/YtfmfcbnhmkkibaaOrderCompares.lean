/-
  PROVED HERE: for every input the law tillerlaw10.OrderCompares returns true, and each argument reads afterwards as it read before: which of any two patterns is less, quietly and not, and the flags, are the document's. No condition.
-/
import Derived.Test.YtfmfcbnhmkkibaaG23
import Derived.Test.YtfmfcbnhmkkibaaG24
import Derived.Test.YtfmfcbnhmkkibaaRows
namespace Go.Proofs.Ytfmfcbnhmkkibaa.orderCompares
open Go.KRun Go.Pt Go.ChangeShapes Go.WideShapes Go.ChangeAt Go.RowKit 
set_option linter.unusedVariables false

theorem oc_n (a b : Int) : Fits (reckon (tabOf Try.prog extY conO6 true) 400 3 [.int .u64 a, .int .u64 b] [cmp true, cmp true, cmp true, cmp true, cmp true]) (.bool true) [(IntKind.i64.wrap (siF a b) == 1, true), (coV a b == coV a b, true), (IntKind.i64.wrap (coF a b) == coF a b, true), (coV a b == coV a b, true), (coV a b == 2, true), (true, true), (decide (U a ∧ U b), true), (true, true), (decide (U a ∧ U b), true), (true, true), (decide (U a ∧ U b), true)] := ⟨by kernel_rfl, by kernel_rfl, by kernel_rfl, by kernel_rfl⟩
theorem oc_f (a b : Int) : Fits (reckon (tabOf Try.prog extY conO6 true) 400 3 [.int .u64 a, .int .u64 b] [cmp false, cmp true, cmp true, cmp true, cmp true]) (.bool true) [(IntKind.i64.wrap (siF a b) == 0, true), (coV a b == coV a b, true), (IntKind.i64.wrap (coF a b) == coF a b, true), (coV a b == coV a b, true), (coV a b == 2, false), (true, true), (decide (U a ∧ U b), true), (true, true), (decide (U a ∧ U b), true), (true, true), (decide (U a ∧ U b), true)] := ⟨by kernel_rfl, by kernel_rfl, by kernel_rfl, by kernel_rfl⟩
theorem walk (a b : Int) (ha : U a) (hb : U b) (w : World) : Calls Try.prog 3 #[.int .u64 a, .int .u64 b] w fun e w' => e = .returned (.bool true) ∧ Tidy w w' := by
  have hv : ([.int .u64 a, .int .u64 b].all (lt 0)) = true := rfl
  have T := tabY_ok conO6_ok
  have f := coF_bd a b
  by_cases hn : 3 < cl a ∨ 3 < cl b
  · have e1 : IntKind.i64.wrap (siF a b) = 1 := by unfold siF; rw [if_pos hn]; rfl
    exact fits_calls T (oc_n a b) (okCons (beq_t e1) (okCons (beq_t rfl) (okCons (beq_t (wrapI' ⟨by omega, by omega⟩)) (okCons (beq_t rfl) (okCons (beq_t (coV_nn.2 hn)) (okCons rfl (okCons (decide_eq_true ⟨ha, hb⟩) (okCons rfl (okCons (decide_eq_true ⟨ha, hb⟩) (okCons rfl (okL1 (decide_eq_true ⟨ha, hb⟩)))))))))))) hv (by rfl) w
  · have e1 : IntKind.i64.wrap (siF a b) = 0 := by unfold siF; rw [if_neg hn]; rfl
    exact fits_calls T (oc_f a b) (okCons (beq_t e1) (okCons (beq_t rfl) (okCons (beq_t (wrapI' ⟨by omega, by omega⟩)) (okCons (beq_t rfl) (okCons (beq_f fun h => hn (coV_nn.1 h)) (okCons rfl (okCons (decide_eq_true ⟨ha, hb⟩) (okCons rfl (okCons (decide_eq_true ⟨ha, hb⟩) (okCons rfl (okL1 (decide_eq_true ⟨ha, hb⟩)))))))))))) hv (by rfl) w
theorem own : ownKnob Try.prog.godebug = none := by kernel_rfl
set_option maxRecDepth 100000 in
theorem lifted (os : Os) (started : os.Started) (H : Type) (enc : TypeId × Value → H) :
    ReturnsInHanded {} Try.checked os 3 .any (Rows.orderComparesSpec.pre6 enc Try.prog Try.f3 Rows.orderComparesRow.domain false) (Rows.orderComparesSpec.post enc Try.prog Try.f3 false true false false) := by
  refine returnsInHanded_of_change (C := Try.checked) own started (by kernel_rfl) Try.func3
    (ChangeSpec.witness6 (enc := enc) (C := Try.checked) false ⟨#[], #[.int .u64 0, .int .u64 0], []⟩ 8 (by kernel_rfl) (by kernel_rfl) (by kernel_rfl) (by kernel_rfl)) ?_
  intro W base args ds gs before hval0 hW hcnd _
  have hval : ∀ (j : Nat) t v, Try.f3.params[j]? = some t → args[j]? = some v → Value.okWide Try.prog W .any base t v := hval0
  have hW' := hW
  obtain ⟨p, q, hA0, hV, rfl, hfz, hnd⟩ := hW
  have hA : DataW.TrodAll enc Try.prog W 0 (fun _ => true) true Try.f3.params.toList args.toList ds p := hA0
  rw [Try.params3] at hA hval
  obtain ⟨v0, v1, d0, d1, p0, p1, rfl, rfl, rfl, h0, h1⟩ := trodAll_two hA
  obtain ⟨rfl, rfl⟩ := trodVars_none hV
  obtain ⟨x0, rfl, rfl, rfl, w0⟩ := open_int Try.underlying22 (hval 0 22 v0 rfl rfl) h0
  obtain ⟨x1, rfl, rfl, rfl, w1⟩ := open_int Try.underlying22 (hval 1 22 v1 rfl rfl) h1
  clear hA0 hval0
  simp only [List.append_nil] at hW'
  refine (walk x0 x1 (u64_bounds w0) (u64_bounds w1) W).mono fun e W' ⟨he, hg⟩ => ?_
  subst he
  exact ⟨_, rfl, post_of_same (pa := []) (pv := []) hW' (fun _ _ _ => trodAll_mk1 (shut_bool Try.underlying4 _))
    (fun sp _ => trodAll_mk2 (shut_int Try.underlying22 w0) (shut_int Try.underlying22 w1)) (fun _ _ => rfl) rfl
    (hg.1.frame _) (tidy_frozen hg) (ok_one (by kernel_rfl) rfl (okWide_bool_mk Try.underlying4 _))⟩

theorem proved : Rows.OrderComparesSaid :=
  OpenClaim.holds_of_wide 3 Try.f3 rfl rfl rfl rfl rfl rfl rfl ⟨rfl, rfl, rfl, rfl, rfl⟩ rfl rfl rfl rfl rfl (by kernel_rfl) Try.func3 (by kernel_rfl)
    (of_decide_eq_true (by kernel_rfl)) (by unfold Func.isWrapper; first | (rw [if_pos (by decide +kernel)]; kernel_rfl) | (rw [if_neg (by decide +kernel)]; exact ⟨rfl, rfl⟩))
    (fun os started H enc _ => lifted os started H enc)
end Go.Proofs.Ytfmfcbnhmkkibaa.orderCompares
