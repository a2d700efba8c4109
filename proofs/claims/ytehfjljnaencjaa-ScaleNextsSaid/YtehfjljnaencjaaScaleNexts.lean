/-
  PROVED HERE: for every input the law tillerlaw09.ScaleNexts returns true, and each argument reads afterwards as it read before: the neighbours of any pattern, and the flags, are the document's. No condition.
-/
import Derived.Test.YtehfjljnaencjaaG31
import Derived.Test.YtehfjljnaencjaaG32
import Derived.Test.YtehfjljnaencjaaRows
namespace Go.Proofs.Ytehfjljnaencjaa.scaleNexts
open Go.KRun Go.Pt Go.ChangeShapes Go.WideShapes Go.ChangeAt Go.RowKit Go.Wd Go.Rn
set_option linter.unusedVariables false

theorem f_small9 (a : Int) : 0 ≤ nanF a ∧ nanF a ≤ 1 := by unfold nanF; split <;> omega
theorem rnF_small9 (m : Int) (n : Bool) (X : Nat) (E : Int) : 0 ≤ rnF m n X E ∧ rnF m n X E ≤ 24 := by
  unfold rnF
  split
  · omega
  · split
    · omega
    · split
      · split <;> omega
      · omega
theorem sn_w (a : Int) : Fits (reckon (tabOf Try.prog extY conF9 true) 400 5 [.int .u64 a] [cmp true, cmp true, cmp true, cmp true]) (.bool true) [(IntKind.i64.wrap (upF a) == upF a, true), (dnP a == dnP a, true), (IntKind.i64.wrap (upF a) == upF a, true), (upP a == upP a, true), lU a, lU a, lU a, lU a] := ⟨by kernel_rfl, by kernel_rfl, by kernel_rfl, by kernel_rfl⟩
theorem walk (a : Int) (ha : U a) (w : World) : Calls Try.prog 5 #[.int .u64 a] w fun e w' => e = .returned (.bool true) ∧ Tidy w w' := by
  have ka : decide (U a) = true := decide_eq_true ha
  have f := f_small9 a
  have h : 0 ≤ upF a ∧ upF a ≤ 24 := by
    unfold upF
    split <;> omega
  exact fits_calls (tabY_ok conF9_ok) (sn_w a) (okCons (beq_t (wrapI' ⟨by omega, by omega⟩)) (okCons (beq_t rfl) (okCons (beq_t (wrapI' ⟨by omega, by omega⟩)) (okCons (beq_t rfl) (okCons ka (okCons ka (okCons ka (okL1 ka)))))))) (by rfl) (by rfl) w
theorem own : ownKnob Try.prog.godebug = none := by kernel_rfl
set_option maxRecDepth 100000 in
theorem lifted (os : Os) (started : os.Started) (H : Type) (enc : TypeId × Value → H) :
    ReturnsInHanded {} Try.checked os 5 .any (Rows.scaleNextsSpec.pre6 enc Try.prog Try.f5 Rows.scaleNextsRow.domain false) (Rows.scaleNextsSpec.post enc Try.prog Try.f5 false true false false) := by
  refine returnsInHanded_of_change (C := Try.checked) own started (by kernel_rfl) Try.func5
    (ChangeSpec.witness6 (enc := enc) (C := Try.checked) false ⟨#[], #[.int .u64 0], []⟩ 8 (by kernel_rfl) (by kernel_rfl) (by kernel_rfl) (by kernel_rfl)) ?_
  intro W base args ds gs before hval0 hW hcnd _
  have hval : ∀ (j : Nat) t v, Try.f5.params[j]? = some t → args[j]? = some v → Value.okWide Try.prog W .any base t v := hval0
  have hW' := hW
  obtain ⟨p, q, hA0, hV, rfl, hfz, hnd⟩ := hW
  have hA : DataW.TrodAll enc Try.prog W 0 (fun _ => true) true Try.f5.params.toList args.toList ds p := hA0
  rw [Try.params5] at hA hval
  obtain ⟨v0, d0, rfl, rfl, h0⟩ := trodAll_one hA
  obtain ⟨rfl, rfl⟩ := trodVars_none hV
  obtain ⟨x0, rfl, rfl, rfl, w0⟩ := open_int Try.underlying22 (hval 0 22 v0 rfl rfl) h0
  clear hA0 hval0
  simp only [List.append_nil] at hW'
  refine (walk x0 (u64_bounds w0) W).mono fun e W' ⟨he, hg⟩ => ?_
  subst he
  exact ⟨_, rfl, post_of_same (pa := []) (pv := []) hW' (fun _ _ _ => trodAll_mk1 (shut_bool Try.underlying4 _))
    (fun sp _ => trodAll_mk1 (shut_int Try.underlying22 w0)) (fun _ _ => rfl) rfl
    (hg.1.frame _) (tidy_frozen hg) (ok_one (by kernel_rfl) rfl (okWide_bool_mk Try.underlying4 _))⟩

theorem proved : Rows.ScaleNextsSaid :=
  OpenClaim.holds_of_wide 5 Try.f5 rfl rfl rfl rfl rfl rfl rfl ⟨rfl, rfl, rfl, rfl, rfl⟩ rfl rfl rfl rfl rfl (by kernel_rfl) Try.func5 (by kernel_rfl)
    (of_decide_eq_true (by kernel_rfl)) (by unfold Func.isWrapper; first | (rw [if_pos (by decide +kernel)]; kernel_rfl) | (rw [if_neg (by decide +kernel)]; exact ⟨rfl, rfl⟩))
    (fun os started H enc _ => lifted os started H enc)
end Go.Proofs.Ytehfjljnaencjaa.scaleNexts
