/-
  PROVED HERE: for every input the law tillerlaw12.NarrowFrom returns true, and each argument reads afterwards as it read before: any pattern of 32 bits as one of 64, and the flags, is the document's. No condition.
-/
import Derived.Test.YteglhjkpcljpmaaG35
import Derived.Test.YteglhjkpcljpmaaG36
import Derived.Test.YteglhjkpcljpmaaRows
namespace Go.Proofs.Yteglhjkpcljpmaa.narrowFrom
open Go.KRun Go.Pt Go.ChangeShapes Go.WideShapes Go.ChangeAt Go.RowKit Go.Wd Go.Rn
set_option linter.unusedVariables false

theorem u32_bd {n : Int} (h : (Lit.int .u32 n).wf = true) : U3 n := by
  simp [Lit.wf, IntKind.min, IntKind.max, IntKind.signed, IntKind.bits] at h
  exact ⟨by omega, by omega⟩
theorem nf_1 (q : Int) : Fits (reckon (tabOf Try.prog extY conNH true) 300 4 [.int .u32 q] [cmp true, cmp true]) (.bool true) [(IntKind.i64.wrap (nfF q) == nfF q, true), (nfP q == nfP q, true), (decide (U3 q), true), (decide (U3 q), true)] := ⟨by kernel_rfl, by kernel_rfl, by kernel_rfl, by kernel_rfl⟩
theorem walk (q : Int) (hq : U3 q) (w : World) : Calls Try.prog 4 #[.int .u32 q] w fun e w' => e = .returned (.bool true) ∧ Tidy w w' := by
  have hv : ([.int .u32 q].all (lt 0)) = true := rfl
  have T := tabY_ok conNH_ok
  exact fits_calls T (nf_1 q) (okCons (beq_t (by unfold nfF; split <;> rfl)) (okCons (beq_t rfl) (okCons (decide_eq_true hq) (okL1 (decide_eq_true hq))))) hv (by rfl) w
theorem own : ownKnob Try.prog.godebug = none := by kernel_rfl
set_option maxRecDepth 100000 in
theorem lifted (os : Os) (started : os.Started) (H : Type) (enc : TypeId × Value → H) :
    ReturnsInHanded {} Try.checked os 4 .any (Rows.narrowFromSpec.pre6 enc Try.prog Try.f4 Rows.narrowFromRow.domain false) (Rows.narrowFromSpec.post enc Try.prog Try.f4 false true false false) := by
  refine returnsInHanded_of_change (C := Try.checked) own started (by kernel_rfl) Try.func4
    (ChangeSpec.witness6 (enc := enc) (C := Try.checked) false ⟨#[], #[.int .u32 0], []⟩ 8 (by kernel_rfl) (by kernel_rfl) (by kernel_rfl) (by kernel_rfl)) ?_
  intro W base args ds gs before hval0 hW hcnd _
  have hval : ∀ (j : Nat) t v, Try.f4.params[j]? = some t → args[j]? = some v → Value.okWide Try.prog W .any base t v := hval0
  have hW' := hW
  obtain ⟨p, q, hA0, hV, rfl, hfz, hnd⟩ := hW
  have hA : DataW.TrodAll enc Try.prog W 0 (fun _ => true) true Try.f4.params.toList args.toList ds p := hA0
  rw [Try.params4] at hA hval
  obtain ⟨v0, d0, rfl, rfl, h0⟩ := trodAll_one hA
  obtain ⟨rfl, rfl⟩ := trodVars_none hV
  obtain ⟨x0, rfl, rfl, rfl, w0⟩ := open_int Try.underlying23 (hval 0 23 v0 rfl rfl) h0
  clear hA0 hval0
  simp only [List.append_nil] at hW'
  refine (walk x0 (u32_bd w0) W).mono fun e W' ⟨he, hg⟩ => ?_
  subst he
  exact ⟨_, rfl, post_of_same (pa := []) (pv := []) hW' (fun _ _ _ => trodAll_mk1 (shut_bool Try.underlying4 _))
    (fun sp _ => trodAll_mk1 (shut_int Try.underlying23 w0)) (fun _ _ => rfl) rfl
    (hg.1.frame _) (tidy_frozen hg) (ok_one (by kernel_rfl) rfl (okWide_bool_mk Try.underlying4 _))⟩

theorem proved : Rows.NarrowFromSaid :=
  OpenClaim.holds_of_wide 4 Try.f4 rfl rfl rfl rfl rfl rfl rfl ⟨rfl, rfl, rfl, rfl, rfl⟩ rfl rfl rfl rfl rfl (by kernel_rfl) Try.func4 (by kernel_rfl)
    (of_decide_eq_true (by kernel_rfl)) (by unfold Func.isWrapper; first | (rw [if_pos (by decide +kernel)]; kernel_rfl) | (rw [if_neg (by decide +kernel)]; exact ⟨rfl, rfl⟩))
    (fun os started H enc _ => lifted os started H enc)
end Go.Proofs.Yteglhjkpcljpmaa.narrowFrom
