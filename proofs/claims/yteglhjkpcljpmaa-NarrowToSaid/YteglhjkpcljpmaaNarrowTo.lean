/-
  PROVED HERE: for every input the law tillerlaw12.NarrowTo returns true, and each argument reads afterwards as it read before: any pattern as one of 32 bits, by any mode, and the flags, is the document's. No condition.
-/
import Derived.Test.YteglhjkpcljpmaaG35
import Derived.Test.YteglhjkpcljpmaaG36
import Derived.Test.YteglhjkpcljpmaaRows
namespace Go.Proofs.Yteglhjkpcljpmaa.narrowTo
open Go.KRun Go.Pt Go.ChangeShapes Go.WideShapes Go.ChangeAt Go.RowKit Go.Wd Go.Rn
set_option linter.unusedVariables false

theorem nt_1 (p m : Int) : Fits (reckon (tabOf Try.prog extY conNH true) 300 3 [.int .u64 p, .int .i64 m] [cmp true, cmp true]) (.bool true) [(IntKind.i64.wrap (naF m p) == naF m p, true), (naP m p == naP m p, true), lU p, lU p] := ⟨by kernel_rfl, by kernel_rfl, by kernel_rfl, by kernel_rfl⟩
theorem walk (p m : Int) (hp : U p) (w : World) : Calls Try.prog 3 #[.int .u64 p, .int .i64 m] w fun e w' => e = .returned (.bool true) ∧ Tidy w w' := by
  have hv : ([.int .u64 p, .int .i64 m].all (lt 0)) = true := rfl
  have T := tabY_ok conNH_ok
  exact fits_calls T (nt_1 p m) (okCons (beq_t (have f := naF_bd m p; wrapI' ⟨by omega, by omega⟩)) (okCons (beq_t rfl) (okCons (decide_eq_true hp) (okL1 (decide_eq_true hp))))) hv (by rfl) w
theorem own : ownKnob Try.prog.godebug = none := by kernel_rfl
set_option maxRecDepth 100000 in
theorem lifted (os : Os) (started : os.Started) (H : Type) (enc : TypeId × Value → H) :
    ReturnsInHanded {} Try.checked os 3 .any (Rows.narrowToSpec.pre6 enc Try.prog Try.f3 Rows.narrowToRow.domain false) (Rows.narrowToSpec.post enc Try.prog Try.f3 false true false false) := by
  refine returnsInHanded_of_change (C := Try.checked) own started (by kernel_rfl) Try.func3
    (ChangeSpec.witness6 (enc := enc) (C := Try.checked) false ⟨#[], #[.int .u64 0, .int .i64 0], []⟩ 8 (by kernel_rfl) (by kernel_rfl) (by kernel_rfl) (by kernel_rfl)) ?_
  intro W base args ds gs before hval0 hW hcnd _
  have hval : ∀ (j : Nat) t v, Try.f3.params[j]? = some t → args[j]? = some v → Value.okWide Try.prog W .any base t v := hval0
  have hW' := hW
  obtain ⟨p, q, hA0, hV, rfl, hfz, hnd⟩ := hW
  have hA : DataW.TrodAll enc Try.prog W 0 (fun _ => true) true Try.f3.params.toList args.toList ds p := hA0
  rw [Try.params3] at hA hval
  obtain ⟨v0, v1, d0, d1, p0, p1, rfl, rfl, rfl, h0, h1⟩ := trodAll_two hA
  obtain ⟨rfl, rfl⟩ := trodVars_none hV
  obtain ⟨x0, rfl, rfl, rfl, w0⟩ := open_int Try.underlying22 (hval 0 22 v0 rfl rfl) h0
  obtain ⟨x1, rfl, rfl, rfl, w1⟩ := open_int Try.underlying3 (hval 1 3 v1 rfl rfl) h1
  clear hA0 hval0
  simp only [List.append_nil] at hW'
  refine (walk x0 x1 (u64_bounds w0) W).mono fun e W' ⟨he, hg⟩ => ?_
  subst he
  exact ⟨_, rfl, post_of_same (pa := []) (pv := []) hW' (fun _ _ _ => trodAll_mk1 (shut_bool Try.underlying4 _))
    (fun sp _ => trodAll_mk2 (shut_int Try.underlying22 w0) (shut_int Try.underlying3 w1)) (fun _ _ => rfl) rfl
    (hg.1.frame _) (tidy_frozen hg) (ok_one (by kernel_rfl) rfl (okWide_bool_mk Try.underlying4 _))⟩

theorem proved : Rows.NarrowToSaid :=
  OpenClaim.holds_of_wide 3 Try.f3 rfl rfl rfl rfl rfl rfl rfl ⟨rfl, rfl, rfl, rfl, rfl⟩ rfl rfl rfl rfl rfl (by kernel_rfl) Try.func3 (by kernel_rfl)
    (of_decide_eq_true (by kernel_rfl)) (by unfold Func.isWrapper; first | (rw [if_pos (by decide +kernel)]; kernel_rfl) | (rw [if_neg (by decide +kernel)]; exact ⟨rfl, rfl⟩))
    (fun os started H enc _ => lifted os started H enc)
end Go.Proofs.Yteglhjkpcljpmaa.narrowTo
