/-
  PROVED HERE: for every input the law tillerlaw11.IntsHalves returns true, and each argument reads afterwards as it read before: any pattern as a whole number of 32 bits, by any mode, and the flags, is the document's. No condition.
-/
import Derived.Test.YtmfgjfnhonohjaaG34
import Derived.Test.YtmfgjfnhonohjaaG35
import Derived.Test.YtmfgjfnhonohjaaRows
namespace Go.Proofs.Ytmfgjfnhonohjaa.intsHalves
open Go.KRun Go.Pt Go.ChangeShapes Go.WideShapes Go.ChangeAt Go.RowKit Go.Wd Go.Rn
set_option linter.unusedVariables false

theorem nb_ti {L M : Nat} (hL : L ≤ 9223372036854775808) (hM : M ≤ 9223372036854775807) (m p : Int) : nbV (tiS p) ((tiN L M m p : Nat) : Int) = tiI L M m p := by
  have h := tiI_bd L M m p
  have h2 := tiN_le L M m p
  unfold tiI at h ⊢
  cases hs : tiS p with
  | true =>
    rw [hs] at h
    simp only [sgI] at h ⊢
    unfold nbV
    simp [IntKind.wrap, IntKind.bits, IntKind.signed]
    omega
  | false =>
    rw [hs] at h
    simp only [sgI] at h ⊢
    unfold nbV
    exact wrapI' ⟨by omega, by omega⟩
theorem ih_w (p m : Int) (t : Bool) : Fits (reckon (tabOf Try.prog extY conI4 true) 400 5 [.int .u64 p, .int .i64 m, .bool t] [cmp true, cmp true, cmp true, cmp true]) (.bool true) [(IntKind.i64.wrap (tiF 0 4294967295 m p t) == tiF 0 4294967295 m p t, true), (IntKind.u64.wrap (tiI 0 4294967295 m p) == ((tiN 0 4294967295 m p : Nat) : Int), true), (IntKind.i64.wrap (tiF 2147483648 2147483647 m p t) == tiF 2147483648 2147483647 m p t, true), (IntKind.i64.wrap (tiI 2147483648 2147483647 m p) == nbV (tiS p) ((tiN 2147483648 2147483647 m p : Nat) : Int), true), (decide (U p ∧ U 0 ∧ U 4294967295), true), lU p, (decide (U p ∧ U 2147483648 ∧ U 2147483647), true), lU p] := ⟨by kernel_rfl, by kernel_rfl, by kernel_rfl, by kernel_rfl⟩
theorem walk (p m : Int) (t : Bool) (hp : U p) (w : World) : Calls Try.prog 5 #[.int .u64 p, .int .i64 m, .bool t] w fun e w' => e = .returned (.bool true) ∧ Tidy w w' := by
  have hv : ([.int .u64 p, .int .i64 m, .bool t].all (lt 0)) = true := rfl
  have T := tabY_ok conI4_ok
  have ba := tiI_bd 2147483648 2147483647 m p
  have bb := tiI_bd 0 4294967295 m p
  have ea : tiI 2147483648 2147483647 m p = nbV (tiS p) ((tiN 2147483648 2147483647 m p : Nat) : Int) := (nb_ti (by omega) (by omega) m p).symm
  have eb : tiI 0 4294967295 m p = ((tiN 0 4294967295 m p : Nat) : Int) := ti_plain 4294967295 m p
  exact fits_calls T (ih_w p m t) (okCons (beq_t (have f := tiF_bd 0 4294967295 m p t; wrapI' ⟨by omega, by omega⟩)) (okCons (beq_t ((wrapU' ⟨by omega, by omega⟩).trans eb)) (okCons (beq_t (have f := tiF_bd 2147483648 2147483647 m p t; wrapI' ⟨by omega, by omega⟩)) (okCons (beq_t ((wrapI' ⟨by omega, by omega⟩).trans ea)) (okCons (decide_eq_true ⟨hp, by decide, by decide⟩) (okCons (decide_eq_true hp) (okCons (decide_eq_true ⟨hp, by decide, by decide⟩) (okL1 (decide_eq_true hp))))))))) hv (by rfl) w
theorem own : ownKnob Try.prog.godebug = none := by kernel_rfl
set_option maxRecDepth 100000 in
theorem lifted (os : Os) (started : os.Started) (H : Type) (enc : TypeId × Value → H) :
    ReturnsInHanded {} Try.checked os 5 .any (Rows.intsHalvesSpec.pre6 enc Try.prog Try.f5 Rows.intsHalvesRow.domain false) (Rows.intsHalvesSpec.post enc Try.prog Try.f5 false true false false) := by
  refine returnsInHanded_of_change (C := Try.checked) own started (by kernel_rfl) Try.func5
    (ChangeSpec.witness6 (enc := enc) (C := Try.checked) false ⟨#[], #[.int .u64 0, .int .i64 0, .bool false], []⟩ 8 (by kernel_rfl) (by kernel_rfl) (by kernel_rfl) (by kernel_rfl)) ?_
  intro W base args ds gs before hval0 hW hcnd _
  have hval : ∀ (j : Nat) t v, Try.f5.params[j]? = some t → args[j]? = some v → Value.okWide Try.prog W .any base t v := hval0
  have hW' := hW
  obtain ⟨p, q, hA0, hV, rfl, hfz, hnd⟩ := hW
  have hA : DataW.TrodAll enc Try.prog W 0 (fun _ => true) true Try.f5.params.toList args.toList ds p := hA0
  rw [Try.params5] at hA hval
  obtain ⟨v0, v1, v2, d0, d1, d2, p0, p1, p2, rfl, rfl, rfl, h0, h1, h2⟩ := trodAll_three hA
  obtain ⟨rfl, rfl⟩ := trodVars_none hV
  obtain ⟨x0, rfl, rfl, rfl, w0⟩ := open_int Try.underlying22 (hval 0 22 v0 rfl rfl) h0
  obtain ⟨x1, rfl, rfl, rfl, w1⟩ := open_int Try.underlying3 (hval 1 3 v1 rfl rfl) h1
  obtain ⟨x2, rfl, rfl, rfl⟩ := open_bool Try.underlying4 (hval 2 4 v2 rfl rfl) h2
  clear hA0 hval0
  simp only [List.append_nil] at hW'
  refine (walk x0 x1 x2 (u64_bounds w0) W).mono fun e W' ⟨he, hg⟩ => ?_
  subst he
  exact ⟨_, rfl, post_of_same (pa := []) (pv := []) hW' (fun _ _ _ => trodAll_mk1 (shut_bool Try.underlying4 _))
    (fun sp _ => trodAll_mk3 (shut_int Try.underlying22 w0) (shut_int Try.underlying3 w1) (shut_bool Try.underlying4 _)) (fun _ _ => rfl) rfl
    (hg.1.frame _) (tidy_frozen hg) (ok_one (by kernel_rfl) rfl (okWide_bool_mk Try.underlying4 _))⟩

theorem proved : Rows.IntsHalvesSaid :=
  OpenClaim.holds_of_wide 5 Try.f5 rfl rfl rfl rfl rfl rfl rfl ⟨rfl, rfl, rfl, rfl, rfl⟩ rfl rfl rfl rfl rfl (by kernel_rfl) Try.func5 (by kernel_rfl)
    (of_decide_eq_true (by kernel_rfl)) (by unfold Func.isWrapper; first | (rw [if_pos (by decide +kernel)]; kernel_rfl) | (rw [if_neg (by decide +kernel)]; exact ⟨rfl, rfl⟩))
    (fun os started H enc _ => lifted os started H enc)
end Go.Proofs.Ytmfgjfnhonohjaa.intsHalves
