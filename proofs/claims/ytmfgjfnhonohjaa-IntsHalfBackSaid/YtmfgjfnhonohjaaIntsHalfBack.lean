/-
  PROVED HERE: for every input the law tillerlaw11.IntsHalfBack returns true, and each argument reads afterwards as it read before: a whole number of 32 bits is itself again by both roads, without flags. No condition.
-/
import Derived.Test.YtmfgjfnhonohjaaG19
import Derived.Test.YtmfgjfnhonohjaaG20
import Derived.Test.YtmfgjfnhonohjaaRows
namespace Go.Proofs.Ytmfgjfnhonohjaa.intsHalfBack
open Go.KRun Go.Pt Go.ChangeShapes Go.WideShapes Go.ChangeAt Go.RowKit Go.Wd Go.Rn
set_option linter.unusedVariables false

theorem i32_bd {n : Int} (h : (Lit.int .i32 n).wf = true) : -2147483648 ≤ n ∧ n ≤ 2147483647 := by
  simp [Lit.wf, IntKind.min, IntKind.max, IntKind.signed, IntKind.bits] at h
  omega
theorem hb_m (n m : Int) : Fits (reckon (tabOf Try.prog extY conI3 true) 400 7 [.int .i32 n, .int .i64 m] [cmp false, cmp false, cmp false, cmp false, cmp false, cmp true, cmp true, cmp true]) (.bool true) [(tiF 0 4294967295 m (oiP m (IntKind.i64.wrap n)) true == 1, true), (tiI 0 4294967295 m (oiP m (IntKind.i64.wrap n)) == 0, true), (decide (n < 0), true), (decide (U (oiP m (IntKind.i64.wrap n))), true), (tiI 9223372036854775808 9223372036854775807 m (oiP m (IntKind.i64.wrap n)) != IntKind.i64.wrap n, false), (tiI 2147483648 2147483647 m (oiP m (IntKind.i64.wrap n)) != n, false), (tiF 9223372036854775808 9223372036854775807 m (oiP m (IntKind.i64.wrap n)) true != 0, false), (tiF 2147483648 2147483647 m (oiP m (IntKind.i64.wrap n)) true != 0, false), (oiF m (IntKind.i64.wrap n) != 0, false), (decide (U (oiP m (IntKind.i64.wrap n))), true), (decide (U (oiP m (IntKind.i64.wrap n))), true), (decide (Go.Pt.I (IntKind.i64.wrap n)), true)] := ⟨by kernel_rfl, by kernel_rfl, by kernel_rfl, by kernel_rfl⟩
theorem hb_p (n m : Int) : Fits (reckon (tabOf Try.prog extY conI3 true) 400 7 [.int .i32 n, .int .i64 m] [cmp false, cmp false, cmp false, cmp false, cmp false, cmp false, cmp true, cmp true]) (.bool true) [(tiF 0 4294967295 m (oiP m (IntKind.i64.wrap n)) true == 0, true), (tiI 0 4294967295 m (oiP m (IntKind.i64.wrap n)) == IntKind.u32.wrap n, true), (decide (n < 0), false), (decide (U (oiP m (IntKind.i64.wrap n))), true), (tiI 9223372036854775808 9223372036854775807 m (oiP m (IntKind.i64.wrap n)) != IntKind.i64.wrap n, false), (tiI 2147483648 2147483647 m (oiP m (IntKind.i64.wrap n)) != n, false), (tiF 9223372036854775808 9223372036854775807 m (oiP m (IntKind.i64.wrap n)) true != 0, false), (tiF 2147483648 2147483647 m (oiP m (IntKind.i64.wrap n)) true != 0, false), (oiF m (IntKind.i64.wrap n) != 0, false), (decide (U (oiP m (IntKind.i64.wrap n))), true), (decide (U (oiP m (IntKind.i64.wrap n))), true), (decide (Go.Pt.I (IntKind.i64.wrap n)), true)] := ⟨by kernel_rfl, by kernel_rfl, by kernel_rfl, by kernel_rfl⟩
theorem walk (n m : Int) (h0 : -2147483648 ≤ n) (h1 : n ≤ 2147483647) (w : World) : Calls Try.prog 7 #[.int .i32 n, .int .i64 m] w fun e w' => e = .returned (.bool true) ∧ Tidy w w' := by
  have hv : ([.int .i32 n, .int .i64 m].all (lt 0)) = true := rfl
  have T := tabY_ok conI3_ok
  have ew : IntKind.i64.wrap n = n := wrapI' ⟨by omega, by omega⟩
  obtain ⟨a1, a2, _⟩ := oi_back (n := n) (by omega) m m true 2147483648 2147483647
  have a2 := a2 ⟨by omega, by omega⟩
  obtain ⟨_, b2, _⟩ := oi_back (n := n) (by omega) m m true 9223372036854775808 9223372036854775807
  have b2 := b2 ⟨by omega, by omega⟩
  obtain ⟨_, c2, c3⟩ := oi_back (n := n) (by omega) m m true 0 4294967295
  by_cases h : n < 0
  · have c2 := c3 (by omega)
    exact fits_calls T (hb_m n m) (okCons (beq_t (by rw [ew]; exact c2.2)) (okCons (beq_t (by rw [ew]; exact c2.1)) (okCons (decide_eq_true h) (okCons (decide_eq_true (oi_U _ _)) (okCons (bne_f (by rw [ew]; exact b2.1)) (okCons (bne_f (by rw [ew]; exact a2.1)) (okCons (bne_f (by rw [ew]; exact b2.2)) (okCons (bne_f (by rw [ew]; exact a2.2)) (okCons (bne_f (by rw [ew]; exact a1)) (okCons (decide_eq_true (oi_U _ _)) (okCons (decide_eq_true (oi_U _ _)) (okL1 (decide_eq_true (by rw [ew]; exact ⟨by omega, by omega⟩)))))))))))))) hv (by rfl) w
  · have c2 := c2 ⟨by omega, by omega⟩
    have eu : IntKind.u32.wrap n = n := by
      simp [IntKind.wrap, IntKind.bits, IntKind.signed]
      omega
    exact fits_calls T (hb_p n m) (okCons (beq_t (by rw [ew]; exact c2.2)) (okCons (beq_t (by rw [ew, eu]; exact c2.1)) (okCons (decide_eq_false h) (okCons (decide_eq_true (oi_U _ _)) (okCons (bne_f (by rw [ew]; exact b2.1)) (okCons (bne_f (by rw [ew]; exact a2.1)) (okCons (bne_f (by rw [ew]; exact b2.2)) (okCons (bne_f (by rw [ew]; exact a2.2)) (okCons (bne_f (by rw [ew]; exact a1)) (okCons (decide_eq_true (oi_U _ _)) (okCons (decide_eq_true (oi_U _ _)) (okL1 (decide_eq_true (by rw [ew]; exact ⟨by omega, by omega⟩)))))))))))))) hv (by rfl) w
theorem own : ownKnob Try.prog.godebug = none := by kernel_rfl
set_option maxRecDepth 100000 in
theorem lifted (os : Os) (started : os.Started) (H : Type) (enc : TypeId × Value → H) :
    ReturnsInHanded {} Try.checked os 7 .any (Rows.intsHalfBackSpec.pre6 enc Try.prog Try.f7 Rows.intsHalfBackRow.domain false) (Rows.intsHalfBackSpec.post enc Try.prog Try.f7 false true false false) := by
  refine returnsInHanded_of_change (C := Try.checked) own started (by kernel_rfl) Try.func7
    (ChangeSpec.witness6 (enc := enc) (C := Try.checked) false ⟨#[], #[.int .i32 0, .int .i64 0], []⟩ 8 (by kernel_rfl) (by kernel_rfl) (by kernel_rfl) (by kernel_rfl)) ?_
  intro W base args ds gs before hval0 hW hcnd _
  have hval : ∀ (j : Nat) t v, Try.f7.params[j]? = some t → args[j]? = some v → Value.okWide Try.prog W .any base t v := hval0
  have hW' := hW
  obtain ⟨p, q, hA0, hV, rfl, hfz, hnd⟩ := hW
  have hA : DataW.TrodAll enc Try.prog W 0 (fun _ => true) true Try.f7.params.toList args.toList ds p := hA0
  rw [Try.params7] at hA hval
  obtain ⟨v0, v1, d0, d1, p0, p1, rfl, rfl, rfl, h0, h1⟩ := trodAll_two hA
  obtain ⟨rfl, rfl⟩ := trodVars_none hV
  obtain ⟨x0, rfl, rfl, rfl, w0⟩ := open_int Try.underlying21 (hval 0 21 v0 rfl rfl) h0
  obtain ⟨x1, rfl, rfl, rfl, w1⟩ := open_int Try.underlying3 (hval 1 3 v1 rfl rfl) h1
  clear hA0 hval0
  simp only [List.append_nil] at hW'
  refine (walk x0 x1 (i32_bd w0).1 (i32_bd w0).2 W).mono fun e W' ⟨he, hg⟩ => ?_
  subst he
  exact ⟨_, rfl, post_of_same (pa := []) (pv := []) hW' (fun _ _ _ => trodAll_mk1 (shut_bool Try.underlying4 _))
    (fun sp _ => trodAll_mk2 (shut_int Try.underlying21 w0) (shut_int Try.underlying3 w1)) (fun _ _ => rfl) rfl
    (hg.1.frame _) (tidy_frozen hg) (ok_one (by kernel_rfl) rfl (okWide_bool_mk Try.underlying4 _))⟩

theorem proved : Rows.IntsHalfBackSaid :=
  OpenClaim.holds_of_wide 7 Try.f7 rfl rfl rfl rfl rfl rfl rfl ⟨rfl, rfl, rfl, rfl, rfl⟩ rfl rfl rfl rfl rfl (by kernel_rfl) Try.func7 (by kernel_rfl)
    (of_decide_eq_true (by kernel_rfl)) (by unfold Func.isWrapper; first | (rw [if_pos (by decide +kernel)]; kernel_rfl) | (rw [if_neg (by decide +kernel)]; exact ⟨rfl, rfl⟩))
    (fun os started H enc _ => lifted os started H enc)
end Go.Proofs.Ytmfgjfnhonohjaa.intsHalfBack
