/-
  PROVED HERE: for every input the law tillerlaw11.IntsBack returns true, and each argument reads afterwards as it read before: a whole number of 53 bits at most is itself again, by all roads, without flags; a greater one is by Down not greater, by Up not less. No condition.
-/
import Derived.Test.YtmfgjfnhonohjaaG19
import Derived.Test.YtmfgjfnhonohjaaG20
import Derived.Test.YtmfgjfnhonohjaaRows
namespace Go.Proofs.Ytmfgjfnhonohjaa.intsBack
open Go.KRun Go.Pt Go.ChangeShapes Go.WideShapes Go.ChangeAt Go.RowKit Go.Wd Go.Rn
set_option linter.unusedVariables false

def k11 (n : Int) : Int := n.fdiv 2048
theorem ib_pt (n m : Int) : Fits (reckon (tabOf Try.prog extY conI3 true) 400 6 [.int .i64 n, .int .i64 m] [cmp false, cmp false, cmp false, cmp true, cmp false, cmp false, cmp true, cmp true, cmp true]) (.bool true) [(tiF 9223372036854775808 9223372036854775807 0 (oiP 3 n) true == 1, true), (decide (tiI 9223372036854775808 9223372036854775807 0 (oiP 4 n) ≤ n), true), (tiF 9223372036854775808 9223372036854775807 0 (oiP 4 n) true == 0, true), (decide (U (oiP 3 n)), true), (decide (U (oiP 4 n)), true), (decide (Go.Pt.I n), true), (decide (Go.Pt.I n), true), (tiI 0 18446744073709551615 m (oiP m (k11 n)) != IntKind.u64.wrap (k11 n), false), (tiF 0 18446744073709551615 m (oiP m (k11 n)) true != 0, false), (decide (U (oiP m (k11 n))), true), (decide (k11 n ≥ 0), true), (tiI 9223372036854775808 9223372036854775807 m (oiP m (k11 n)) != k11 n, false), (tiF 9223372036854775808 9223372036854775807 m (oiP m (k11 n)) true != 0, false), (oiF m (k11 n) != 0, false), (decide (U (oiP m (k11 n))), true), (decide (Go.Pt.I (k11 n)), true), (decide ((11 : Int) < 0), false)] := ⟨by kernel_rfl, by kernel_rfl, by kernel_rfl, by kernel_rfl⟩
theorem ib_pf (n m : Int) : Fits (reckon (tabOf Try.prog extY conI3 true) 400 6 [.int .i64 n, .int .i64 m] [cmp false, cmp false, cmp false, cmp true, cmp false, cmp false, cmp true, cmp true, cmp false, cmp true]) (.bool true) [(decide (tiI 9223372036854775808 9223372036854775807 0 (oiP 3 n) ≥ n), true), (tiF 9223372036854775808 9223372036854775807 0 (oiP 3 n) true == 1, false), (decide (tiI 9223372036854775808 9223372036854775807 0 (oiP 4 n) ≤ n), true), (tiF 9223372036854775808 9223372036854775807 0 (oiP 4 n) true == 0, true), (decide (U (oiP 3 n)), true), (decide (U (oiP 4 n)), true), (decide (Go.Pt.I n), true), (decide (Go.Pt.I n), true), (tiI 0 18446744073709551615 m (oiP m (k11 n)) != IntKind.u64.wrap (k11 n), false), (tiF 0 18446744073709551615 m (oiP m (k11 n)) true != 0, false), (decide (U (oiP m (k11 n))), true), (decide (k11 n ≥ 0), true), (tiI 9223372036854775808 9223372036854775807 m (oiP m (k11 n)) != k11 n, false), (tiF 9223372036854775808 9223372036854775807 m (oiP m (k11 n)) true != 0, false), (oiF m (k11 n) != 0, false), (decide (U (oiP m (k11 n))), true), (decide (Go.Pt.I (k11 n)), true), (decide ((11 : Int) < 0), false)] := ⟨by kernel_rfl, by kernel_rfl, by kernel_rfl, by kernel_rfl⟩
theorem ib_mt (n m : Int) : Fits (reckon (tabOf Try.prog extY conI3 true) 400 6 [.int .i64 n, .int .i64 m] [cmp false, cmp false, cmp false, cmp false, cmp true, cmp true, cmp true]) (.bool true) [(tiF 9223372036854775808 9223372036854775807 0 (oiP 3 n) true == 1, true), (decide (tiI 9223372036854775808 9223372036854775807 0 (oiP 4 n) ≤ n), true), (tiF 9223372036854775808 9223372036854775807 0 (oiP 4 n) true == 0, true), (decide (U (oiP 3 n)), true), (decide (U (oiP 4 n)), true), (decide (Go.Pt.I n), true), (decide (Go.Pt.I n), true), (decide (k11 n ≥ 0), false), (tiI 9223372036854775808 9223372036854775807 m (oiP m (k11 n)) != k11 n, false), (tiF 9223372036854775808 9223372036854775807 m (oiP m (k11 n)) true != 0, false), (oiF m (k11 n) != 0, false), (decide (U (oiP m (k11 n))), true), (decide (Go.Pt.I (k11 n)), true), (decide ((11 : Int) < 0), false)] := ⟨by kernel_rfl, by kernel_rfl, by kernel_rfl, by kernel_rfl⟩
theorem ib_mf (n m : Int) : Fits (reckon (tabOf Try.prog extY conI3 true) 400 6 [.int .i64 n, .int .i64 m] [cmp false, cmp false, cmp false, cmp false, cmp true, cmp true, cmp false, cmp true]) (.bool true) [(decide (tiI 9223372036854775808 9223372036854775807 0 (oiP 3 n) ≥ n), true), (tiF 9223372036854775808 9223372036854775807 0 (oiP 3 n) true == 1, false), (decide (tiI 9223372036854775808 9223372036854775807 0 (oiP 4 n) ≤ n), true), (tiF 9223372036854775808 9223372036854775807 0 (oiP 4 n) true == 0, true), (decide (U (oiP 3 n)), true), (decide (U (oiP 4 n)), true), (decide (Go.Pt.I n), true), (decide (Go.Pt.I n), true), (decide (k11 n ≥ 0), false), (tiI 9223372036854775808 9223372036854775807 m (oiP m (k11 n)) != k11 n, false), (tiF 9223372036854775808 9223372036854775807 m (oiP m (k11 n)) true != 0, false), (oiF m (k11 n) != 0, false), (decide (U (oiP m (k11 n))), true), (decide (Go.Pt.I (k11 n)), true), (decide ((11 : Int) < 0), false)] := ⟨by kernel_rfl, by kernel_rfl, by kernel_rfl, by kernel_rfl⟩
theorem walk (n m : Int) (hn : Go.Pt.I n) (w : World) : Calls Try.prog 6 #[.int .i64 n, .int .i64 m] w fun e w' => e = .returned (.bool true) ∧ Tidy w w' := by
  have hv : ([.int .i64 n, .int .i64 m].all (lt 0)) = true := rfl
  have T := tabY_ok conI3_ok
  have n0 := hn.1
  have n1 := hn.2
  have ek : k11 n = n / 2048 := Int.fdiv_eq_ediv_of_nonneg _ (by omega)
  have kb : -4503599627370496 ≤ k11 n ∧ k11 n ≤ 4503599627370495 := by rw [ek]; omega
  obtain ⟨a1, a2, _⟩ := oi_back (n := k11 n) (by omega) m m true 9223372036854775808 9223372036854775807
  have a2 := a2 ⟨by omega, by omega⟩
  obtain ⟨h1, h2, h3⟩ := oi_sides hn
  by_cases hk : k11 n ≥ 0
  · obtain ⟨_, b2, _⟩ := oi_back (n := k11 n) (by omega) m m true 0 18446744073709551615
    have b2 := b2 ⟨by omega, by omega⟩
    rcases h3 with h3 | h3
    · exact fits_calls T (ib_pt n m) (okCons (beq_t h3) (okCons (decide_eq_true h2) (okCons (beq_t h1) (okCons (decide_eq_true (oi_U 3 n)) (okCons (decide_eq_true (oi_U 4 n)) (okCons (decide_eq_true hn) (okCons (decide_eq_true hn) (okCons (bne_f (b2.1.trans (wrapU' ⟨by omega, by omega⟩).symm)) (okCons (bne_f b2.2) (okCons (decide_eq_true (oi_U m (k11 n))) (okCons (decide_eq_true hk) (okCons (bne_f a2.1) (okCons (bne_f a2.2) (okCons (bne_f a1) (okCons (decide_eq_true (oi_U m (k11 n))) (okCons (decide_eq_true ⟨by omega, by omega⟩) (okL1 (by decide)))))))))))))))))) hv (by rfl) w
    · exact fits_calls T (ib_pf n m) (okCons (decide_eq_true h3.2) (okCons (beq_f h3.1) (okCons (decide_eq_true h2) (okCons (beq_t h1) (okCons (decide_eq_true (oi_U 3 n)) (okCons (decide_eq_true (oi_U 4 n)) (okCons (decide_eq_true hn) (okCons (decide_eq_true hn) (okCons (bne_f (b2.1.trans (wrapU' ⟨by omega, by omega⟩).symm)) (okCons (bne_f b2.2) (okCons (decide_eq_true (oi_U m (k11 n))) (okCons (decide_eq_true hk) (okCons (bne_f a2.1) (okCons (bne_f a2.2) (okCons (bne_f a1) (okCons (decide_eq_true (oi_U m (k11 n))) (okCons (decide_eq_true ⟨by omega, by omega⟩) (okL1 (by decide))))))))))))))))))) hv (by rfl) w
  · rcases h3 with h3 | h3
    · exact fits_calls T (ib_mt n m) (okCons (beq_t h3) (okCons (decide_eq_true h2) (okCons (beq_t h1) (okCons (decide_eq_true (oi_U 3 n)) (okCons (decide_eq_true (oi_U 4 n)) (okCons (decide_eq_true hn) (okCons (decide_eq_true hn) (okCons (decide_eq_false hk) (okCons (bne_f a2.1) (okCons (bne_f a2.2) (okCons (bne_f a1) (okCons (decide_eq_true (oi_U m (k11 n))) (okCons (decide_eq_true ⟨by omega, by omega⟩) (okL1 (by decide))))))))))))))) hv (by rfl) w
    · exact fits_calls T (ib_mf n m) (okCons (decide_eq_true h3.2) (okCons (beq_f h3.1) (okCons (decide_eq_true h2) (okCons (beq_t h1) (okCons (decide_eq_true (oi_U 3 n)) (okCons (decide_eq_true (oi_U 4 n)) (okCons (decide_eq_true hn) (okCons (decide_eq_true hn) (okCons (decide_eq_false hk) (okCons (bne_f a2.1) (okCons (bne_f a2.2) (okCons (bne_f a1) (okCons (decide_eq_true (oi_U m (k11 n))) (okCons (decide_eq_true ⟨by omega, by omega⟩) (okL1 (by decide)))))))))))))))) hv (by rfl) w
theorem own : ownKnob Try.prog.godebug = none := by kernel_rfl
set_option maxRecDepth 100000 in
theorem lifted (os : Os) (started : os.Started) (H : Type) (enc : TypeId × Value → H) :
    ReturnsInHanded {} Try.checked os 6 .any (Rows.intsBackSpec.pre6 enc Try.prog Try.f6 Rows.intsBackRow.domain false) (Rows.intsBackSpec.post enc Try.prog Try.f6 false true false false) := by
  refine returnsInHanded_of_change (C := Try.checked) own started (by kernel_rfl) Try.func6
    (ChangeSpec.witness6 (enc := enc) (C := Try.checked) false ⟨#[], #[.int .i64 0, .int .i64 0], []⟩ 8 (by kernel_rfl) (by kernel_rfl) (by kernel_rfl) (by kernel_rfl)) ?_
  intro W base args ds gs before hval0 hW hcnd _
  have hval : ∀ (j : Nat) t v, Try.f6.params[j]? = some t → args[j]? = some v → Value.okWide Try.prog W .any base t v := hval0
  have hW' := hW
  obtain ⟨p, q, hA0, hV, rfl, hfz, hnd⟩ := hW
  have hA : DataW.TrodAll enc Try.prog W 0 (fun _ => true) true Try.f6.params.toList args.toList ds p := hA0
  rw [Try.params6] at hA hval
  obtain ⟨v0, v1, d0, d1, p0, p1, rfl, rfl, rfl, h0, h1⟩ := trodAll_two hA
  obtain ⟨rfl, rfl⟩ := trodVars_none hV
  obtain ⟨x0, rfl, rfl, rfl, w0⟩ := open_int Try.underlying2 (hval 0 2 v0 rfl rfl) h0
  obtain ⟨x1, rfl, rfl, rfl, w1⟩ := open_int Try.underlying3 (hval 1 3 v1 rfl rfl) h1
  clear hA0 hval0
  simp only [List.append_nil] at hW'
  refine (walk x0 x1 (i64_bounds w0) W).mono fun e W' ⟨he, hg⟩ => ?_
  subst he
  exact ⟨_, rfl, post_of_same (pa := []) (pv := []) hW' (fun _ _ _ => trodAll_mk1 (shut_bool Try.underlying4 _))
    (fun sp _ => trodAll_mk2 (shut_int Try.underlying2 w0) (shut_int Try.underlying3 w1)) (fun _ _ => rfl) rfl
    (hg.1.frame _) (tidy_frozen hg) (ok_one (by kernel_rfl) rfl (okWide_bool_mk Try.underlying4 _))⟩

theorem proved : Rows.IntsBackSaid :=
  OpenClaim.holds_of_wide 6 Try.f6 rfl rfl rfl rfl rfl rfl rfl ⟨rfl, rfl, rfl, rfl, rfl⟩ rfl rfl rfl rfl rfl (by kernel_rfl) Try.func6 (by kernel_rfl)
    (of_decide_eq_true (by kernel_rfl)) (by unfold Func.isWrapper; first | (rw [if_pos (by decide +kernel)]; kernel_rfl) | (rw [if_neg (by decide +kernel)]; exact ⟨rfl, rfl⟩))
    (fun os started H enc _ => lifted os started H enc)
end Go.Proofs.Ytmfgjfnhonohjaa.intsBack
