/-
  PROVED HERE: for every input the law tillerlaw16.TurnSame returns true, and each argument reads afterwards as it read before: what is the same of a circle is the same of its points, bit by bit. No condition.
-/
import Derived.Test.YtdlpffgekmidnabG13
import Derived.Test.YtdlpffgekmidnabRows
namespace Go.Proofs.Ytdlpffgekmidnab.turnSame
open Go.KRun Go.Pt Go.ChangeShapes Go.WideShapes Go.ChangeAt Go.RowKit Go.Wd
set_option linter.unusedVariables false
set_option maxRecDepth 100000
def mI (n : Int) : Int := IntKind.i64.wrap (1 + IntKind.i64.wrap ((IntKind.u64.wrap n).tmod 16777216))
theorem ts_fits (k n : Int) : Fits (reckon (tabOf Try.prog extY conTM true) 600 3 [.int .i64 k, .int .i64 n] [cmp false, cmp false, cmp false, cmp false, cmp false, cmp false, cmp false, cmp false, cmp false, cmp false, cmp false, cmp false, cmp true, cmp true]) (.bool true) [(decide (bNot (siI ((jI k (mI n)) % (mI n)) (mI n)) 9223372036854775808 ≤ 4607182418800017408), true), (decide (bNot (coI ((jI k (mI n)) % (mI n)) (mI n)) 9223372036854775808 ≤ 4607182418800017408), true), ((siI ((w64 (w64 (2 * jI k (mI n)) + mI n)) % (w64 (2 * mI n))) (w64 (2 * mI n))) != Go.Tu.flip (siI ((jI k (mI n)) % (mI n)) (mI n)), false), (decide (0 ≤ (siI ((jI k (mI n)) % (mI n)) (mI n)) ∧ (siI ((jI k (mI n)) % (mI n)) (mI n)) < 18446744073709551616), true), ((coI ((w64 (w64 (2 * jI k (mI n)) + mI n)) % (w64 (2 * mI n))) (w64 (2 * mI n))) != Go.Tu.flip (coI ((jI k (mI n)) % (mI n)) (mI n)), false), (decide (0 ≤ (coI ((jI k (mI n)) % (mI n)) (mI n)) ∧ (coI ((jI k (mI n)) % (mI n)) (mI n)) < 18446744073709551616), true), ((siI ((w64 (w64 (4 * jI k (mI n)) + mI n)) % (w64 (4 * mI n))) (w64 (4 * mI n))) != (coI ((jI k (mI n)) % (mI n)) (mI n)), false), ((coI ((w64 (w64 (4 * jI k (mI n)) + mI n)) % (w64 (4 * mI n))) (w64 (4 * mI n))) != Go.Tu.flip (siI ((jI k (mI n)) % (mI n)) (mI n)), false), (decide (0 ≤ (siI ((jI k (mI n)) % (mI n)) (mI n)) ∧ (siI ((jI k (mI n)) % (mI n)) (mI n)) < 18446744073709551616), true), ((siI ((w64 (0 - jI k (mI n))) % (mI n)) (mI n)) != Go.Tu.flip (siI ((jI k (mI n)) % (mI n)) (mI n)), false), (decide (0 ≤ (siI ((jI k (mI n)) % (mI n)) (mI n)) ∧ (siI ((jI k (mI n)) % (mI n)) (mI n)) < 18446744073709551616), true), ((coI ((w64 (0 - jI k (mI n))) % (mI n)) (mI n)) != (coI ((jI k (mI n)) % (mI n)) (mI n)), false), bL (w64 (2 * mI n)) false, bL (w64 (4 * mI n)) false, bL (mI n) false, bL (mI n) false, (decide (mI n = 0), false), (decide ((16777216 : Int) = 0), false)] := ⟨by kernel_rfl, by kernel_rfl, by kernel_rfl, by kernel_rfl⟩
theorem walk (k n : Int) (w : World) : Calls Try.prog 3 #[.int .i64 k, .int .i64 n] w fun e w' => e = .returned (.bool true) ∧ Tidy w w' := by
  have hv : ([.int .i64 k, .int .i64 n].all (lt 0)) = true := rfl
  have hm : 1 ≤ mI n ∧ mI n ≤ 16777216 := m_bd (by decide) n
  have F := ts_fits k n
  generalize mI n = M at *
  have hj : -M < jI k M ∧ jI k M < M := j_bd (by omega)
  generalize jI k M = J at *
  rw [w64_is (show -9223372036854775808 ≤ 0 - J ∧ 0 - J ≤ 9223372036854775807 by omega), w64_is (show -9223372036854775808 ≤ 4 * J ∧ 4 * J ≤ 9223372036854775807 by omega), w64_is (show -9223372036854775808 ≤ 4 * J + M ∧ 4 * J + M ≤ 9223372036854775807 by omega), w64_is (show -9223372036854775808 ≤ 4 * M ∧ 4 * M ≤ 9223372036854775807 by omega), w64_is (show -9223372036854775808 ≤ 2 * J ∧ 2 * J ≤ 9223372036854775807 by omega), w64_is (show -9223372036854775808 ≤ 2 * J + M ∧ 2 * J + M ≤ 9223372036854775807 by omega), w64_is (show -9223372036854775808 ≤ 2 * M ∧ 2 * M ≤ 9223372036854775807 by omega)] at F
  have m0 : decide (M = 0) = false := decide_eq_false (by omega)
  have g1 : (bL M false).1 = (bL M false).2 := decide_eq_false (by unfold badP; omega)
  have g3 : (bL (4 * M) false).1 = (bL (4 * M) false).2 := decide_eq_false (by unfold badP; omega)
  have g4 : (bL (2 * M) false).1 = (bL (2 * M) false).2 := decide_eq_false (by unfold badP; omega)
  obtain ⟨c1, c2⟩ := same_neg (k := J) (n := M) ⟨by omega, by omega⟩
  obtain ⟨c3, c4⟩ := same_quarter (k := J) (n := M) ⟨by omega, by omega⟩
  obtain ⟨c5, c6⟩ := same_half (k := J) (n := M) ⟨by omega, by omega⟩
  have d1 : (coI ((0 - J) % M) M != coI (J % M) M) = false := bne_no c1
  have d2 : (siI ((0 - J) % M) M != Go.Tu.flip (siI (J % M) M)) = false := bne_no c2
  have d3 : (coI ((4 * J + M) % (4 * M)) (4 * M) != Go.Tu.flip (siI (J % M) M)) = false := bne_no c3
  have d4 : (siI ((4 * J + M) % (4 * M)) (4 * M) != coI (J % M) M) = false := bne_no c4
  have d5 : (coI ((2 * J + M) % (2 * M)) (2 * M) != Go.Tu.flip (coI (J % M) M)) = false := bne_no c5
  have d6 : (siI ((2 * J + M) % (2 * M)) (2 * M) != Go.Tu.flip (siI (J % M) M)) = false := bne_no c6
  obtain ⟨u1, b1⟩ := co_bd (in_k (k := J) (n := M) (by unfold badP; omega))
  obtain ⟨u2, b2⟩ := si_bd (in_k (k := J) (n := M) (by unfold badP; omega))
  have u1 := decide_eq_true u1
  have u2 := decide_eq_true u2
  exact fits_calls (tabY_ok conTM_ok) F (okPC b2 (okPC b1 (okPC d6 (okPC u2 (okPC d5 (okPC u1 (okPC d4 (okPC d3 (okPC u2 (okPC d2 (okPC u2 (okPC d1 (okPC g4 (okPC g3 (okPC g1 (okPC g1 (okPC m0 (okP1 (by decide))))))))))))))))))) hv (by rfl) w
theorem own : ownKnob Try.prog.godebug = none := by kernel_rfl
set_option maxRecDepth 100000 in
theorem lifted (os : Os) (started : os.Started) (H : Type) (enc : TypeId × Value → H) :
    ReturnsInHanded {} Try.checked os 3 .any (Rows.turnSameSpec.pre6 enc Try.prog Try.f3 Rows.turnSameRow.domain false) (Rows.turnSameSpec.post enc Try.prog Try.f3 false true false false) := by
  refine returnsInHanded_of_change (C := Try.checked) own started (by kernel_rfl) Try.func3
    (ChangeSpec.witness6 (enc := enc) (C := Try.checked) false ⟨#[], #[.int .i64 0, .int .i64 0], []⟩ 8 (by kernel_rfl) (by kernel_rfl) (by kernel_rfl) (by kernel_rfl)) ?_
  intro W base args ds gs before hval0 hW hcnd _
  have hval : ∀ (j : Nat) t v, Try.f3.params[j]? = some t → args[j]? = some v → Value.okWide Try.prog W .any base t v := hval0
  have hW' := hW
  obtain ⟨p, q, hA0, hV, rfl, hfz, hnd⟩ := hW
  have hA : DataW.TrodAll enc Try.prog W 0 (fun _ => true) true Try.f3.params.toList args.toList ds p := hA0
  rw [Try.params3] at hA hval
  obtain ⟨v0, v1, d0, d1, p0, p1, rfl, rfl, rfl, h0, h1⟩ := trodAll_two hA
  obtain ⟨rfl, rfl⟩ := trodVars_none hV
  obtain ⟨x0, rfl, rfl, rfl, w0⟩ := open_int Try.underlying3 (hval 0 3 v0 rfl rfl) h0
  obtain ⟨x1, rfl, rfl, rfl, w1⟩ := open_int Try.underlying3 (hval 1 3 v1 rfl rfl) h1
  clear hA0 hval0
  simp only [List.append_nil] at hW'
  refine (walk x0 x1 W).mono fun e W' ⟨he, hg⟩ => ?_
  subst he
  exact ⟨_, rfl, post_of_same (pa := []) (pv := []) hW' (fun _ _ _ => trodAll_mk1 (shut_bool Try.underlying4 _))
    (fun sp _ => trodAll_mk2 (shut_int Try.underlying3 w0) (shut_int Try.underlying3 w1)) (fun _ _ => rfl) rfl
    (hg.1.frame _) (tidy_frozen hg) (ok_one (by kernel_rfl) rfl (okWide_bool_mk Try.underlying4 _))⟩
theorem proved : Rows.TurnSameSaid :=
  OpenClaim.holds_of_wide 3 Try.f3 rfl rfl rfl rfl rfl rfl rfl ⟨rfl, rfl, rfl, rfl, rfl⟩ rfl rfl rfl rfl rfl (by kernel_rfl) Try.func3 (by kernel_rfl)
    (of_decide_eq_true (by kernel_rfl)) (by unfold Func.isWrapper; first | (rw [if_pos (by decide +kernel)]; kernel_rfl) | (rw [if_neg (by decide +kernel)]; exact ⟨rfl, rfl⟩))
    (fun os started H enc _ => lifted os started H enc)
end Go.Proofs.Ytdlpffgekmidnab.turnSame
