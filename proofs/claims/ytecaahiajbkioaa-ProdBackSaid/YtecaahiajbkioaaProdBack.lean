/-
  PROVED HERE: for every input the law tillerlaw06.ProdBack returns true, and each argument reads afterwards as it read before: products are the same both ways round; what is multiplied by 1 stays; with a 0 of the sign of the product added the product is left. No condition.
-/
import Derived.Test.YtecaahiajbkioaaG16
import Derived.Test.YtecaahiajbkioaaG17
import Derived.Test.YtecaahiajbkioaaG18
import Derived.Test.YtecaahiajbkioaaRows
namespace Go.Proofs.Ytecaahiajbkioaa.prodBack
open Go.KRun Go.Pt Go.ChangeShapes Go.WideShapes Go.ChangeAt Go.RowKit Go.Wd Go.Rn
set_option linter.unusedVariables false

theorem pb_nan (a b m : Int) : Fits (reckon (tabOf Try.prog extY conS6 true) 300 5 [.int .u64 a, .int .u64 b, .int .i64 m] [cmp false, cmp false, cmp false, cmp false, cmp false, cmp false, cmp true]) (.bool true) [(decide ((bNot a 9223372036854775808) > 9218868437227405312), true), (decide (U a ∧ U 4607182418800017408), true), (fmF m b a (bAnd (bXor a b) 9223372036854775808) != muF m a b, false), (fmP m b a (bAnd (bXor a b) 9223372036854775808) != muP m a b, false), (fmF m a b (bAnd (bXor a b) 9223372036854775808) != muF m a b, false), (fmP m a b (bAnd (bXor a b) 9223372036854775808) != muP m a b, false), (muF m a b != muF m b a, false), (muP m a b != muP m b a, false), (decide (U b ∧ U a ∧ U (bAnd (bXor a b) 9223372036854775808)), true), (decide (U a ∧ U b ∧ U (bAnd (bXor a b) 9223372036854775808)), true), (decide (U b ∧ U a), true), (decide (U a ∧ U b), true)] := ⟨by kernel_rfl, by kernel_rfl, by kernel_rfl, by kernel_rfl⟩
theorem pb_num (a b m : Int) : Fits (reckon (tabOf Try.prog extY conS6 true) 300 5 [.int .u64 a, .int .u64 b, .int .i64 m] [cmp false, cmp false, cmp false, cmp false, cmp false, cmp false, cmp false, cmp true, cmp true]) (.bool true) [(muF m a 4607182418800017408 == 0, true), (muP m a 4607182418800017408 == a, true), (decide ((bNot a 9223372036854775808) > 9218868437227405312), false), (decide (U a ∧ U 4607182418800017408), true), (fmF m b a (bAnd (bXor a b) 9223372036854775808) != muF m a b, false), (fmP m b a (bAnd (bXor a b) 9223372036854775808) != muP m a b, false), (fmF m a b (bAnd (bXor a b) 9223372036854775808) != muF m a b, false), (fmP m a b (bAnd (bXor a b) 9223372036854775808) != muP m a b, false), (muF m a b != muF m b a, false), (muP m a b != muP m b a, false), (decide (U b ∧ U a ∧ U (bAnd (bXor a b) 9223372036854775808)), true), (decide (U a ∧ U b ∧ U (bAnd (bXor a b) 9223372036854775808)), true), (decide (U b ∧ U a), true), (decide (U a ∧ U b), true)] := ⟨by kernel_rfl, by kernel_rfl, by kernel_rfl, by kernel_rfl⟩

theorem walk (a b m : Int) (ha : U a) (hb : U b) (w : World) : Calls Try.prog 5 #[.int .u64 a, .int .u64 b, .int .i64 m] w fun e w' => e = .returned (.bool true) ∧ Tidy w w' := by
  have hv : ([.int .u64 a, .int .u64 b, .int .i64 m].all (lt 0)) = true := rfl
  have ez : bAnd (bXor a b) 9223372036854775808 = zS (prN a b) := (xor_top ha hb).2
  obtain ⟨z1, z2⟩ := fm_zero m (a := a) (b := b)
  obtain ⟨c1, c2, c3⟩ := mag_cl a
  by_cases hn : 3 < cl a
  · exact fits_calls (tabY_ok conS6_ok) (pb_nan a b m) (okCons (by rw [bNot_mag ha]; exact decide_eq_true (c1.1 hn)) (okCons (decide_eq_true ⟨ha, by decide⟩) (okCons (bne_f (by rw [ez, ← (fm_comm m a b _).2, z2])) (okCons (bne_f (by rw [ez, ← (fm_comm m a b _).1, z1])) (okCons (bne_f (by rw [ez, z2])) (okCons (bne_f (by rw [ez, z1])) (okCons (bne_f (mu_comm m a b).2) (okCons (bne_f (mu_comm m a b).1) (okCons (decide_eq_true ⟨hb, ha, by rw [ez]; exact (zS_num _).2.2.2⟩) (okCons (decide_eq_true ⟨ha, hb, by rw [ez]; exact (zS_num _).2.2.2⟩) (okCons (decide_eq_true ⟨hb, ha⟩) (okL1 (decide_eq_true ⟨ha, hb⟩))))))))))))) hv (by rfl) w
  · exact fits_calls (tabY_ok conS6_ok) (pb_num a b m) (okCons (beq_t (mu_one ha (by omega)).2) (okCons (beq_t (mu_one ha (by omega)).1) (okCons (by rw [bNot_mag ha]; exact decide_eq_false (fun h => hn (c1.2 h))) (okCons (decide_eq_true ⟨ha, by decide⟩) (okCons (bne_f (by rw [ez, ← (fm_comm m a b _).2, z2])) (okCons (bne_f (by rw [ez, ← (fm_comm m a b _).1, z1])) (okCons (bne_f (by rw [ez, z2])) (okCons (bne_f (by rw [ez, z1])) (okCons (bne_f (mu_comm m a b).2) (okCons (bne_f (mu_comm m a b).1) (okCons (decide_eq_true ⟨hb, ha, by rw [ez]; exact (zS_num _).2.2.2⟩) (okCons (decide_eq_true ⟨ha, hb, by rw [ez]; exact (zS_num _).2.2.2⟩) (okCons (decide_eq_true ⟨hb, ha⟩) (okL1 (decide_eq_true ⟨ha, hb⟩))))))))))))))) hv (by rfl) w
theorem own : ownKnob Try.prog.godebug = none := by kernel_rfl
set_option maxRecDepth 100000 in
theorem lifted (os : Os) (started : os.Started) (H : Type) (enc : TypeId × Value → H) :
    ReturnsInHanded {} Try.checked os 5 .any (Rows.prodBackSpec.pre6 enc Try.prog Try.f5 Rows.prodBackRow.domain false) (Rows.prodBackSpec.post enc Try.prog Try.f5 false true false false) := by
  refine returnsInHanded_of_change (C := Try.checked) own started (by kernel_rfl) Try.func5
    (ChangeSpec.witness6 (enc := enc) (C := Try.checked) false ⟨#[], #[.int .u64 0, .int .u64 0, .int .i64 0], []⟩ 8 (by kernel_rfl) (by kernel_rfl) (by kernel_rfl) (by kernel_rfl)) ?_
  intro W base args ds gs before hval0 hW hcnd _
  have hval : ∀ (j : Nat) t v, Try.f5.params[j]? = some t → args[j]? = some v → Value.okWide Try.prog W .any base t v := hval0
  have hW' := hW
  obtain ⟨p, q, hA0, hV, rfl, hfz, hnd⟩ := hW
  have hA : DataW.TrodAll enc Try.prog W 0 (fun _ => true) true Try.f5.params.toList args.toList ds p := hA0
  rw [Try.params5] at hA hval
  obtain ⟨v0, v1, v2, d0, d1, d2, p0, p1, p2, rfl, rfl, rfl, h0, h1, h2⟩ := trodAll_three hA
  obtain ⟨rfl, rfl⟩ := trodVars_none hV
  obtain ⟨x0, rfl, rfl, rfl, w0⟩ := open_int Try.underlying22 (hval 0 22 v0 rfl rfl) h0
  obtain ⟨x1, rfl, rfl, rfl, w1⟩ := open_int Try.underlying22 (hval 1 22 v1 rfl rfl) h1
  obtain ⟨x2, rfl, rfl, rfl, w2⟩ := open_int Try.underlying3 (hval 2 3 v2 rfl rfl) h2
  clear hA0 hval0
  simp only [List.append_nil] at hW'
  refine (walk x0 x1 x2 (u64_bounds w0) (u64_bounds w1) W).mono fun e W' ⟨he, hg⟩ => ?_
  subst he
  exact ⟨_, rfl, post_of_same (pa := []) (pv := []) hW' (fun _ _ _ => trodAll_mk1 (shut_bool Try.underlying4 _))
    (fun sp _ => trodAll_mk3 (shut_int Try.underlying22 w0) (shut_int Try.underlying22 w1) (shut_int Try.underlying3 w2)) (fun _ _ => rfl) rfl
    (hg.1.frame _) (tidy_frozen hg) (ok_one (by kernel_rfl) rfl (okWide_bool_mk Try.underlying4 _))⟩

theorem proved : Rows.ProdBackSaid :=
  OpenClaim.holds_of_wide 5 Try.f5 rfl rfl rfl rfl rfl rfl rfl ⟨rfl, rfl, rfl, rfl, rfl⟩ rfl rfl rfl rfl rfl (by kernel_rfl) Try.func5 (by kernel_rfl)
    (of_decide_eq_true (by kernel_rfl)) (by unfold Func.isWrapper; first | (rw [if_pos (by decide +kernel)]; kernel_rfl) | (rw [if_neg (by decide +kernel)]; exact ⟨rfl, rfl⟩))
    (fun os started H enc _ => lifted os started H enc)
end Go.Proofs.Ytecaahiajbkioaa.prodBack
