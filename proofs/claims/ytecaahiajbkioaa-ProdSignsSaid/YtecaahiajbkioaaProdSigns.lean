/-
  PROVED HERE: for every input the law tillerlaw06.ProdSigns returns true, and each argument reads afterwards as it read before: with one other sign, and the modes of the sides changed, a product is the one with the other sign, with the same flags; with two it is the same. No condition.
-/
import Derived.Test.YtecaahiajbkioaaG16
import Derived.Test.YtecaahiajbkioaaG17
import Derived.Test.YtecaahiajbkioaaG18
import Derived.Test.YtecaahiajbkioaaRows
namespace Go.Proofs.Ytecaahiajbkioaa.prodSigns
open Go.KRun Go.Pt Go.ChangeShapes Go.WideShapes Go.ChangeAt Go.RowKit Go.Wd Go.Rn
set_option linter.unusedVariables false

theorem ps_n3 (a b m : Int) : Fits (reckon (tabOf Try.prog extY conS6 true) 300 7 [.int .u64 a, .int .u64 b, .int .i64 m] [cmp true, cmp true, cmp true, cmp true, cmp true, cmp true]) (.bool true) [(muF m (bXor a 9223372036854775808) (bXor b 9223372036854775808) == muF m a b, true), (muP m (bXor a 9223372036854775808) (bXor b 9223372036854775808) == muP m a b, true), (muF m a b == muF 4 (bXor a 9223372036854775808) b, true), (muP 4 (bXor a 9223372036854775808) b == muP m a b, true), (muP m a b == 9221120237041090560, true), (decide (U (bXor a 9223372036854775808) ∧ U (bXor b 9223372036854775808)), true), (decide (U (bXor a 9223372036854775808) ∧ U b), true), (m == 3, true), (decide (U a ∧ U b), true)] := ⟨by kernel_rfl, by kernel_rfl, by kernel_rfl, by kernel_rfl⟩
theorem ps_s3 (a b m : Int) : Fits (reckon (tabOf Try.prog extY conS6 true) 300 7 [.int .u64 a, .int .u64 b, .int .i64 m] [cmp true, cmp false, cmp true, cmp true, cmp true, cmp true]) (.bool true) [(muF m (bXor a 9223372036854775808) (bXor b 9223372036854775808) == muF m a b, true), (muP m (bXor a 9223372036854775808) (bXor b 9223372036854775808) == muP m a b, true), (muF m a b == muF 4 (bXor a 9223372036854775808) b, true), (muP m a b == (bXor (muP 4 (bXor a 9223372036854775808) b) 9223372036854775808), true), (muP m a b == 9221120237041090560, false), (decide (U (bXor a 9223372036854775808) ∧ U (bXor b 9223372036854775808)), true), (decide (U (bXor a 9223372036854775808) ∧ U b), true), (m == 3, true), (decide (U a ∧ U b), true)] := ⟨by kernel_rfl, by kernel_rfl, by kernel_rfl, by kernel_rfl⟩
theorem ps_n4 (a b m : Int) : Fits (reckon (tabOf Try.prog extY conS6 true) 300 7 [.int .u64 a, .int .u64 b, .int .i64 m] [cmp false, cmp true, cmp true, cmp true, cmp true, cmp true, cmp true]) (.bool true) [(muF m (bXor a 9223372036854775808) (bXor b 9223372036854775808) == muF m a b, true), (muP m (bXor a 9223372036854775808) (bXor b 9223372036854775808) == muP m a b, true), (muF m a b == muF 3 (bXor a 9223372036854775808) b, true), (muP 3 (bXor a 9223372036854775808) b == muP m a b, true), (muP m a b == 9221120237041090560, true), (decide (U (bXor a 9223372036854775808) ∧ U (bXor b 9223372036854775808)), true), (decide (U (bXor a 9223372036854775808) ∧ U b), true), (m == 4, true), (m == 3, false), (decide (U a ∧ U b), true)] := ⟨by kernel_rfl, by kernel_rfl, by kernel_rfl, by kernel_rfl⟩
theorem ps_s4 (a b m : Int) : Fits (reckon (tabOf Try.prog extY conS6 true) 300 7 [.int .u64 a, .int .u64 b, .int .i64 m] [cmp false, cmp true, cmp false, cmp true, cmp true, cmp true, cmp true]) (.bool true) [(muF m (bXor a 9223372036854775808) (bXor b 9223372036854775808) == muF m a b, true), (muP m (bXor a 9223372036854775808) (bXor b 9223372036854775808) == muP m a b, true), (muF m a b == muF 3 (bXor a 9223372036854775808) b, true), (muP m a b == (bXor (muP 3 (bXor a 9223372036854775808) b) 9223372036854775808), true), (muP m a b == 9221120237041090560, false), (decide (U (bXor a 9223372036854775808) ∧ U (bXor b 9223372036854775808)), true), (decide (U (bXor a 9223372036854775808) ∧ U b), true), (m == 4, true), (m == 3, false), (decide (U a ∧ U b), true)] := ⟨by kernel_rfl, by kernel_rfl, by kernel_rfl, by kernel_rfl⟩
theorem ps_n0 (a b m : Int) : Fits (reckon (tabOf Try.prog extY conS6 true) 300 7 [.int .u64 a, .int .u64 b, .int .i64 m] [cmp false, cmp false, cmp true, cmp true, cmp true, cmp true, cmp true]) (.bool true) [(muF m (bXor a 9223372036854775808) (bXor b 9223372036854775808) == muF m a b, true), (muP m (bXor a 9223372036854775808) (bXor b 9223372036854775808) == muP m a b, true), (muF m a b == muF m (bXor a 9223372036854775808) b, true), (muP m (bXor a 9223372036854775808) b == muP m a b, true), (muP m a b == 9221120237041090560, true), (decide (U (bXor a 9223372036854775808) ∧ U (bXor b 9223372036854775808)), true), (decide (U (bXor a 9223372036854775808) ∧ U b), true), (m == 4, false), (m == 3, false), (decide (U a ∧ U b), true)] := ⟨by kernel_rfl, by kernel_rfl, by kernel_rfl, by kernel_rfl⟩
theorem ps_s0 (a b m : Int) : Fits (reckon (tabOf Try.prog extY conS6 true) 300 7 [.int .u64 a, .int .u64 b, .int .i64 m] [cmp false, cmp false, cmp false, cmp true, cmp true, cmp true, cmp true]) (.bool true) [(muF m (bXor a 9223372036854775808) (bXor b 9223372036854775808) == muF m a b, true), (muP m (bXor a 9223372036854775808) (bXor b 9223372036854775808) == muP m a b, true), (muF m a b == muF m (bXor a 9223372036854775808) b, true), (muP m a b == (bXor (muP m (bXor a 9223372036854775808) b) 9223372036854775808), true), (muP m a b == 9221120237041090560, false), (decide (U (bXor a 9223372036854775808) ∧ U (bXor b 9223372036854775808)), true), (decide (U (bXor a 9223372036854775808) ∧ U b), true), (m == 4, false), (m == 3, false), (decide (U a ∧ U b), true)] := ⟨by kernel_rfl, by kernel_rfl, by kernel_rfl, by kernel_rfl⟩

theorem walk (a b m : Int) (ha : U a) (hb : U b) (w : World) : Calls Try.prog 7 #[.int .u64 a, .int .u64 b, .int .i64 m] w fun e w' => e = .returned (.bool true) ∧ Tidy w w' := by
  have hv : ([.int .u64 a, .int .u64 b, .int .i64 m].all (lt 0)) = true := rfl
  have na := (ng_parts ha).1
  have nb := (ng_parts hb).1
  have ea := bXor_ng ha
  have eb := bXor_ng hb
  obtain ⟨d1, d2⟩ := mu_ng2 (m := m) ha hb
  obtain ⟨f, h⟩ := mu_ng (m := m) (b := b) ha
  by_cases h3 : m = 3
  · have e : swM m = 4 := by rw [h3]; rfl
    rw [e] at f h
    rcases h with ⟨n1, n2⟩ | ⟨n1, n2⟩
    · exact fits_calls (tabY_ok conS6_ok) (ps_n3 a b m) (okCons (beq_t (by rw [ea, eb, d2])) (okCons (beq_t (by rw [ea, eb, d1])) (okCons (beq_t (by rw [ea, f])) (okCons (beq_t (by rw [ea, n2, n1])) (okCons (beq_t n1) (okCons (decide_eq_true ⟨by rw [ea]; exact na, by rw [eb]; exact nb⟩) (okCons (decide_eq_true ⟨by rw [ea]; exact na, hb⟩) (okCons (beq_t h3) (okL1 (decide_eq_true ⟨ha, hb⟩)))))))))) hv (by rfl) w
    · exact fits_calls (tabY_ok conS6_ok) (ps_s3 a b m) (okCons (beq_t (by rw [ea, eb, d2])) (okCons (beq_t (by rw [ea, eb, d1])) (okCons (beq_t (by rw [ea, f])) (okCons (beq_t (by rw [ea, bXor_ng (mu_U _ _ _)]; exact n2)) (okCons (beq_f n1) (okCons (decide_eq_true ⟨by rw [ea]; exact na, by rw [eb]; exact nb⟩) (okCons (decide_eq_true ⟨by rw [ea]; exact na, hb⟩) (okCons (beq_t h3) (okL1 (decide_eq_true ⟨ha, hb⟩)))))))))) hv (by rfl) w
  · by_cases h4 : m = 4
    · have e : swM m = 3 := by rw [h4]; rfl
      rw [e] at f h
      rcases h with ⟨n1, n2⟩ | ⟨n1, n2⟩
      · exact fits_calls (tabY_ok conS6_ok) (ps_n4 a b m) (okCons (beq_t (by rw [ea, eb, d2])) (okCons (beq_t (by rw [ea, eb, d1])) (okCons (beq_t (by rw [ea, f])) (okCons (beq_t (by rw [ea, n2, n1])) (okCons (beq_t n1) (okCons (decide_eq_true ⟨by rw [ea]; exact na, by rw [eb]; exact nb⟩) (okCons (decide_eq_true ⟨by rw [ea]; exact na, hb⟩) (okCons (beq_t h4) (okCons (beq_f h3) (okL1 (decide_eq_true ⟨ha, hb⟩))))))))))) hv (by rfl) w
      · exact fits_calls (tabY_ok conS6_ok) (ps_s4 a b m) (okCons (beq_t (by rw [ea, eb, d2])) (okCons (beq_t (by rw [ea, eb, d1])) (okCons (beq_t (by rw [ea, f])) (okCons (beq_t (by rw [ea, bXor_ng (mu_U _ _ _)]; exact n2)) (okCons (beq_f n1) (okCons (decide_eq_true ⟨by rw [ea]; exact na, by rw [eb]; exact nb⟩) (okCons (decide_eq_true ⟨by rw [ea]; exact na, hb⟩) (okCons (beq_t h4) (okCons (beq_f h3) (okL1 (decide_eq_true ⟨ha, hb⟩))))))))))) hv (by rfl) w
    · have e : swM m = m := by unfold swM; rw [if_neg h3, if_neg h4]
      rw [e] at f h
      rcases h with ⟨n1, n2⟩ | ⟨n1, n2⟩
      · exact fits_calls (tabY_ok conS6_ok) (ps_n0 a b m) (okCons (beq_t (by rw [ea, eb, d2])) (okCons (beq_t (by rw [ea, eb, d1])) (okCons (beq_t (by rw [ea, f])) (okCons (beq_t (by rw [ea, n2, n1])) (okCons (beq_t n1) (okCons (decide_eq_true ⟨by rw [ea]; exact na, by rw [eb]; exact nb⟩) (okCons (decide_eq_true ⟨by rw [ea]; exact na, hb⟩) (okCons (beq_f h4) (okCons (beq_f h3) (okL1 (decide_eq_true ⟨ha, hb⟩))))))))))) hv (by rfl) w
      · exact fits_calls (tabY_ok conS6_ok) (ps_s0 a b m) (okCons (beq_t (by rw [ea, eb, d2])) (okCons (beq_t (by rw [ea, eb, d1])) (okCons (beq_t (by rw [ea, f])) (okCons (beq_t (by rw [ea, bXor_ng (mu_U _ _ _)]; exact n2)) (okCons (beq_f n1) (okCons (decide_eq_true ⟨by rw [ea]; exact na, by rw [eb]; exact nb⟩) (okCons (decide_eq_true ⟨by rw [ea]; exact na, hb⟩) (okCons (beq_f h4) (okCons (beq_f h3) (okL1 (decide_eq_true ⟨ha, hb⟩))))))))))) hv (by rfl) w
theorem own : ownKnob Try.prog.godebug = none := by kernel_rfl
set_option maxRecDepth 100000 in
theorem lifted (os : Os) (started : os.Started) (H : Type) (enc : TypeId × Value → H) :
    ReturnsInHanded {} Try.checked os 7 .any (Rows.prodSignsSpec.pre6 enc Try.prog Try.f7 Rows.prodSignsRow.domain false) (Rows.prodSignsSpec.post enc Try.prog Try.f7 false true false false) := by
  refine returnsInHanded_of_change (C := Try.checked) own started (by kernel_rfl) Try.func7
    (ChangeSpec.witness6 (enc := enc) (C := Try.checked) false ⟨#[], #[.int .u64 0, .int .u64 0, .int .i64 0], []⟩ 8 (by kernel_rfl) (by kernel_rfl) (by kernel_rfl) (by kernel_rfl)) ?_
  intro W base args ds gs before hval0 hW hcnd _
  have hval : ∀ (j : Nat) t v, Try.f7.params[j]? = some t → args[j]? = some v → Value.okWide Try.prog W .any base t v := hval0
  have hW' := hW
  obtain ⟨p, q, hA0, hV, rfl, hfz, hnd⟩ := hW
  have hA : DataW.TrodAll enc Try.prog W 0 (fun _ => true) true Try.f7.params.toList args.toList ds p := hA0
  rw [Try.params7] at hA hval
  obtain ⟨v0, v1, v2, d0, d1, d2, p0, p1, p2, rfl, rfl, rfl, h0, h1, h2⟩ := trodAll_three hA
  obtain ⟨rfl, rfl⟩ := trodVars_none hV
  obtain ⟨x0, rfl, rfl, rfl, w0⟩ := open_int Try.underlying22 (hval 0 22 v0 rfl rfl) h0
  obtain ⟨x1, rfl, rfl, rfl, w1⟩ := open_int Try.underlying22 (hval 1 22 v1 rfl rfl) h1
  obtain ⟨x2, rfl, rfl, rfl, w2⟩ := open_int Try.underlying3 (hval 2 3 v2 rfl rfl) h2
  clear hA0 hval0
  simp only [List.append_nil] at hW'
  refine (walk x0 x1 x2 (u64_bounds w0) (u64_bounds w1) W).mono fun e W' ⟨he, hg⟩ => ?_
  subst he
  exact ⟨_, rfl, post_of_same (pa := []) (pv := []) hW' (fun _ _ _ => trodAll_mk1 (shut_bool Try.underlying4 _))
    (fun sp _ => trodAll_mk3 (shut_int Try.underlying22 w0) (shut_int Try.underlying22 w1) (shut_int Try.underlying3 w2)) (fun _ _ => rfl) rfl
    (hg.1.frame _) (tidy_frozen hg) (ok_one (by kernel_rfl) rfl (okWide_bool_mk Try.underlying4 _))⟩

theorem proved : Rows.ProdSignsSaid :=
  OpenClaim.holds_of_wide 7 Try.f7 rfl rfl rfl rfl rfl rfl rfl ⟨rfl, rfl, rfl, rfl, rfl⟩ rfl rfl rfl rfl rfl (by kernel_rfl) Try.func7 (by kernel_rfl)
    (of_decide_eq_true (by kernel_rfl)) (by unfold Func.isWrapper; first | (rw [if_pos (by decide +kernel)]; kernel_rfl) | (rw [if_neg (by decide +kernel)]; exact ⟨rfl, rfl⟩))
    (fun os started H enc _ => lifted os started H enc)
end Go.Proofs.Ytecaahiajbkioaa.prodSigns
