/-
  PROVED HERE: for every input the law tillerlaw05.SumsBack returns true, and each argument reads afterwards as it read before: sums are the same both ways round; what is added to 0 stays; a number less itself is 0; what is no number stays none. No condition.
-/
import Derived.Test.YtgmfnecdpfdncaaSuS
import Derived.Test.YtgmfnecdpfdncaaSuM
import Derived.Test.YtgmfnecdpfdncaaFlat
import Derived.Test.YtgmfnecdpfdncaaRows
namespace Go.Proofs.Ytgmfnecdpfdncaa.sumsBack
open Go.KRun Go.Pt Go.ChangeShapes Go.WideShapes Go.ChangeAt Go.RowKit Go.Wd Go.Rn
set_option linter.unusedVariables false

theorem bk_nan (a b m : Int) : Fits (reckon (tabOf Try.prog extY conS5 true) 300 5 [.int .u64 a, .int .u64 b, .int .i64 m] [cmp false, cmp false, cmp true, cmp true]) (.bool true) [(suP m a b == 9221120237041090560, true), (decide ((bNot a 9223372036854775808) > 9218868437227405312), true), (suF m a b != suF m b a, false), (suP m a b != suP m b a, false), (decide (U b ∧ U a), true), (decide (U a ∧ U b), true)] := ⟨by kernel_rfl, by kernel_rfl, by kernel_rfl, by kernel_rfl⟩
theorem bk_inf (a b m : Int) : Fits (reckon (tabOf Try.prog extY conS5 true) 300 5 [.int .u64 a, .int .u64 b, .int .i64 m] [cmp false, cmp false, cmp false, cmp true, cmp false, cmp false, cmp true, cmp true, cmp true]) (.bool true) [(suF m a (bXor a 9223372036854775808) == 1, true), (suP m a (bXor a 9223372036854775808) == 9221120237041090560, true), ((bNot a 9223372036854775808) == 9218868437227405312, true), (decide (U a ∧ U (bXor a 9223372036854775808)), true), (suF m a 0 != 0, false), (suP m a 0 != a, false), ((bNot a 9223372036854775808) != 0, true), (decide (U a ∧ U 0), true), (decide ((bNot a 9223372036854775808) > 9218868437227405312), false), (suF m a b != suF m b a, false), (suP m a b != suP m b a, false), (decide (U b ∧ U a), true), (decide (U a ∧ U b), true)] := ⟨by kernel_rfl, by kernel_rfl, by kernel_rfl, by kernel_rfl⟩
theorem bk_fT (a b m : Int) : Fits (reckon (tabOf Try.prog extY conS5 true) 300 5 [.int .u64 a, .int .u64 b, .int .i64 m] [cmp false, cmp false, cmp false, cmp true, cmp false, cmp false, cmp false, cmp true, cmp true, cmp true]) (.bool true) [(suF m a (bXor a 9223372036854775808) == 0, true), (suP m a (bXor a 9223372036854775808) == 9223372036854775808, true), (m == 4, true), ((bNot a 9223372036854775808) == 9218868437227405312, false), (decide (U a ∧ U (bXor a 9223372036854775808)), true), (suF m a 0 != 0, false), (suP m a 0 != a, false), ((bNot a 9223372036854775808) != 0, true), (decide (U a ∧ U 0), true), (decide ((bNot a 9223372036854775808) > 9218868437227405312), false), (suF m a b != suF m b a, false), (suP m a b != suP m b a, false), (decide (U b ∧ U a), true), (decide (U a ∧ U b), true)] := ⟨by kernel_rfl, by kernel_rfl, by kernel_rfl, by kernel_rfl⟩
theorem bk_zT (a b m : Int) : Fits (reckon (tabOf Try.prog extY conS5 true) 300 5 [.int .u64 a, .int .u64 b, .int .i64 m] [cmp false, cmp false, cmp false, cmp false, cmp false, cmp true, cmp true, cmp true]) (.bool true) [(suF m a (bXor a 9223372036854775808) == 0, true), (suP m a (bXor a 9223372036854775808) == 9223372036854775808, true), (m == 4, true), ((bNot a 9223372036854775808) == 9218868437227405312, false), (decide (U a ∧ U (bXor a 9223372036854775808)), true), ((bNot a 9223372036854775808) != 0, false), (decide (U a ∧ U 0), true), (decide ((bNot a 9223372036854775808) > 9218868437227405312), false), (suF m a b != suF m b a, false), (suP m a b != suP m b a, false), (decide (U b ∧ U a), true), (decide (U a ∧ U b), true)] := ⟨by kernel_rfl, by kernel_rfl, by kernel_rfl, by kernel_rfl⟩
theorem bk_fF (a b m : Int) : Fits (reckon (tabOf Try.prog extY conS5 true) 300 5 [.int .u64 a, .int .u64 b, .int .i64 m] [cmp false, cmp false, cmp false, cmp true, cmp false, cmp false, cmp false, cmp false, cmp true, cmp true]) (.bool true) [(suF m a (bXor a 9223372036854775808) == 0, true), (suP m a (bXor a 9223372036854775808) == 0, true), (m == 4, false), ((bNot a 9223372036854775808) == 9218868437227405312, false), (decide (U a ∧ U (bXor a 9223372036854775808)), true), (suF m a 0 != 0, false), (suP m a 0 != a, false), ((bNot a 9223372036854775808) != 0, true), (decide (U a ∧ U 0), true), (decide ((bNot a 9223372036854775808) > 9218868437227405312), false), (suF m a b != suF m b a, false), (suP m a b != suP m b a, false), (decide (U b ∧ U a), true), (decide (U a ∧ U b), true)] := ⟨by kernel_rfl, by kernel_rfl, by kernel_rfl, by kernel_rfl⟩
theorem bk_zF (a b m : Int) : Fits (reckon (tabOf Try.prog extY conS5 true) 300 5 [.int .u64 a, .int .u64 b, .int .i64 m] [cmp false, cmp false, cmp false, cmp false, cmp false, cmp false, cmp true, cmp true]) (.bool true) [(suF m a (bXor a 9223372036854775808) == 0, true), (suP m a (bXor a 9223372036854775808) == 0, true), (m == 4, false), ((bNot a 9223372036854775808) == 9218868437227405312, false), (decide (U a ∧ U (bXor a 9223372036854775808)), true), ((bNot a 9223372036854775808) != 0, false), (decide (U a ∧ U 0), true), (decide ((bNot a 9223372036854775808) > 9218868437227405312), false), (suF m a b != suF m b a, false), (suP m a b != suP m b a, false), (decide (U b ∧ U a), true), (decide (U a ∧ U b), true)] := ⟨by kernel_rfl, by kernel_rfl, by kernel_rfl, by kernel_rfl⟩

theorem walk (a b m : Int) (ha : U a) (hb : U b) (w : World) : Calls Try.prog 5 #[.int .u64 a, .int .u64 b, .int .i64 m] w fun e w' => e = .returned (.bool true) ∧ Tidy w w' := by
  have hv : ([.int .u64 a, .int .u64 b, .int .i64 m].all (lt 0)) = true := rfl
  obtain ⟨q1, q2⟩ := su_comm m a b
  have k1 : decide (U a ∧ U b) = true := decide_eq_true ⟨ha, hb⟩
  have k2 : decide (U b ∧ U a) = true := decide_eq_true ⟨hb, ha⟩
  have k3 : decide (U a ∧ U 0) = true := decide_eq_true ⟨ha, by decide⟩
  have k4 : decide (U a ∧ U (bXor a 9223372036854775808)) = true := decide_eq_true ⟨ha, by rw [bXor_ng ha]; exact (ng_parts ha).1⟩
  obtain ⟨c1, c2, c3⟩ := mag_cl a
  have l0 : okLog [(suF m a b != suF m b a, false), (suP m a b != suP m b a, false), (decide (U b ∧ U a), true), (decide (U a ∧ U b), true)] := okCons (bne_f q2) (okCons (bne_f q1) (okCons k2 (okL1 k1)))
  by_cases hn : 3 < cl a
  · exact fits_calls (tabY_ok conS5_ok) (bk_nan a b m) (okCons (beq_t (suP_nan (.inl hn))) (okCons (by rw [bNot_mag ha]; exact decide_eq_true (c1.1 hn)) l0)) hv (by rfl) w
  · have g1 : decide (bNot a 9223372036854775808 > 9218868437227405312) = false := by rw [bNot_mag ha]; exact decide_eq_false (fun h => hn (c1.2 h))
    by_cases hi : cl a = 3
    · have hm := c2.1 hi
      obtain ⟨z1, z2⟩ := su_zero (m := m) ha (by omega) (by omega)
      obtain ⟨i1, i2⟩ := suP_infi (m := m) (a := a) (b := ng a) hi (by rw [(ng_num ha).2.2.1]; exact hi) (ng_ne ha)
      rw [← bXor_ng ha] at i1 i2
      exact fits_calls (tabY_ok conS5_ok) (bk_inf a b m) (okCons (beq_t i2) (okCons (beq_t i1) (okCons (beq_t (by rw [bNot_mag ha]; exact hm)) (okCons k4 (okCons (bne_f z2) (okCons (bne_f z1) (okCons (bne_t (by rw [bNot_mag ha]; omega)) (okCons k3 (okCons g1 l0))))))))) hv (by rfl) w
    · have g2 : (bNot a 9223372036854775808 == 9218868437227405312) = false := beq_f (by rw [bNot_mag ha]; exact fun h => hi (c2.2 h))
      obtain ⟨i1, i2⟩ := su_self (m := m) ha (by omega)
      rw [← bXor_ng ha] at i1 i2
      by_cases h0 : mag a = 0
      · have g3 : (bNot a 9223372036854775808 != 0) = false := bne_f (by rw [bNot_mag ha]; exact h0)
        by_cases hm : m = 4
        · rw [if_pos hm] at i1
          exact fits_calls (tabY_ok conS5_ok) (bk_zT a b m) (okCons (beq_t i2) (okCons (beq_t i1) (okCons (beq_t hm) (okCons g2 (okCons k4 (okCons g3 (okCons k3 (okCons g1 l0)))))))) hv (by rfl) w
        · rw [if_neg hm] at i1
          exact fits_calls (tabY_ok conS5_ok) (bk_zF a b m) (okCons (beq_t i2) (okCons (beq_t i1) (okCons (beq_f hm) (okCons g2 (okCons k4 (okCons g3 (okCons k3 (okCons g1 l0)))))))) hv (by rfl) w
      · obtain ⟨z1, z2⟩ := su_zero (m := m) ha (by omega) h0
        have g3 : (bNot a 9223372036854775808 != 0) = true := bne_t (by rw [bNot_mag ha]; exact h0)
        by_cases hm : m = 4
        · rw [if_pos hm] at i1
          exact fits_calls (tabY_ok conS5_ok) (bk_fT a b m) (okCons (beq_t i2) (okCons (beq_t i1) (okCons (beq_t hm) (okCons g2 (okCons k4 (okCons (bne_f z2) (okCons (bne_f z1) (okCons g3 (okCons k3 (okCons g1 l0)))))))))) hv (by rfl) w
        · rw [if_neg hm] at i1
          exact fits_calls (tabY_ok conS5_ok) (bk_fF a b m) (okCons (beq_t i2) (okCons (beq_t i1) (okCons (beq_f hm) (okCons g2 (okCons k4 (okCons (bne_f z2) (okCons (bne_f z1) (okCons g3 (okCons k3 (okCons g1 l0)))))))))) hv (by rfl) w
theorem own : ownKnob Try.prog.godebug = none := by kernel_rfl
set_option maxRecDepth 100000 in
theorem lifted (os : Os) (started : os.Started) (H : Type) (enc : TypeId × Value → H) :
    ReturnsInHanded {} Try.checked os 5 .any (Rows.sumsBackSpec.pre6 enc Try.prog Try.f5 Rows.sumsBackRow.domain false) (Rows.sumsBackSpec.post enc Try.prog Try.f5 false true false false) := by
  refine returnsInHanded_of_change (C := Try.checked) own started (by kernel_rfl) Try.func5
    (ChangeSpec.witness6 (enc := enc) (C := Try.checked) false ⟨#[], #[.int .u64 0, .int .u64 0, .int .i64 0], []⟩ 8 (by kernel_rfl) (by kernel_rfl) (by kernel_rfl) (by kernel_rfl)) ?_
  intro W base args ds gs before hval0 hW hcnd _
  have hval : ∀ (j : Nat) t v, Try.f5.params[j]? = some t → args[j]? = some v → Value.okWide Try.prog W .any base t v := hval0
  have hW' := hW
  obtain ⟨p, q, hA0, hV, rfl, hfz, hnd⟩ := hW
  have hA : DataW.TrodAll enc Try.prog W 0 (fun _ => true) true Try.f5.params.toList args.toList ds p := hA0
  rw [Try.params5] at hA hval
  obtain ⟨v0, v1, v2, d0, d1, d2, p0, p1, p2, rfl, rfl, rfl, h0, h1, h2⟩ := trodAll_three hA
  obtain ⟨rfl, rfl⟩ := trodVars_none hV
  obtain ⟨x0, rfl, rfl, rfl, w0⟩ := open_int Try.underlying22 (hval 0 22 v0 rfl rfl) h0
  obtain ⟨x1, rfl, rfl, rfl, w1⟩ := open_int Try.underlying22 (hval 1 22 v1 rfl rfl) h1
  obtain ⟨x2, rfl, rfl, rfl, w2⟩ := open_int Try.underlying3 (hval 2 3 v2 rfl rfl) h2
  clear hA0 hval0
  simp only [List.append_nil] at hW'
  refine (walk x0 x1 x2 (u64_bounds w0) (u64_bounds w1) W).mono fun e W' ⟨he, hg⟩ => ?_
  subst he
  exact ⟨_, rfl, post_of_same (pa := []) (pv := []) hW' (fun _ _ _ => trodAll_mk1 (shut_bool Try.underlying4 _))
    (fun sp _ => trodAll_mk3 (shut_int Try.underlying22 w0) (shut_int Try.underlying22 w1) (shut_int Try.underlying3 w2)) (fun _ _ => rfl) rfl
    (hg.1.frame _) (tidy_frozen hg) (ok_one (by kernel_rfl) rfl (okWide_bool_mk Try.underlying4 _))⟩

theorem proved : Rows.SumsBackSaid :=
  OpenClaim.holds_of_wide 5 Try.f5 rfl rfl rfl rfl rfl rfl rfl ⟨rfl, rfl, rfl, rfl, rfl⟩ rfl rfl rfl rfl rfl (by kernel_rfl) Try.func5 (by kernel_rfl)
    (of_decide_eq_true (by kernel_rfl)) (by unfold Func.isWrapper; first | (rw [if_pos (by decide +kernel)]; kernel_rfl) | (rw [if_neg (by decide +kernel)]; exact ⟨rfl, rfl⟩))
    (fun os started H enc _ => lifted os started H enc)
end Go.Proofs.Ytgmfnecdpfdncaa.sumsBack
