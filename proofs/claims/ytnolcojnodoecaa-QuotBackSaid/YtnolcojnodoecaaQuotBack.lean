/-
  PROVED HERE: for every input the law tillerlaw07.QuotBack returns true, and each argument reads afterwards as it read before: what is divided by 1 stays; a number that is not 0 by itself is 1; what is divided by the other sign of a number has the other sign, by the modes that ask for no side. No condition.
-/
import Derived.Test.YtnolcojnodoecaaG37
import Derived.Test.YtnolcojnodoecaaG38
import Derived.Test.YtnolcojnodoecaaRows
namespace Go.Proofs.Ytnolcojnodoecaa.quotBack
open Go.KRun Go.Pt Go.ChangeShapes Go.WideShapes Go.ChangeAt Go.RowKit Go.Wd Go.Rn
set_option linter.unusedVariables false

theorem qb_nan (a b m : Int) : Fits (reckon (tabOf Try.prog extY conL7 true) 300 5 [.int .u64 a, .int .u64 b, .int .i64 m] [cmp true, cmp true]) (.bool true) [(quP m a 4607182418800017408 == 9221120237041090560, true), (decide ((bNot a 9223372036854775808) > 9218868437227405312), true), (decide (U a ∧ U 4607182418800017408), true)] := ⟨by kernel_rfl, by kernel_rfl, by kernel_rfl, by kernel_rfl⟩
theorem qb_p3 (a b m : Int) : Fits (reckon (tabOf Try.prog extY conL7 true) 300 5 [.int .u64 a, .int .u64 b, .int .i64 m] [cmp false, cmp true, cmp true, cmp false, cmp false, cmp false, cmp false, cmp true]) (.bool true) [(m == 3, true), (quF m a a != 0, false), (quP m a a != 4607182418800017408, false), (quF m a 4607182418800017408 != 0, false), (quP m a 4607182418800017408 != a, false), ((bNot a 9223372036854775808) != 9218868437227405312, true), ((bNot a 9223372036854775808) != 0, true), (decide (U a ∧ U a), true), (decide ((bNot a 9223372036854775808) > 9218868437227405312), false), (decide (U a ∧ U 4607182418800017408), true)] := ⟨by kernel_rfl, by kernel_rfl, by kernel_rfl, by kernel_rfl⟩
theorem qb_p4 (a b m : Int) : Fits (reckon (tabOf Try.prog extY conL7 true) 300 5 [.int .u64 a, .int .u64 b, .int .i64 m] [cmp false, cmp true, cmp true, cmp false, cmp false, cmp false, cmp false, cmp false, cmp true]) (.bool true) [(m == 4, true), (m == 3, false), (quF m a a != 0, false), (quP m a a != 4607182418800017408, false), (quF m a 4607182418800017408 != 0, false), (quP m a 4607182418800017408 != a, false), ((bNot a 9223372036854775808) != 9218868437227405312, true), ((bNot a 9223372036854775808) != 0, true), (decide (U a ∧ U a), true), (decide ((bNot a 9223372036854775808) > 9218868437227405312), false), (decide (U a ∧ U 4607182418800017408), true)] := ⟨by kernel_rfl, by kernel_rfl, by kernel_rfl, by kernel_rfl⟩
theorem qb_pb (a b m : Int) : Fits (reckon (tabOf Try.prog extY conL7 true) 300 5 [.int .u64 a, .int .u64 b, .int .i64 m] [cmp false, cmp true, cmp true, cmp false, cmp false, cmp false, cmp false, cmp false, cmp false, cmp true]) (.bool true) [(decide ((bNot b 9223372036854775808) > 9218868437227405312), true), (m == 4, false), (m == 3, false), (quF m a a != 0, false), (quP m a a != 4607182418800017408, false), (quF m a 4607182418800017408 != 0, false), (quP m a 4607182418800017408 != a, false), ((bNot a 9223372036854775808) != 9218868437227405312, true), ((bNot a 9223372036854775808) != 0, true), (decide (U a ∧ U a), true), (decide ((bNot a 9223372036854775808) > 9218868437227405312), false), (decide (U a ∧ U 4607182418800017408), true)] := ⟨by kernel_rfl, by kernel_rfl, by kernel_rfl, by kernel_rfl⟩
theorem qb_pn (a b m : Int) : Fits (reckon (tabOf Try.prog extY conL7 true) 300 5 [.int .u64 a, .int .u64 b, .int .i64 m] [cmp false, cmp true, cmp true, cmp false, cmp false, cmp false, cmp false, cmp false, cmp false, cmp false, cmp true, cmp true, cmp true]) (.bool true) [(quF m a b == quF m a (bXor b 9223372036854775808), true), (quP m a (bXor b 9223372036854775808) == quP m a b, true), (quP m a b == 9221120237041090560, true), (decide (U a ∧ U (bXor b 9223372036854775808)), true), (decide (U a ∧ U b), true), (decide ((bNot b 9223372036854775808) > 9218868437227405312), false), (m == 4, false), (m == 3, false), (quF m a a != 0, false), (quP m a a != 4607182418800017408, false), (quF m a 4607182418800017408 != 0, false), (quP m a 4607182418800017408 != a, false), ((bNot a 9223372036854775808) != 9218868437227405312, true), ((bNot a 9223372036854775808) != 0, true), (decide (U a ∧ U a), true), (decide ((bNot a 9223372036854775808) > 9218868437227405312), false), (decide (U a ∧ U 4607182418800017408), true)] := ⟨by kernel_rfl, by kernel_rfl, by kernel_rfl, by kernel_rfl⟩
theorem qb_ps (a b m : Int) : Fits (reckon (tabOf Try.prog extY conL7 true) 300 5 [.int .u64 a, .int .u64 b, .int .i64 m] [cmp false, cmp true, cmp true, cmp false, cmp false, cmp false, cmp false, cmp false, cmp false, cmp false, cmp false, cmp true, cmp true]) (.bool true) [(quF m a b == quF m a (bXor b 9223372036854775808), true), ((bXor (quP m a b) 9223372036854775808) == quP m a (bXor b 9223372036854775808), true), (quP m a b == 9221120237041090560, false), (decide (U a ∧ U (bXor b 9223372036854775808)), true), (decide (U a ∧ U b), true), (decide ((bNot b 9223372036854775808) > 9218868437227405312), false), (m == 4, false), (m == 3, false), (quF m a a != 0, false), (quP m a a != 4607182418800017408, false), (quF m a 4607182418800017408 != 0, false), (quP m a 4607182418800017408 != a, false), ((bNot a 9223372036854775808) != 9218868437227405312, true), ((bNot a 9223372036854775808) != 0, true), (decide (U a ∧ U a), true), (decide ((bNot a 9223372036854775808) > 9218868437227405312), false), (decide (U a ∧ U 4607182418800017408), true)] := ⟨by kernel_rfl, by kernel_rfl, by kernel_rfl, by kernel_rfl⟩
theorem qb_z3 (a b m : Int) : Fits (reckon (tabOf Try.prog extY conL7 true) 300 5 [.int .u64 a, .int .u64 b, .int .i64 m] [cmp false, cmp false, cmp false, cmp false, cmp false, cmp false, cmp true]) (.bool true) [(m == 3, true), (quF m a a != 1, false), (quP m a a != 9221120237041090560, false), (quF m a 4607182418800017408 != 0, false), (quP m a 4607182418800017408 != a, false), ((bNot a 9223372036854775808) != 0, false), (decide (U a ∧ U a), true), (decide ((bNot a 9223372036854775808) > 9218868437227405312), false), (decide (U a ∧ U 4607182418800017408), true)] := ⟨by kernel_rfl, by kernel_rfl, by kernel_rfl, by kernel_rfl⟩
theorem qb_z4 (a b m : Int) : Fits (reckon (tabOf Try.prog extY conL7 true) 300 5 [.int .u64 a, .int .u64 b, .int .i64 m] [cmp false, cmp false, cmp false, cmp false, cmp false, cmp false, cmp false, cmp true]) (.bool true) [(m == 4, true), (m == 3, false), (quF m a a != 1, false), (quP m a a != 9221120237041090560, false), (quF m a 4607182418800017408 != 0, false), (quP m a 4607182418800017408 != a, false), ((bNot a 9223372036854775808) != 0, false), (decide (U a ∧ U a), true), (decide ((bNot a 9223372036854775808) > 9218868437227405312), false), (decide (U a ∧ U 4607182418800017408), true)] := ⟨by kernel_rfl, by kernel_rfl, by kernel_rfl, by kernel_rfl⟩
theorem qb_zb (a b m : Int) : Fits (reckon (tabOf Try.prog extY conL7 true) 300 5 [.int .u64 a, .int .u64 b, .int .i64 m] [cmp false, cmp false, cmp false, cmp false, cmp false, cmp false, cmp false, cmp false, cmp true]) (.bool true) [(decide ((bNot b 9223372036854775808) > 9218868437227405312), true), (m == 4, false), (m == 3, false), (quF m a a != 1, false), (quP m a a != 9221120237041090560, false), (quF m a 4607182418800017408 != 0, false), (quP m a 4607182418800017408 != a, false), ((bNot a 9223372036854775808) != 0, false), (decide (U a ∧ U a), true), (decide ((bNot a 9223372036854775808) > 9218868437227405312), false), (decide (U a ∧ U 4607182418800017408), true)] := ⟨by kernel_rfl, by kernel_rfl, by kernel_rfl, by kernel_rfl⟩
theorem qb_zn (a b m : Int) : Fits (reckon (tabOf Try.prog extY conL7 true) 300 5 [.int .u64 a, .int .u64 b, .int .i64 m] [cmp false, cmp false, cmp false, cmp false, cmp false, cmp false, cmp false, cmp false, cmp false, cmp true, cmp true, cmp true]) (.bool true) [(quF m a b == quF m a (bXor b 9223372036854775808), true), (quP m a (bXor b 9223372036854775808) == quP m a b, true), (quP m a b == 9221120237041090560, true), (decide (U a ∧ U (bXor b 9223372036854775808)), true), (decide (U a ∧ U b), true), (decide ((bNot b 9223372036854775808) > 9218868437227405312), false), (m == 4, false), (m == 3, false), (quF m a a != 1, false), (quP m a a != 9221120237041090560, false), (quF m a 4607182418800017408 != 0, false), (quP m a 4607182418800017408 != a, false), ((bNot a 9223372036854775808) != 0, false), (decide (U a ∧ U a), true), (decide ((bNot a 9223372036854775808) > 9218868437227405312), false), (decide (U a ∧ U 4607182418800017408), true)] := ⟨by kernel_rfl, by kernel_rfl, by kernel_rfl, by kernel_rfl⟩
theorem qb_zs (a b m : Int) : Fits (reckon (tabOf Try.prog extY conL7 true) 300 5 [.int .u64 a, .int .u64 b, .int .i64 m] [cmp false, cmp false, cmp false, cmp false, cmp false, cmp false, cmp false, cmp false, cmp false, cmp false, cmp true, cmp true]) (.bool true) [(quF m a b == quF m a (bXor b 9223372036854775808), true), ((bXor (quP m a b) 9223372036854775808) == quP m a (bXor b 9223372036854775808), true), (quP m a b == 9221120237041090560, false), (decide (U a ∧ U (bXor b 9223372036854775808)), true), (decide (U a ∧ U b), true), (decide ((bNot b 9223372036854775808) > 9218868437227405312), false), (m == 4, false), (m == 3, false), (quF m a a != 1, false), (quP m a a != 9221120237041090560, false), (quF m a 4607182418800017408 != 0, false), (quP m a 4607182418800017408 != a, false), ((bNot a 9223372036854775808) != 0, false), (decide (U a ∧ U a), true), (decide ((bNot a 9223372036854775808) > 9218868437227405312), false), (decide (U a ∧ U 4607182418800017408), true)] := ⟨by kernel_rfl, by kernel_rfl, by kernel_rfl, by kernel_rfl⟩
theorem qb_i3 (a b m : Int) : Fits (reckon (tabOf Try.prog extY conL7 true) 300 5 [.int .u64 a, .int .u64 b, .int .i64 m] [cmp false, cmp true, cmp false, cmp false, cmp false, cmp false, cmp false, cmp true]) (.bool true) [(m == 3, true), (quF m a a != 1, false), (quP m a a != 9221120237041090560, false), (quF m a 4607182418800017408 != 0, false), (quP m a 4607182418800017408 != a, false), ((bNot a 9223372036854775808) != 9218868437227405312, false), ((bNot a 9223372036854775808) != 0, true), (decide (U a ∧ U a), true), (decide ((bNot a 9223372036854775808) > 9218868437227405312), false), (decide (U a ∧ U 4607182418800017408), true)] := ⟨by kernel_rfl, by kernel_rfl, by kernel_rfl, by kernel_rfl⟩
theorem qb_i4 (a b m : Int) : Fits (reckon (tabOf Try.prog extY conL7 true) 300 5 [.int .u64 a, .int .u64 b, .int .i64 m] [cmp false, cmp true, cmp false, cmp false, cmp false, cmp false, cmp false, cmp false, cmp true]) (.bool true) [(m == 4, true), (m == 3, false), (quF m a a != 1, false), (quP m a a != 9221120237041090560, false), (quF m a 4607182418800017408 != 0, false), (quP m a 4607182418800017408 != a, false), ((bNot a 9223372036854775808) != 9218868437227405312, false), ((bNot a 9223372036854775808) != 0, true), (decide (U a ∧ U a), true), (decide ((bNot a 9223372036854775808) > 9218868437227405312), false), (decide (U a ∧ U 4607182418800017408), true)] := ⟨by kernel_rfl, by kernel_rfl, by kernel_rfl, by kernel_rfl⟩
theorem qb_ib (a b m : Int) : Fits (reckon (tabOf Try.prog extY conL7 true) 300 5 [.int .u64 a, .int .u64 b, .int .i64 m] [cmp false, cmp true, cmp false, cmp false, cmp false, cmp false, cmp false, cmp false, cmp false, cmp true]) (.bool true) [(decide ((bNot b 9223372036854775808) > 9218868437227405312), true), (m == 4, false), (m == 3, false), (quF m a a != 1, false), (quP m a a != 9221120237041090560, false), (quF m a 4607182418800017408 != 0, false), (quP m a 4607182418800017408 != a, false), ((bNot a 9223372036854775808) != 9218868437227405312, false), ((bNot a 9223372036854775808) != 0, true), (decide (U a ∧ U a), true), (decide ((bNot a 9223372036854775808) > 9218868437227405312), false), (decide (U a ∧ U 4607182418800017408), true)] := ⟨by kernel_rfl, by kernel_rfl, by kernel_rfl, by kernel_rfl⟩
theorem qb_in (a b m : Int) : Fits (reckon (tabOf Try.prog extY conL7 true) 300 5 [.int .u64 a, .int .u64 b, .int .i64 m] [cmp false, cmp true, cmp false, cmp false, cmp false, cmp false, cmp false, cmp false, cmp false, cmp false, cmp true, cmp true, cmp true]) (.bool true) [(quF m a b == quF m a (bXor b 9223372036854775808), true), (quP m a (bXor b 9223372036854775808) == quP m a b, true), (quP m a b == 9221120237041090560, true), (decide (U a ∧ U (bXor b 9223372036854775808)), true), (decide (U a ∧ U b), true), (decide ((bNot b 9223372036854775808) > 9218868437227405312), false), (m == 4, false), (m == 3, false), (quF m a a != 1, false), (quP m a a != 9221120237041090560, false), (quF m a 4607182418800017408 != 0, false), (quP m a 4607182418800017408 != a, false), ((bNot a 9223372036854775808) != 9218868437227405312, false), ((bNot a 9223372036854775808) != 0, true), (decide (U a ∧ U a), true), (decide ((bNot a 9223372036854775808) > 9218868437227405312), false), (decide (U a ∧ U 4607182418800017408), true)] := ⟨by kernel_rfl, by kernel_rfl, by kernel_rfl, by kernel_rfl⟩
theorem qb_is (a b m : Int) : Fits (reckon (tabOf Try.prog extY conL7 true) 300 5 [.int .u64 a, .int .u64 b, .int .i64 m] [cmp false, cmp true, cmp false, cmp false, cmp false, cmp false, cmp false, cmp false, cmp false, cmp false, cmp false, cmp true, cmp true]) (.bool true) [(quF m a b == quF m a (bXor b 9223372036854775808), true), ((bXor (quP m a b) 9223372036854775808) == quP m a (bXor b 9223372036854775808), true), (quP m a b == 9221120237041090560, false), (decide (U a ∧ U (bXor b 9223372036854775808)), true), (decide (U a ∧ U b), true), (decide ((bNot b 9223372036854775808) > 9218868437227405312), false), (m == 4, false), (m == 3, false), (quF m a a != 1, false), (quP m a a != 9221120237041090560, false), (quF m a 4607182418800017408 != 0, false), (quP m a 4607182418800017408 != a, false), ((bNot a 9223372036854775808) != 9218868437227405312, false), ((bNot a 9223372036854775808) != 0, true), (decide (U a ∧ U a), true), (decide ((bNot a 9223372036854775808) > 9218868437227405312), false), (decide (U a ∧ U 4607182418800017408), true)] := ⟨by kernel_rfl, by kernel_rfl, by kernel_rfl, by kernel_rfl⟩

theorem mag_zero {p : Int} (h : cl p = 0) : mag p = 0 := by
  have e := mag_eq p
  unfold cl at h
  split at h
  · rename_i h3
    split at h
    · rename_i h4; omega
    · omega
  · split at h
    · split at h
      · omega
      · split at h <;> omega
    · omega
theorem cl_of_mag {p : Int} (h : mag p = 0) : cl p = 0 := by
  have e := mag_eq p
  have h1 := ex_lt p
  have h2 := fr_lt p
  have h3 : ex p = 0 ∧ fr p = 0 := by omega
  unfold cl
  rw [if_pos h3.1, if_pos h3.2]
theorem qu_U (m a b : Int) : U (quP m a b) := by
  have bd := dv_bd m a b
  have hi : ∀ n : Bool, U (sS n inf) ∧ U (sS n 0) := fun n => by cases n <;> exact ⟨by decide, by decide⟩
  unfold quP
  split
  · exact by decide
  split
  · exact by decide
  split
  · exact (hi _).1
  split
  · exact (hi _).2
  split
  · exact (hi _).1
  · exact (sS_mag bd.1 (Int.lt_of_le_of_lt bd.2 (by decide))).2.2.1
theorem walk (a b m : Int) (ha : U a) (hb : U b) (w : World) : Calls Try.prog 5 #[.int .u64 a, .int .u64 b, .int .i64 m] w fun e w' => e = .returned (.bool true) ∧ Tidy w w' := by
  have hv : ([.int .u64 a, .int .u64 b, .int .i64 m].all (lt 0)) = true := rfl
  have T := tabY_ok conL7_ok
  have ea := bNot_mag ha
  have ebm := bNot_mag hb
  have eb := bXor_ng hb
  have nb := (ng_parts hb).1
  obtain ⟨c1, c2, c3⟩ := mag_cl a
  obtain ⟨d1, _, _⟩ := mag_cl b
  have ba := cl_bd a
  by_cases hn : 3 < cl a
  · exact fits_calls T (qb_nan a b m) (okCons (beq_t (quP_nan (.inl hn)).1) (okCons (by rw [ea]; exact decide_eq_true (c1.1 hn)) (okL1 (decide_eq_true ⟨ha, by decide⟩)))) hv (by rfl) w
  obtain ⟨o1, o2⟩ := qu_one (m := m) ha (by omega)
  have ml := mag_lt (p := a)
  by_cases hz : cl a = 0
  · have hm0 : mag a = 0 := mag_zero hz
    obtain ⟨s1, s2⟩ := qu_self0 (m := m) (a := a) (.inl hz)
    by_cases h3 : m = 3
    · exact fits_calls T (qb_z3 a b m) (okCons (beq_t h3) (okCons (bne_f s2) (okCons (bne_f s1) (okCons (bne_f o2) (okCons (bne_f o1) (okCons (bne_f (by rw [ea]; omega)) (okCons (decide_eq_true ⟨ha, ha⟩) (okCons (by rw [ea]; exact decide_eq_false (fun h => hn (c1.2 h))) (okL1 (decide_eq_true ⟨ha, by decide⟩)))))))))) hv (by rfl) w
    by_cases h4 : m = 4
    · exact fits_calls T (qb_z4 a b m) (okCons (beq_t h4) (okCons (beq_f h3) (okCons (bne_f s2) (okCons (bne_f s1) (okCons (bne_f o2) (okCons (bne_f o1) (okCons (bne_f (by rw [ea]; omega)) (okCons (decide_eq_true ⟨ha, ha⟩) (okCons (by rw [ea]; exact decide_eq_false (fun h => hn (c1.2 h))) (okL1 (decide_eq_true ⟨ha, by decide⟩))))))))))) hv (by rfl) w
    by_cases bn : 3 < cl b
    · exact fits_calls T (qb_zb a b m) (okCons (by rw [ebm]; exact decide_eq_true (d1.1 bn)) (okCons (beq_f h4) (okCons (beq_f h3) (okCons (bne_f s2) (okCons (bne_f s1) (okCons (bne_f o2) (okCons (bne_f o1) (okCons (bne_f (by rw [ea]; omega)) (okCons (decide_eq_true ⟨ha, ha⟩) (okCons (by rw [ea]; exact decide_eq_false (fun h => hn (c1.2 h))) (okL1 (decide_eq_true ⟨ha, by decide⟩)))))))))))) hv (by rfl) w
    have hm : swM m = m := by unfold swM; rw [if_neg h3, if_neg h4]
    have hq : U (quP m a b) := qu_U m a b
    obtain ⟨nf, hh⟩ := qu_ng (m := m) (a := a) hb hm (by omega)
    rcases hh with ⟨n1, n2⟩ | ⟨n1, n2⟩
    · exact fits_calls T (qb_zn a b m) (okCons (beq_t (by rw [eb]; exact nf)) (okCons (beq_t (by rw [eb]; exact n2)) (okCons (beq_t n1) (okCons (decide_eq_true ⟨ha, by rw [eb]; exact nb⟩) (okCons (decide_eq_true ⟨ha, hb⟩) (okCons (by rw [ebm]; exact decide_eq_false (fun h => bn (d1.2 h))) (okCons (beq_f h4) (okCons (beq_f h3) (okCons (bne_f s2) (okCons (bne_f s1) (okCons (bne_f o2) (okCons (bne_f o1) (okCons (bne_f (by rw [ea]; omega)) (okCons (decide_eq_true ⟨ha, ha⟩) (okCons (by rw [ea]; exact decide_eq_false (fun h => hn (c1.2 h))) (okL1 (decide_eq_true ⟨ha, by decide⟩))))))))))))))))) hv (by rfl) w
    · exact fits_calls T (qb_zs a b m) (okCons (beq_t (by rw [eb]; exact nf)) (okCons (beq_t (by rw [bXor_ng hq, eb]; exact n2)) (okCons (beq_f n1) (okCons (decide_eq_true ⟨ha, by rw [eb]; exact nb⟩) (okCons (decide_eq_true ⟨ha, hb⟩) (okCons (by rw [ebm]; exact decide_eq_false (fun h => bn (d1.2 h))) (okCons (beq_f h4) (okCons (beq_f h3) (okCons (bne_f s2) (okCons (bne_f s1) (okCons (bne_f o2) (okCons (bne_f o1) (okCons (bne_f (by rw [ea]; omega)) (okCons (decide_eq_true ⟨ha, ha⟩) (okCons (by rw [ea]; exact decide_eq_false (fun h => hn (c1.2 h))) (okL1 (decide_eq_true ⟨ha, by decide⟩))))))))))))))))) hv (by rfl) w
  by_cases hi : cl a = 3
  · have hmi := c2.1 hi
    obtain ⟨s1, s2⟩ := qu_self0 (m := m) (a := a) (.inr hi)
    by_cases h3 : m = 3
    · exact fits_calls T (qb_i3 a b m) (okCons (beq_t h3) (okCons (bne_f s2) (okCons (bne_f s1) (okCons (bne_f o2) (okCons (bne_f o1) (okCons (bne_f (by rw [ea]; omega)) (okCons (bne_t (by rw [ea]; omega)) (okCons (decide_eq_true ⟨ha, ha⟩) (okCons (by rw [ea]; exact decide_eq_false (fun h => hn (c1.2 h))) (okL1 (decide_eq_true ⟨ha, by decide⟩))))))))))) hv (by rfl) w
    by_cases h4 : m = 4
    · exact fits_calls T (qb_i4 a b m) (okCons (beq_t h4) (okCons (beq_f h3) (okCons (bne_f s2) (okCons (bne_f s1) (okCons (bne_f o2) (okCons (bne_f o1) (okCons (bne_f (by rw [ea]; omega)) (okCons (bne_t (by rw [ea]; omega)) (okCons (decide_eq_true ⟨ha, ha⟩) (okCons (by rw [ea]; exact decide_eq_false (fun h => hn (c1.2 h))) (okL1 (decide_eq_true ⟨ha, by decide⟩)))))))))))) hv (by rfl) w
    by_cases bn : 3 < cl b
    · exact fits_calls T (qb_ib a b m) (okCons (by rw [ebm]; exact decide_eq_true (d1.1 bn)) (okCons (beq_f h4) (okCons (beq_f h3) (okCons (bne_f s2) (okCons (bne_f s1) (okCons (bne_f o2) (okCons (bne_f o1) (okCons (bne_f (by rw [ea]; omega)) (okCons (bne_t (by rw [ea]; omega)) (okCons (decide_eq_true ⟨ha, ha⟩) (okCons (by rw [ea]; exact decide_eq_false (fun h => hn (c1.2 h))) (okL1 (decide_eq_true ⟨ha, by decide⟩))))))))))))) hv (by rfl) w
    have hm : swM m = m := by unfold swM; rw [if_neg h3, if_neg h4]
    have hq : U (quP m a b) := qu_U m a b
    obtain ⟨nf, hh⟩ := qu_ng (m := m) (a := a) hb hm (by omega)
    rcases hh with ⟨n1, n2⟩ | ⟨n1, n2⟩
    · exact fits_calls T (qb_in a b m) (okCons (beq_t (by rw [eb]; exact nf)) (okCons (beq_t (by rw [eb]; exact n2)) (okCons (beq_t n1) (okCons (decide_eq_true ⟨ha, by rw [eb]; exact nb⟩) (okCons (decide_eq_true ⟨ha, hb⟩) (okCons (by rw [ebm]; exact decide_eq_false (fun h => bn (d1.2 h))) (okCons (beq_f h4) (okCons (beq_f h3) (okCons (bne_f s2) (okCons (bne_f s1) (okCons (bne_f o2) (okCons (bne_f o1) (okCons (bne_f (by rw [ea]; omega)) (okCons (bne_t (by rw [ea]; omega)) (okCons (decide_eq_true ⟨ha, ha⟩) (okCons (by rw [ea]; exact decide_eq_false (fun h => hn (c1.2 h))) (okL1 (decide_eq_true ⟨ha, by decide⟩)))))))))))))))))) hv (by rfl) w
    · exact fits_calls T (qb_is a b m) (okCons (beq_t (by rw [eb]; exact nf)) (okCons (beq_t (by rw [bXor_ng hq, eb]; exact n2)) (okCons (beq_f n1) (okCons (decide_eq_true ⟨ha, by rw [eb]; exact nb⟩) (okCons (decide_eq_true ⟨ha, hb⟩) (okCons (by rw [ebm]; exact decide_eq_false (fun h => bn (d1.2 h))) (okCons (beq_f h4) (okCons (beq_f h3) (okCons (bne_f s2) (okCons (bne_f s1) (okCons (bne_f o2) (okCons (bne_f o1) (okCons (bne_f (by rw [ea]; omega)) (okCons (bne_t (by rw [ea]; omega)) (okCons (decide_eq_true ⟨ha, ha⟩) (okCons (by rw [ea]; exact decide_eq_false (fun h => hn (c1.2 h))) (okL1 (decide_eq_true ⟨ha, by decide⟩)))))))))))))))))) hv (by rfl) w
  have hm0 : mag a ≠ 0 := fun h => hz (cl_of_mag h)
  have hmi : mag a ≠ 9218868437227405312 := fun h => hi (c2.2 h)
  obtain ⟨s1, s2⟩ := qu_self (m := m) (a := a) (by omega)
  by_cases h3 : m = 3
  · exact fits_calls T (qb_p3 a b m) (okCons (beq_t h3) (okCons (bne_f s2) (okCons (bne_f s1) (okCons (bne_f o2) (okCons (bne_f o1) (okCons (bne_t (by rw [ea]; omega)) (okCons (bne_t (by rw [ea]; omega)) (okCons (decide_eq_true ⟨ha, ha⟩) (okCons (by rw [ea]; exact decide_eq_false (fun h => hn (c1.2 h))) (okL1 (decide_eq_true ⟨ha, by decide⟩))))))))))) hv (by rfl) w
  by_cases h4 : m = 4
  · exact fits_calls T (qb_p4 a b m) (okCons (beq_t h4) (okCons (beq_f h3) (okCons (bne_f s2) (okCons (bne_f s1) (okCons (bne_f o2) (okCons (bne_f o1) (okCons (bne_t (by rw [ea]; omega)) (okCons (bne_t (by rw [ea]; omega)) (okCons (decide_eq_true ⟨ha, ha⟩) (okCons (by rw [ea]; exact decide_eq_false (fun h => hn (c1.2 h))) (okL1 (decide_eq_true ⟨ha, by decide⟩)))))))))))) hv (by rfl) w
  by_cases bn : 3 < cl b
  · exact fits_calls T (qb_pb a b m) (okCons (by rw [ebm]; exact decide_eq_true (d1.1 bn)) (okCons (beq_f h4) (okCons (beq_f h3) (okCons (bne_f s2) (okCons (bne_f s1) (okCons (bne_f o2) (okCons (bne_f o1) (okCons (bne_t (by rw [ea]; omega)) (okCons (bne_t (by rw [ea]; omega)) (okCons (decide_eq_true ⟨ha, ha⟩) (okCons (by rw [ea]; exact decide_eq_false (fun h => hn (c1.2 h))) (okL1 (decide_eq_true ⟨ha, by decide⟩))))))))))))) hv (by rfl) w
  have hm : swM m = m := by unfold swM; rw [if_neg h3, if_neg h4]
  have hq : U (quP m a b) := qu_U m a b
  obtain ⟨nf, hh⟩ := qu_ng (m := m) (a := a) hb hm (by omega)
  rcases hh with ⟨n1, n2⟩ | ⟨n1, n2⟩
  · exact fits_calls T (qb_pn a b m) (okCons (beq_t (by rw [eb]; exact nf)) (okCons (beq_t (by rw [eb]; exact n2)) (okCons (beq_t n1) (okCons (decide_eq_true ⟨ha, by rw [eb]; exact nb⟩) (okCons (decide_eq_true ⟨ha, hb⟩) (okCons (by rw [ebm]; exact decide_eq_false (fun h => bn (d1.2 h))) (okCons (beq_f h4) (okCons (beq_f h3) (okCons (bne_f s2) (okCons (bne_f s1) (okCons (bne_f o2) (okCons (bne_f o1) (okCons (bne_t (by rw [ea]; omega)) (okCons (bne_t (by rw [ea]; omega)) (okCons (decide_eq_true ⟨ha, ha⟩) (okCons (by rw [ea]; exact decide_eq_false (fun h => hn (c1.2 h))) (okL1 (decide_eq_true ⟨ha, by decide⟩)))))))))))))))))) hv (by rfl) w
  · exact fits_calls T (qb_ps a b m) (okCons (beq_t (by rw [eb]; exact nf)) (okCons (beq_t (by rw [bXor_ng hq, eb]; exact n2)) (okCons (beq_f n1) (okCons (decide_eq_true ⟨ha, by rw [eb]; exact nb⟩) (okCons (decide_eq_true ⟨ha, hb⟩) (okCons (by rw [ebm]; exact decide_eq_false (fun h => bn (d1.2 h))) (okCons (beq_f h4) (okCons (beq_f h3) (okCons (bne_f s2) (okCons (bne_f s1) (okCons (bne_f o2) (okCons (bne_f o1) (okCons (bne_t (by rw [ea]; omega)) (okCons (bne_t (by rw [ea]; omega)) (okCons (decide_eq_true ⟨ha, ha⟩) (okCons (by rw [ea]; exact decide_eq_false (fun h => hn (c1.2 h))) (okL1 (decide_eq_true ⟨ha, by decide⟩)))))))))))))))))) hv (by rfl) w
theorem own : ownKnob Try.prog.godebug = none := by kernel_rfl
set_option maxRecDepth 100000 in
theorem lifted (os : Os) (started : os.Started) (H : Type) (enc : TypeId × Value → H) :
    ReturnsInHanded {} Try.checked os 5 .any (Rows.quotBackSpec.pre6 enc Try.prog Try.f5 Rows.quotBackRow.domain false) (Rows.quotBackSpec.post enc Try.prog Try.f5 false true false false) := by
  refine returnsInHanded_of_change (C := Try.checked) own started (by kernel_rfl) Try.func5
    (ChangeSpec.witness6 (enc := enc) (C := Try.checked) false ⟨#[], #[.int .u64 0, .int .u64 0, .int .i64 0], []⟩ 8 (by kernel_rfl) (by kernel_rfl) (by kernel_rfl) (by kernel_rfl)) ?_
  intro W base args ds gs before hval0 hW hcnd _
  have hval : ∀ (j : Nat) t v, Try.f5.params[j]? = some t → args[j]? = some v → Value.okWide Try.prog W .any base t v := hval0
  have hW' := hW
  obtain ⟨p, q, hA0, hV, rfl, hfz, hnd⟩ := hW
  have hA : DataW.TrodAll enc Try.prog W 0 (fun _ => true) true Try.f5.params.toList args.toList ds p := hA0
  rw [Try.params5] at hA hval
  obtain ⟨v0, v1, v2, d0, d1, d2, p0, p1, p2, rfl, rfl, rfl, h0, h1, h2⟩ := trodAll_three hA
  obtain ⟨rfl, rfl⟩ := trodVars_none hV
  obtain ⟨x0, rfl, rfl, rfl, w0⟩ := open_int Try.underlying22 (hval 0 22 v0 rfl rfl) h0
  obtain ⟨x1, rfl, rfl, rfl, w1⟩ := open_int Try.underlying22 (hval 1 22 v1 rfl rfl) h1
  obtain ⟨x2, rfl, rfl, rfl, w2⟩ := open_int Try.underlying3 (hval 2 3 v2 rfl rfl) h2
  clear hA0 hval0
  simp only [List.append_nil] at hW'
  refine (walk x0 x1 x2 (u64_bounds w0) (u64_bounds w1) W).mono fun e W' ⟨he, hg⟩ => ?_
  subst he
  exact ⟨_, rfl, post_of_same (pa := []) (pv := []) hW' (fun _ _ _ => trodAll_mk1 (shut_bool Try.underlying4 _))
    (fun sp _ => trodAll_mk3 (shut_int Try.underlying22 w0) (shut_int Try.underlying22 w1) (shut_int Try.underlying3 w2)) (fun _ _ => rfl) rfl
    (hg.1.frame _) (tidy_frozen hg) (ok_one (by kernel_rfl) rfl (okWide_bool_mk Try.underlying4 _))⟩

theorem proved : Rows.QuotBackSaid :=
  OpenClaim.holds_of_wide 5 Try.f5 rfl rfl rfl rfl rfl rfl rfl ⟨rfl, rfl, rfl, rfl, rfl⟩ rfl rfl rfl rfl rfl (by kernel_rfl) Try.func5 (by kernel_rfl)
    (of_decide_eq_true (by kernel_rfl)) (by unfold Func.isWrapper; first | (rw [if_pos (by decide +kernel)]; kernel_rfl) | (rw [if_neg (by decide +kernel)]; exact ⟨rfl, rfl⟩))
    (fun os started H enc _ => lifted os started H enc)
end Go.Proofs.Ytnolcojnodoecaa.quotBack
