/-
  PROVED HERE: for every input the law tillerlaw05.SumsSigns returns true, and each argument reads afterwards as it read before: with the other signs, and the modes of the sides changed, a sum is the one with the other sign, with the same flags, but for noughts. No condition.
-/
import Derived.Test.YtgmfnecdpfdncaaSuS
import Derived.Test.YtgmfnecdpfdncaaSuM
import Derived.Test.YtgmfnecdpfdncaaFlat
import Derived.Test.YtgmfnecdpfdncaaRows
namespace Go.Proofs.Ytgmfnecdpfdncaa.sumsSigns
open Go.KRun Go.Pt Go.ChangeShapes Go.WideShapes Go.ChangeAt Go.RowKit Go.Wd Go.Rn
set_option linter.unusedVariables false

theorem sg_z3 (a b m : Int) : Fits (reckon (tabOf Try.prog extY conS5 true) 300 7 [.int .u64 a, .int .u64 b, .int .i64 m] [cmp true, cmp true, cmp true, cmp true]) (.bool true) [(suF m a b == suF 4 (bXor a 9223372036854775808) (bXor b 9223372036854775808), true), ((bNot (suP 4 (bXor a 9223372036854775808) (bXor b 9223372036854775808)) 9223372036854775808) == 0, true), ((bNot (suP m a b) 9223372036854775808) == 0, true), (decide (U (bXor a 9223372036854775808) ∧ U (bXor b 9223372036854775808)), true), (m == 3, true), (decide (U a ∧ U b), true)] := ⟨by kernel_rfl, by kernel_rfl, by kernel_rfl, by kernel_rfl⟩
theorem sg_n3 (a b m : Int) : Fits (reckon (tabOf Try.prog extY conS5 true) 300 7 [.int .u64 a, .int .u64 b, .int .i64 m] [cmp true, cmp false, cmp true, cmp true, cmp true]) (.bool true) [(suF m a b == suF 4 (bXor a 9223372036854775808) (bXor b 9223372036854775808), true), (suP 4 (bXor a 9223372036854775808) (bXor b 9223372036854775808) == suP m a b, true), (suP m a b == 9221120237041090560, true), ((bNot (suP m a b) 9223372036854775808) == 0, false), (decide (U (bXor a 9223372036854775808) ∧ U (bXor b 9223372036854775808)), true), (m == 3, true), (decide (U a ∧ U b), true)] := ⟨by kernel_rfl, by kernel_rfl, by kernel_rfl, by kernel_rfl⟩
theorem sg_s3 (a b m : Int) : Fits (reckon (tabOf Try.prog extY conS5 true) 300 7 [.int .u64 a, .int .u64 b, .int .i64 m] [cmp true, cmp false, cmp false, cmp true, cmp true]) (.bool true) [(suF m a b == suF 4 (bXor a 9223372036854775808) (bXor b 9223372036854775808), true), (suP m a b == (bXor (suP 4 (bXor a 9223372036854775808) (bXor b 9223372036854775808)) 9223372036854775808), true), (suP m a b == 9221120237041090560, false), ((bNot (suP m a b) 9223372036854775808) == 0, false), (decide (U (bXor a 9223372036854775808) ∧ U (bXor b 9223372036854775808)), true), (m == 3, true), (decide (U a ∧ U b), true)] := ⟨by kernel_rfl, by kernel_rfl, by kernel_rfl, by kernel_rfl⟩
theorem sg_z4 (a b m : Int) : Fits (reckon (tabOf Try.prog extY conS5 true) 300 7 [.int .u64 a, .int .u64 b, .int .i64 m] [cmp false, cmp true, cmp true, cmp true, cmp true]) (.bool true) [(suF m a b == suF 3 (bXor a 9223372036854775808) (bXor b 9223372036854775808), true), ((bNot (suP 3 (bXor a 9223372036854775808) (bXor b 9223372036854775808)) 9223372036854775808) == 0, true), ((bNot (suP m a b) 9223372036854775808) == 0, true), (decide (U (bXor a 9223372036854775808) ∧ U (bXor b 9223372036854775808)), true), (m == 4, true), (m == 3, false), (decide (U a ∧ U b), true)] := ⟨by kernel_rfl, by kernel_rfl, by kernel_rfl, by kernel_rfl⟩
theorem sg_n4 (a b m : Int) : Fits (reckon (tabOf Try.prog extY conS5 true) 300 7 [.int .u64 a, .int .u64 b, .int .i64 m] [cmp false, cmp true, cmp false, cmp true, cmp true, cmp true]) (.bool true) [(suF m a b == suF 3 (bXor a 9223372036854775808) (bXor b 9223372036854775808), true), (suP 3 (bXor a 9223372036854775808) (bXor b 9223372036854775808) == suP m a b, true), (suP m a b == 9221120237041090560, true), ((bNot (suP m a b) 9223372036854775808) == 0, false), (decide (U (bXor a 9223372036854775808) ∧ U (bXor b 9223372036854775808)), true), (m == 4, true), (m == 3, false), (decide (U a ∧ U b), true)] := ⟨by kernel_rfl, by kernel_rfl, by kernel_rfl, by kernel_rfl⟩
theorem sg_s4 (a b m : Int) : Fits (reckon (tabOf Try.prog extY conS5 true) 300 7 [.int .u64 a, .int .u64 b, .int .i64 m] [cmp false, cmp true, cmp false, cmp false, cmp true, cmp true]) (.bool true) [(suF m a b == suF 3 (bXor a 9223372036854775808) (bXor b 9223372036854775808), true), (suP m a b == (bXor (suP 3 (bXor a 9223372036854775808) (bXor b 9223372036854775808)) 9223372036854775808), true), (suP m a b == 9221120237041090560, false), ((bNot (suP m a b) 9223372036854775808) == 0, false), (decide (U (bXor a 9223372036854775808) ∧ U (bXor b 9223372036854775808)), true), (m == 4, true), (m == 3, false), (decide (U a ∧ U b), true)] := ⟨by kernel_rfl, by kernel_rfl, by kernel_rfl, by kernel_rfl⟩
theorem sg_z0 (a b m : Int) : Fits (reckon (tabOf Try.prog extY conS5 true) 300 7 [.int .u64 a, .int .u64 b, .int .i64 m] [cmp false, cmp false, cmp true, cmp true, cmp true]) (.bool true) [(suF m a b == suF m (bXor a 9223372036854775808) (bXor b 9223372036854775808), true), ((bNot (suP m (bXor a 9223372036854775808) (bXor b 9223372036854775808)) 9223372036854775808) == 0, true), ((bNot (suP m a b) 9223372036854775808) == 0, true), (decide (U (bXor a 9223372036854775808) ∧ U (bXor b 9223372036854775808)), true), (m == 4, false), (m == 3, false), (decide (U a ∧ U b), true)] := ⟨by kernel_rfl, by kernel_rfl, by kernel_rfl, by kernel_rfl⟩
theorem sg_n0 (a b m : Int) : Fits (reckon (tabOf Try.prog extY conS5 true) 300 7 [.int .u64 a, .int .u64 b, .int .i64 m] [cmp false, cmp false, cmp false, cmp true, cmp true, cmp true]) (.bool true) [(suF m a b == suF m (bXor a 9223372036854775808) (bXor b 9223372036854775808), true), (suP m (bXor a 9223372036854775808) (bXor b 9223372036854775808) == suP m a b, true), (suP m a b == 9221120237041090560, true), ((bNot (suP m a b) 9223372036854775808) == 0, false), (decide (U (bXor a 9223372036854775808) ∧ U (bXor b 9223372036854775808)), true), (m == 4, false), (m == 3, false), (decide (U a ∧ U b), true)] := ⟨by kernel_rfl, by kernel_rfl, by kernel_rfl, by kernel_rfl⟩
theorem sg_s0 (a b m : Int) : Fits (reckon (tabOf Try.prog extY conS5 true) 300 7 [.int .u64 a, .int .u64 b, .int .i64 m] [cmp false, cmp false, cmp false, cmp false, cmp true, cmp true]) (.bool true) [(suF m a b == suF m (bXor a 9223372036854775808) (bXor b 9223372036854775808), true), (suP m a b == (bXor (suP m (bXor a 9223372036854775808) (bXor b 9223372036854775808)) 9223372036854775808), true), (suP m a b == 9221120237041090560, false), ((bNot (suP m a b) 9223372036854775808) == 0, false), (decide (U (bXor a 9223372036854775808) ∧ U (bXor b 9223372036854775808)), true), (m == 4, false), (m == 3, false), (decide (U a ∧ U b), true)] := ⟨by kernel_rfl, by kernel_rfl, by kernel_rfl, by kernel_rfl⟩

theorem walk (a b m : Int) (ha : U a) (hb : U b) (w : World) : Calls Try.prog 7 #[.int .u64 a, .int .u64 b, .int .i64 m] w fun e w' => e = .returned (.bool true) ∧ Tidy w w' := by
  have hv : ([.int .u64 a, .int .u64 b, .int .i64 m].all (lt 0)) = true := rfl
  have na := (ng_parts ha).1
  have nb := (ng_parts hb).1
  have ea := bXor_ng ha
  have eb := bXor_ng hb
  have hp := su_U (m := m) ha hb
  have hq := su_U (m := swM m) na nb
  have k1 : decide (U a ∧ U b) = true := decide_eq_true ⟨ha, hb⟩
  have k2 : decide (U (bXor a 9223372036854775808) ∧ U (bXor b 9223372036854775808)) = true := decide_eq_true ⟨by rw [ea]; exact na, by rw [eb]; exact nb⟩
  obtain ⟨f, h⟩ := su_ng (m := m) ha hb
  rw [← bXor_ng hq, ← bNot_mag hp, ← bNot_mag hq] at h
  rw [← ea, ← eb] at f h
  by_cases h3 : m = 3
  · have e : swM m = 4 := by rw [h3]; rfl
    rw [e] at f h
    rcases h with ⟨z1, z2⟩ | ⟨z0, z1, z2⟩ | ⟨z0, z1, z2⟩
    · exact fits_calls (tabY_ok conS5_ok) (sg_z3 a b m) (okCons (beq_t f.symm) (okCons (beq_t z2) (okCons (beq_t z1) (okCons k2 (okCons (beq_t h3) (okL1 k1)))))) hv (by rfl) w
    · exact fits_calls (tabY_ok conS5_ok) (sg_n3 a b m) (okCons (beq_t f.symm) (okCons (beq_t z2) (okCons (beq_t z1) (okCons (beq_f z0) (okCons k2 (okCons (beq_t h3) (okL1 k1))))))) hv (by rfl) w
    · exact fits_calls (tabY_ok conS5_ok) (sg_s3 a b m) (okCons (beq_t f.symm) (okCons (beq_t z2) (okCons (beq_f z1) (okCons (beq_f z0) (okCons k2 (okCons (beq_t h3) (okL1 k1))))))) hv (by rfl) w
  · by_cases h4 : m = 4
    · have e : swM m = 3 := by rw [h4]; rfl
      rw [e] at f h
      rcases h with ⟨z1, z2⟩ | ⟨z0, z1, z2⟩ | ⟨z0, z1, z2⟩
      · exact fits_calls (tabY_ok conS5_ok) (sg_z4 a b m) (okCons (beq_t f.symm) (okCons (beq_t z2) (okCons (beq_t z1) (okCons k2 (okCons (beq_t h4) (okCons (beq_f h3) (okL1 k1))))))) hv (by rfl) w
      · exact fits_calls (tabY_ok conS5_ok) (sg_n4 a b m) (okCons (beq_t f.symm) (okCons (beq_t z2) (okCons (beq_t z1) (okCons (beq_f z0) (okCons k2 (okCons (beq_t h4) (okCons (beq_f h3) (okL1 k1)))))))) hv (by rfl) w
      · exact fits_calls (tabY_ok conS5_ok) (sg_s4 a b m) (okCons (beq_t f.symm) (okCons (beq_t z2) (okCons (beq_f z1) (okCons (beq_f z0) (okCons k2 (okCons (beq_t h4) (okCons (beq_f h3) (okL1 k1)))))))) hv (by rfl) w
    · have e : swM m = m := by unfold swM; rw [if_neg h3, if_neg h4]
      rw [e] at f h
      rcases h with ⟨z1, z2⟩ | ⟨z0, z1, z2⟩ | ⟨z0, z1, z2⟩
      · exact fits_calls (tabY_ok conS5_ok) (sg_z0 a b m) (okCons (beq_t f.symm) (okCons (beq_t z2) (okCons (beq_t z1) (okCons k2 (okCons (beq_f h4) (okCons (beq_f h3) (okL1 k1))))))) hv (by rfl) w
      · exact fits_calls (tabY_ok conS5_ok) (sg_n0 a b m) (okCons (beq_t f.symm) (okCons (beq_t z2) (okCons (beq_t z1) (okCons (beq_f z0) (okCons k2 (okCons (beq_f h4) (okCons (beq_f h3) (okL1 k1)))))))) hv (by rfl) w
      · exact fits_calls (tabY_ok conS5_ok) (sg_s0 a b m) (okCons (beq_t f.symm) (okCons (beq_t z2) (okCons (beq_f z1) (okCons (beq_f z0) (okCons k2 (okCons (beq_f h4) (okCons (beq_f h3) (okL1 k1)))))))) hv (by rfl) w
theorem own : ownKnob Try.prog.godebug = none := by kernel_rfl
set_option maxRecDepth 100000 in
theorem lifted (os : Os) (started : os.Started) (H : Type) (enc : TypeId × Value → H) :
    ReturnsInHanded {} Try.checked os 7 .any (Rows.sumsSignsSpec.pre6 enc Try.prog Try.f7 Rows.sumsSignsRow.domain false) (Rows.sumsSignsSpec.post enc Try.prog Try.f7 false true false false) := by
  refine returnsInHanded_of_change (C := Try.checked) own started (by kernel_rfl) Try.func7
    (ChangeSpec.witness6 (enc := enc) (C := Try.checked) false ⟨#[], #[.int .u64 0, .int .u64 0, .int .i64 0], []⟩ 8 (by kernel_rfl) (by kernel_rfl) (by kernel_rfl) (by kernel_rfl)) ?_
  intro W base args ds gs before hval0 hW hcnd _
  have hval : ∀ (j : Nat) t v, Try.f7.params[j]? = some t → args[j]? = some v → Value.okWide Try.prog W .any base t v := hval0
  have hW' := hW
  obtain ⟨p, q, hA0, hV, rfl, hfz, hnd⟩ := hW
  have hA : DataW.TrodAll enc Try.prog W 0 (fun _ => true) true Try.f7.params.toList args.toList ds p := hA0
  rw [Try.params7] at hA hval
  obtain ⟨v0, v1, v2, d0, d1, d2, p0, p1, p2, rfl, rfl, rfl, h0, h1, h2⟩ := trodAll_three hA
  obtain ⟨rfl, rfl⟩ := trodVars_none hV
  obtain ⟨x0, rfl, rfl, rfl, w0⟩ := open_int Try.underlying22 (hval 0 22 v0 rfl rfl) h0
  obtain ⟨x1, rfl, rfl, rfl, w1⟩ := open_int Try.underlying22 (hval 1 22 v1 rfl rfl) h1
  obtain ⟨x2, rfl, rfl, rfl, w2⟩ := open_int Try.underlying3 (hval 2 3 v2 rfl rfl) h2
  clear hA0 hval0
  simp only [List.append_nil] at hW'
  refine (walk x0 x1 x2 (u64_bounds w0) (u64_bounds w1) W).mono fun e W' ⟨he, hg⟩ => ?_
  subst he
  exact ⟨_, rfl, post_of_same (pa := []) (pv := []) hW' (fun _ _ _ => trodAll_mk1 (shut_bool Try.underlying4 _))
    (fun sp _ => trodAll_mk3 (shut_int Try.underlying22 w0) (shut_int Try.underlying22 w1) (shut_int Try.underlying3 w2)) (fun _ _ => rfl) rfl
    (hg.1.frame _) (tidy_frozen hg) (ok_one (by kernel_rfl) rfl (okWide_bool_mk Try.underlying4 _))⟩

theorem proved : Rows.SumsSignsSaid :=
  OpenClaim.holds_of_wide 7 Try.f7 rfl rfl rfl rfl rfl rfl rfl ⟨rfl, rfl, rfl, rfl, rfl⟩ rfl rfl rfl rfl rfl (by kernel_rfl) Try.func7 (by kernel_rfl)
    (of_decide_eq_true (by kernel_rfl)) (by unfold Func.isWrapper; first | (rw [if_pos (by decide +kernel)]; kernel_rfl) | (rw [if_neg (by decide +kernel)]; exact ⟨rfl, rfl⟩))
    (fun os started H enc _ => lifted os started H enc)
end Go.Proofs.Ytgmfnecdpfdncaa.sumsSigns
