/-
  PROVED HERE: for every input the law tillerlaw12.NarrowBack returns true, and each argument reads afterwards as it read before: a number of 32 bits is itself again, without flags, by every mode; by Down and Up a pattern lies between neighbours. No condition.
-/
import Derived.Test.YteglhjkpcljpmaaG19
import Derived.Test.YteglhjkpcljpmaaG20
import Derived.Test.YteglhjkpcljpmaaRows
namespace Go.Proofs.Yteglhjkpcljpmaa.narrowBack
open Go.KRun Go.Pt Go.ChangeShapes Go.WideShapes Go.ChangeAt Go.RowKit Go.Wd Go.Rn
set_option linter.unusedVariables false

theorem u32_bd {n : Int} (h : (Lit.int .u32 n).wf = true) : U3 n := by
  simp [Lit.wf, IntKind.min, IntKind.max, IntKind.signed, IntKind.bits] at h
  exact ⟨by omega, by omega⟩
theorem inex8 {x : Int} (h : x = 16 ∨ x = 20 ∨ x = 24) : (IntKind.u8.wrap ((BitVec.ofInt 8 x &&& BitVec.ofInt 8 16).toNat : Nat) != 0) = true := by
  rcases h with h | h | h <;> rw [h] <;> decide
theorem bk_n (q p m : Int) : Fits (reckon (tabOf Try.prog extY conNF true) 300 5 [.int .u32 q, .int .u64 p, .int .i64 m] [cmp true, cmp true, cmp true]) (.bool true) [(naP m (nfP q) == 2143289344, true), ((nfP q) == 9221120237041090560, true), (decide (hAnd q 2147483647 > 2139095040), true), (decide (U (nfP q)), true), (decide (U3 q), true)] := ⟨by kernel_rfl, by kernel_rfl, by kernel_rfl, by kernel_rfl⟩
theorem bk_b (q p m : Int) : Fits (reckon (tabOf Try.prog extY conNF true) 300 5 [.int .u32 q, .int .u64 p, .int .i64 m] [cmp false, cmp false, cmp false, cmp false, cmp true, cmp true, cmp true, cmp true]) (.bool true) [(naP m (nfP q) == q, true), (naF m (nfP q) == 0, true), (nfF q == 0, true), (decide (bNot p 9223372036854775808 > 9218868437227405312), true), (naP m (nfP q) != q, false), (naF m (nfP q) != 0, false), (nfF q != 0, false), (decide (hAnd q 2147483647 > 2139095040), false), (decide (U (nfP q)), true), (decide (U3 q), true)] := ⟨by kernel_rfl, by kernel_rfl, by kernel_rfl, by kernel_rfl⟩
theorem bk_c (q p m : Int) : Fits (reckon (tabOf Try.prog extY conNF true) 300 5 [.int .u32 q, .int .u64 p, .int .i64 m] [cmp false, cmp false, cmp false, cmp false, cmp false, cmp true, cmp true, cmp true, cmp true]) (.bool true) [(naP m (nfP q) == q, true), (naF m (nfP q) == 0, true), (nfF q == 0, true), (decide (p ≥ 9223372036854775808), true), (decide (bNot p 9223372036854775808 > 9218868437227405312), false), (naP m (nfP q) != q, false), (naF m (nfP q) != 0, false), (nfF q != 0, false), (decide (hAnd q 2147483647 > 2139095040), false), (decide (U (nfP q)), true), (decide (U3 q), true)] := ⟨by kernel_rfl, by kernel_rfl, by kernel_rfl, by kernel_rfl⟩
theorem bk_d (q p m : Int) : Fits (reckon (tabOf Try.prog extY conNF true) 300 5 [.int .u32 q, .int .u64 p, .int .i64 m] [cmp false, cmp false, cmp false, cmp false, cmp false, cmp false, cmp true, cmp true, cmp true]) (.bool true) [(naF 3 p == 0, true), (naF 4 p == 0, true), (naP 3 p == naP 4 p, true), lU p, lU p, (decide (p ≥ 9223372036854775808), false), (decide (bNot p 9223372036854775808 > 9218868437227405312), false), (naP m (nfP q) != q, false), (naF m (nfP q) != 0, false), (nfF q != 0, false), (decide (hAnd q 2147483647 > 2139095040), false), (decide (U (nfP q)), true), (decide (U3 q), true)] := ⟨by kernel_rfl, by kernel_rfl, by kernel_rfl, by kernel_rfl⟩
theorem bk_e (q p m : Int) : Fits (reckon (tabOf Try.prog extY conNF true) 300 5 [.int .u32 q, .int .u64 p, .int .i64 m] [cmp false, cmp false, cmp false, cmp false, cmp false, cmp false, cmp false, cmp true, cmp true, cmp true]) (.bool true) [(IntKind.u8.wrap ((BitVec.ofInt 8 (naF 3 p) &&& BitVec.ofInt 8 16).toNat : Nat) != 0, true), (IntKind.u8.wrap ((BitVec.ofInt 8 (naF 4 p) &&& BitVec.ofInt 8 16).toNat : Nat) != 0, true), (naP 3 p == IntKind.u32.wrap (naP 4 p + 1), true), (naP 3 p == naP 4 p, false), lU p, lU p, (decide (p ≥ 9223372036854775808), false), (decide (bNot p 9223372036854775808 > 9218868437227405312), false), (naP m (nfP q) != q, false), (naF m (nfP q) != 0, false), (nfF q != 0, false), (decide (hAnd q 2147483647 > 2139095040), false), (decide (U (nfP q)), true), (decide (U3 q), true)] := ⟨by kernel_rfl, by kernel_rfl, by kernel_rfl, by kernel_rfl⟩
theorem walk (q p m : Int) (hq : U3 q) (hp : U p) (w : World) : Calls Try.prog 5 #[.int .u32 q, .int .u64 p, .int .i64 m] w fun e w' => e = .returned (.bool true) ∧ Tidy w w' := by
  have hv : ([.int .u32 q, .int .u64 p, .int .i64 m].all (lt 0)) = true := rfl
  have T := tabY_ok conNF_ok
  have p0 := hp.1
  have p1 := hp.2
  have eM := hAnd_mag hq
  have eP := bNot_mag hp
  by_cases hn : 2139095040 < mag3 q
  · obtain ⟨n1, n2⟩ := na_none hn m
    exact fits_calls T (bk_n q p m) (okCons (beq_t n2) (okCons (beq_t n1) (okCons (decide_eq_true (by rw [eM]; omega)) (okCons (decide_eq_true nf_U) (okL1 (decide_eq_true hq)))))) hv (by rfl) w
  obtain ⟨b1, b2, b3⟩ := na_there hq (show mag3 q ≤ 2139095040 by omega) m
  by_cases hi : 9218868437227405312 < mag p
  · exact fits_calls T (bk_b q p m) (okCons (beq_t b2) (okCons (beq_t b3) (okCons (beq_t b1) (okCons (decide_eq_true (by rw [eP]; omega)) (okCons (bne_f b2) (okCons (bne_f b3) (okCons (bne_f b1) (okCons (decide_eq_false (by rw [eM]; omega)) (okCons (decide_eq_true nf_U) (okL1 (decide_eq_true hq))))))))))) hv (by rfl) w
  by_cases hs : 9223372036854775808 ≤ p
  · exact fits_calls T (bk_c q p m) (okCons (beq_t b2) (okCons (beq_t b3) (okCons (beq_t b1) (okCons (decide_eq_true (by omega)) (okCons (decide_eq_false (by rw [eP]; omega)) (okCons (bne_f b2) (okCons (bne_f b3) (okCons (bne_f b1) (okCons (decide_eq_false (by rw [eM]; omega)) (okCons (decide_eq_true nf_U) (okL1 (decide_eq_true hq)))))))))))) hv (by rfl) w
  have hc : cl p ≤ 3 := by
    have h := (mag_cl p).1
    have : ¬ 3 < cl p := fun hh => hi (h.1 hh)
    omega
  rcases na_between (p := p) (decide_eq_false hs) hc with ⟨s1, s2, s3⟩ | ⟨s1, s0, s9, s2, s3⟩
  · exact fits_calls T (bk_d q p m) (okCons (beq_t s2) (okCons (beq_t s3) (okCons (beq_t s1) (okCons (decide_eq_true hp) (okCons (decide_eq_true hp) (okCons (decide_eq_false (by omega)) (okCons (decide_eq_false (by rw [eP]; omega)) (okCons (bne_f b2) (okCons (bne_f b3) (okCons (bne_f b1) (okCons (decide_eq_false (by rw [eM]; omega)) (okCons (decide_eq_true nf_U) (okL1 (decide_eq_true hq)))))))))))))) hv (by rfl) w
  · exact fits_calls T (bk_e q p m) (okCons (inex8 s2) (okCons (inex8 s3) (okCons (beq_t (by rw [wrap3]; omega)) (okCons (beq_f (by omega)) (okCons (decide_eq_true hp) (okCons (decide_eq_true hp) (okCons (decide_eq_false (by omega)) (okCons (decide_eq_false (by rw [eP]; omega)) (okCons (bne_f b2) (okCons (bne_f b3) (okCons (bne_f b1) (okCons (decide_eq_false (by rw [eM]; omega)) (okCons (decide_eq_true nf_U) (okL1 (decide_eq_true hq))))))))))))))) hv (by rfl) w
theorem own : ownKnob Try.prog.godebug = none := by kernel_rfl
set_option maxRecDepth 100000 in
theorem lifted (os : Os) (started : os.Started) (H : Type) (enc : TypeId × Value → H) :
    ReturnsInHanded {} Try.checked os 5 .any (Rows.narrowBackSpec.pre6 enc Try.prog Try.f5 Rows.narrowBackRow.domain false) (Rows.narrowBackSpec.post enc Try.prog Try.f5 false true false false) := by
  refine returnsInHanded_of_change (C := Try.checked) own started (by kernel_rfl) Try.func5
    (ChangeSpec.witness6 (enc := enc) (C := Try.checked) false ⟨#[], #[.int .u32 0, .int .u64 0, .int .i64 0], []⟩ 8 (by kernel_rfl) (by kernel_rfl) (by kernel_rfl) (by kernel_rfl)) ?_
  intro W base args ds gs before hval0 hW hcnd _
  have hval : ∀ (j : Nat) t v, Try.f5.params[j]? = some t → args[j]? = some v → Value.okWide Try.prog W .any base t v := hval0
  have hW' := hW
  obtain ⟨p, q, hA0, hV, rfl, hfz, hnd⟩ := hW
  have hA : DataW.TrodAll enc Try.prog W 0 (fun _ => true) true Try.f5.params.toList args.toList ds p := hA0
  rw [Try.params5] at hA hval
  obtain ⟨v0, v1, v2, d0, d1, d2, p0, p1, p2, rfl, rfl, rfl, h0, h1, h2⟩ := trodAll_three hA
  obtain ⟨rfl, rfl⟩ := trodVars_none hV
  obtain ⟨x0, rfl, rfl, rfl, w0⟩ := open_int Try.underlying23 (hval 0 23 v0 rfl rfl) h0
  obtain ⟨x1, rfl, rfl, rfl, w1⟩ := open_int Try.underlying22 (hval 1 22 v1 rfl rfl) h1
  obtain ⟨x2, rfl, rfl, rfl, w2⟩ := open_int Try.underlying3 (hval 2 3 v2 rfl rfl) h2
  clear hA0 hval0
  simp only [List.append_nil] at hW'
  refine (walk x0 x1 x2 (u32_bd w0) (u64_bounds w1) W).mono fun e W' ⟨he, hg⟩ => ?_
  subst he
  exact ⟨_, rfl, post_of_same (pa := []) (pv := []) hW' (fun _ _ _ => trodAll_mk1 (shut_bool Try.underlying4 _))
    (fun sp _ => trodAll_mk3 (shut_int Try.underlying23 w0) (shut_int Try.underlying22 w1) (shut_int Try.underlying3 w2)) (fun _ _ => rfl) rfl
    (hg.1.frame _) (tidy_frozen hg) (ok_one (by kernel_rfl) rfl (okWide_bool_mk Try.underlying4 _))⟩

theorem proved : Rows.NarrowBackSaid :=
  OpenClaim.holds_of_wide 5 Try.f5 rfl rfl rfl rfl rfl rfl rfl ⟨rfl, rfl, rfl, rfl, rfl⟩ rfl rfl rfl rfl rfl (by kernel_rfl) Try.func5 (by kernel_rfl)
    (of_decide_eq_true (by kernel_rfl)) (by unfold Func.isWrapper; first | (rw [if_pos (by decide +kernel)]; kernel_rfl) | (rw [if_neg (by decide +kernel)]; exact ⟨rfl, rfl⟩))
    (fun os started H enc _ => lifted os started H enc)
end Go.Proofs.Yteglhjkpcljpmaa.narrowBack
