/-
  PROVED HERE: for every input the law tillerlaw06.ProdRest returns true, and each argument reads afterwards as it read before: what rounding a product to the nearest left is found by Fma, without flags, where it is no less than the least plain pattern; the product and it, together by Fma, are the product again. No condition.
-/
import Derived.Test.YtecaahiajbkioaaG16
import Derived.Test.YtecaahiajbkioaaG17
import Derived.Test.YtecaahiajbkioaaG18
import Derived.Test.YtecaahiajbkioaaRows
namespace Go.Proofs.Ytecaahiajbkioaa.prodRest
open Go.KRun Go.Pt Go.ChangeShapes Go.WideShapes Go.ChangeAt Go.RowKit Go.Wd Go.Rn
set_option linter.unusedVariables false

def xS (a : Int) : Int := bAnd (a.fdiv (2 ^ min (Int.toNat 52) 64)) 2047
def eS (a b : Int) : Int := IntKind.i64.wrap (IntKind.i64.wrap (xS a) + IntKind.i64.wrap (xS b))
def fN (f : Int) : Int := IntKind.u8.wrap ((BitVec.ofInt IntKind.u8.bits f &&& ~~~BitVec.ofInt IntKind.u8.bits 16).toNat : Nat)
theorem pr_0 (a b : Int) : Fits (reckon (tabOf Try.prog extY conS6 true) 300 6 [.int .u64 a, .int .u64 b] [cmp true]) (.bool true) [(fN (muF 0 a b) != 0, true), (decide ((52 : Int) < 0), false), (decide ((52 : Int) < 0), false), (decide (U a ∧ U b), true)] := ⟨by kernel_rfl, by kernel_rfl, by kernel_rfl, by kernel_rfl⟩
theorem pr_1 (a b : Int) : Fits (reckon (tabOf Try.prog extY conS6 true) 300 6 [.int .u64 a, .int .u64 b] [cmp false, cmp true]) (.bool true) [(decide ((bNot (muP 0 a b) 9223372036854775808) ≥ 9218868437227405312), true), (fN (muF 0 a b) != 0, false), (decide ((52 : Int) < 0), false), (decide ((52 : Int) < 0), false), (decide (U a ∧ U b), true)] := ⟨by kernel_rfl, by kernel_rfl, by kernel_rfl, by kernel_rfl⟩
theorem pr_2 (a b : Int) : Fits (reckon (tabOf Try.prog extY conS6 true) 300 6 [.int .u64 a, .int .u64 b] [cmp false, cmp false, cmp true]) (.bool true) [(decide (eS a b < 1200), true), (decide ((bNot (muP 0 a b) 9223372036854775808) ≥ 9218868437227405312), false), (fN (muF 0 a b) != 0, false), (decide ((52 : Int) < 0), false), (decide ((52 : Int) < 0), false), (decide (U a ∧ U b), true)] := ⟨by kernel_rfl, by kernel_rfl, by kernel_rfl, by kernel_rfl⟩
theorem pr_3 (a b : Int) : Fits (reckon (tabOf Try.prog extY conS6 true) 300 6 [.int .u64 a, .int .u64 b] [cmp false, cmp false, cmp false, cmp true]) (.bool true) [(decide (eS a b > 3000), true), (decide (eS a b < 1200), false), (decide ((bNot (muP 0 a b) 9223372036854775808) ≥ 9218868437227405312), false), (fN (muF 0 a b) != 0, false), (decide ((52 : Int) < 0), false), (decide ((52 : Int) < 0), false), (decide (U a ∧ U b), true)] := ⟨by kernel_rfl, by kernel_rfl, by kernel_rfl, by kernel_rfl⟩
theorem pr_4 (a b : Int) : Fits (reckon (tabOf Try.prog extY conS6 true) 300 6 [.int .u64 a, .int .u64 b] [cmp false, cmp false, cmp false, cmp false, cmp true]) (.bool true) [(decide ((bNot a 9223372036854775808) ≥ 9218868437227405312), true), (decide (eS a b > 3000), false), (decide (eS a b < 1200), false), (decide ((bNot (muP 0 a b) 9223372036854775808) ≥ 9218868437227405312), false), (fN (muF 0 a b) != 0, false), (decide ((52 : Int) < 0), false), (decide ((52 : Int) < 0), false), (decide (U a ∧ U b), true)] := ⟨by kernel_rfl, by kernel_rfl, by kernel_rfl, by kernel_rfl⟩
theorem pr_5 (a b : Int) : Fits (reckon (tabOf Try.prog extY conS6 true) 300 6 [.int .u64 a, .int .u64 b] [cmp false, cmp false, cmp false, cmp false, cmp false, cmp true]) (.bool true) [(decide ((bNot b 9223372036854775808) ≥ 9218868437227405312), true), (decide ((bNot a 9223372036854775808) ≥ 9218868437227405312), false), (decide (eS a b > 3000), false), (decide (eS a b < 1200), false), (decide ((bNot (muP 0 a b) 9223372036854775808) ≥ 9218868437227405312), false), (fN (muF 0 a b) != 0, false), (decide ((52 : Int) < 0), false), (decide ((52 : Int) < 0), false), (decide (U a ∧ U b), true)] := ⟨by kernel_rfl, by kernel_rfl, by kernel_rfl, by kernel_rfl⟩
theorem pr_6 (a b : Int) : Fits (reckon (tabOf Try.prog extY conS6 true) 300 6 [.int .u64 a, .int .u64 b] [cmp false, cmp false, cmp false, cmp false, cmp false, cmp false, cmp true]) (.bool true) [((xS a) == 0, true), (decide ((52 : Int) < 0), false), (decide ((bNot b 9223372036854775808) ≥ 9218868437227405312), false), (decide ((bNot a 9223372036854775808) ≥ 9218868437227405312), false), (decide (eS a b > 3000), false), (decide (eS a b < 1200), false), (decide ((bNot (muP 0 a b) 9223372036854775808) ≥ 9218868437227405312), false), (fN (muF 0 a b) != 0, false), (decide ((52 : Int) < 0), false), (decide ((52 : Int) < 0), false), (decide (U a ∧ U b), true)] := ⟨by kernel_rfl, by kernel_rfl, by kernel_rfl, by kernel_rfl⟩
theorem pr_7 (a b : Int) : Fits (reckon (tabOf Try.prog extY conS6 true) 300 6 [.int .u64 a, .int .u64 b] [cmp false, cmp false, cmp false, cmp false, cmp false, cmp false, cmp false, cmp true]) (.bool true) [((xS b) == 0, true), (decide ((52 : Int) < 0), false), ((xS a) == 0, false), (decide ((52 : Int) < 0), false), (decide ((bNot b 9223372036854775808) ≥ 9218868437227405312), false), (decide ((bNot a 9223372036854775808) ≥ 9218868437227405312), false), (decide (eS a b > 3000), false), (decide (eS a b < 1200), false), (decide ((bNot (muP 0 a b) 9223372036854775808) ≥ 9218868437227405312), false), (fN (muF 0 a b) != 0, false), (decide ((52 : Int) < 0), false), (decide ((52 : Int) < 0), false), (decide (U a ∧ U b), true)] := ⟨by kernel_rfl, by kernel_rfl, by kernel_rfl, by kernel_rfl⟩
theorem pr_t (a b : Int) : Fits (reckon (tabOf Try.prog extY conS6 true) 300 6 [.int .u64 a, .int .u64 b] [cmp false, cmp false, cmp false, cmp false, cmp false, cmp false, cmp false, cmp false, cmp true, cmp true, cmp true, cmp true]) (.bool true) [(fmP 0 a b (bXor (fmP 0 a b (bXor (muP 0 a b) 9223372036854775808)) 9223372036854775808) == muP 0 a b, true), (muF 0 a b == 16, true), ((bNot (fmP 0 a b (bXor (muP 0 a b) 9223372036854775808)) 9223372036854775808) != 0, true), (fmF 0 a b (bXor (muP 0 a b) 9223372036854775808) == 0, true), (decide (U a ∧ U b ∧ U (bXor (fmP 0 a b (bXor (muP 0 a b) 9223372036854775808)) 9223372036854775808)), true), (decide (U a ∧ U b ∧ U (bXor (muP 0 a b) 9223372036854775808)), true), ((xS b) == 0, false), (decide ((52 : Int) < 0), false), ((xS a) == 0, false), (decide ((52 : Int) < 0), false), (decide ((bNot b 9223372036854775808) ≥ 9218868437227405312), false), (decide ((bNot a 9223372036854775808) ≥ 9218868437227405312), false), (decide (eS a b > 3000), false), (decide (eS a b < 1200), false), (decide ((bNot (muP 0 a b) 9223372036854775808) ≥ 9218868437227405312), false), (fN (muF 0 a b) != 0, false), (decide ((52 : Int) < 0), false), (decide ((52 : Int) < 0), false), (decide (U a ∧ U b), true)] := ⟨by kernel_rfl, by kernel_rfl, by kernel_rfl, by kernel_rfl⟩
theorem pr_f (a b : Int) : Fits (reckon (tabOf Try.prog extY conS6 true) 300 6 [.int .u64 a, .int .u64 b] [cmp false, cmp false, cmp false, cmp false, cmp false, cmp false, cmp false, cmp false, cmp true, cmp false, cmp false, cmp true]) (.bool true) [(fmP 0 a b (bXor (fmP 0 a b (bXor (muP 0 a b) 9223372036854775808)) 9223372036854775808) == muP 0 a b, true), (muF 0 a b == 16, false), ((bNot (fmP 0 a b (bXor (muP 0 a b) 9223372036854775808)) 9223372036854775808) != 0, false), (fmF 0 a b (bXor (muP 0 a b) 9223372036854775808) == 0, true), (decide (U a ∧ U b ∧ U (bXor (fmP 0 a b (bXor (muP 0 a b) 9223372036854775808)) 9223372036854775808)), true), (decide (U a ∧ U b ∧ U (bXor (muP 0 a b) 9223372036854775808)), true), ((xS b) == 0, false), (decide ((52 : Int) < 0), false), ((xS a) == 0, false), (decide ((52 : Int) < 0), false), (decide ((bNot b 9223372036854775808) ≥ 9218868437227405312), false), (decide ((bNot a 9223372036854775808) ≥ 9218868437227405312), false), (decide (eS a b > 3000), false), (decide (eS a b < 1200), false), (decide ((bNot (muP 0 a b) 9223372036854775808) ≥ 9218868437227405312), false), (fN (muF 0 a b) != 0, false), (decide ((52 : Int) < 0), false), (decide ((52 : Int) < 0), false), (decide (U a ∧ U b), true)] := ⟨by kernel_rfl, by kernel_rfl, by kernel_rfl, by kernel_rfl⟩

theorem xS_eq {a : Int} (ha : U a) : xS a = ex a := by
  have e : ((2 : Int) ^ min (52 : Int).toNat 64) = 4503599627370496 := by rfl
  unfold xS
  rw [e, Int.fdiv_eq_ediv_of_nonneg _ (by omega), bAnd_mask 0 11 (by unfold U at *; omega) (by rfl) (by decide)]
  unfold ex
  simp
theorem eS_eq {a b : Int} (ha : U a) (hb : U b) : eS a b = ex a + ex b := by
  have h1 := ex_lt a
  have h2 := ex_lt b
  unfold eS
  rw [xS_eq ha, xS_eq hb, wrapI' (n := ex a) ⟨by omega, by omega⟩, wrapI' (n := ex b) ⟨by omega, by omega⟩, wrapI' ⟨by omega, by omega⟩]
theorem rnF_vals (m : Int) (n : Bool) (T : Nat) (E : Int) : rnF m n T E = 0 ∨ rnF m n T E = 16 ∨ rnF m n T E = 20 ∨ rnF m n T E = 24 := by
  unfold rnF
  split
  · omega
  · split
    · omega
    · split
      · split <;> omega
      · omega
theorem muF_vals (m a b : Int) : muF m a b = 0 ∨ muF m a b = 1 ∨ muF m a b = 16 ∨ muF m a b = 20 ∨ muF m a b = 24 := by
  have h : mlF m a b = 0 ∨ mlF m a b = 16 ∨ mlF m a b = 20 ∨ mlF m a b = 24 := rnF_vals _ _ _ _
  unfold muF
  split
  · omega
  · split
    · split <;> omega
    · split <;> omega
theorem fN_zero {f : Int} (hf : f = 0 ∨ f = 1 ∨ f = 16 ∨ f = 20 ∨ f = 24) (h : fN f = 0) : f = 0 ∨ f = 16 := by
  rcases hf with rfl | rfl | rfl | rfl | rfl
  · exact .inl rfl
  · exact absurd h (by decide)
  · exact .inr rfl
  · exact absurd h (by decide)
  · exact absurd h (by decide)
theorem walk (a b : Int) (ha : U a) (hb : U b) (w : World) : Calls Try.prog 6 #[.int .u64 a, .int .u64 b] w fun e w' => e = .returned (.bool true) ∧ Tidy w w' := by
  have hv : ([.int .u64 a, .int .u64 b].all (lt 0)) = true := rfl
  have hp := mu_U 0 a b
  by_cases h0 : fN (muF 0 a b) ≠ 0
  · exact fits_calls (tabY_ok conS6_ok) (pr_0 a b) (okCons (bne_t h0) (okCons (by decide) (okCons (by decide) (okL1 (decide_eq_true ⟨ha, hb⟩))))) hv (by rfl) w
  have h0 : fN (muF 0 a b) = 0 := Decidable.not_not.1 h0
  by_cases h1 : bNot (muP 0 a b) 9223372036854775808 ≥ 9218868437227405312
  · exact fits_calls (tabY_ok conS6_ok) (pr_1 a b) (okCons (decide_eq_true h1) (okCons (bne_f h0) (okCons (by decide) (okCons (by decide) (okL1 (decide_eq_true ⟨ha, hb⟩)))))) hv (by rfl) w
  by_cases h2 : eS a b < 1200
  · exact fits_calls (tabY_ok conS6_ok) (pr_2 a b) (okCons (decide_eq_true h2) (okCons (decide_eq_false h1) (okCons (bne_f h0) (okCons (by decide) (okCons (by decide) (okL1 (decide_eq_true ⟨ha, hb⟩))))))) hv (by rfl) w
  by_cases h3 : eS a b > 3000
  · exact fits_calls (tabY_ok conS6_ok) (pr_3 a b) (okCons (decide_eq_true h3) (okCons (decide_eq_false h2) (okCons (decide_eq_false h1) (okCons (bne_f h0) (okCons (by decide) (okCons (by decide) (okL1 (decide_eq_true ⟨ha, hb⟩)))))))) hv (by rfl) w
  by_cases h4 : bNot a 9223372036854775808 ≥ 9218868437227405312
  · exact fits_calls (tabY_ok conS6_ok) (pr_4 a b) (okCons (decide_eq_true h4) (okCons (decide_eq_false h3) (okCons (decide_eq_false h2) (okCons (decide_eq_false h1) (okCons (bne_f h0) (okCons (by decide) (okCons (by decide) (okL1 (decide_eq_true ⟨ha, hb⟩))))))))) hv (by rfl) w
  by_cases h5 : bNot b 9223372036854775808 ≥ 9218868437227405312
  · exact fits_calls (tabY_ok conS6_ok) (pr_5 a b) (okCons (decide_eq_true h5) (okCons (decide_eq_false h4) (okCons (decide_eq_false h3) (okCons (decide_eq_false h2) (okCons (decide_eq_false h1) (okCons (bne_f h0) (okCons (by decide) (okCons (by decide) (okL1 (decide_eq_true ⟨ha, hb⟩)))))))))) hv (by rfl) w
  by_cases h6 : xS a = 0
  · exact fits_calls (tabY_ok conS6_ok) (pr_6 a b) (okCons (beq_t h6) (okCons (by decide) (okCons (decide_eq_false h5) (okCons (decide_eq_false h4) (okCons (decide_eq_false h3) (okCons (decide_eq_false h2) (okCons (decide_eq_false h1) (okCons (bne_f h0) (okCons (by decide) (okCons (by decide) (okL1 (decide_eq_true ⟨ha, hb⟩)))))))))))) hv (by rfl) w
  by_cases h7 : xS b = 0
  · exact fits_calls (tabY_ok conS6_ok) (pr_7 a b) (okCons (beq_t h7) (okCons (by decide) (okCons (beq_f h6) (okCons (by decide) (okCons (decide_eq_false h5) (okCons (decide_eq_false h4) (okCons (decide_eq_false h3) (okCons (decide_eq_false h2) (okCons (decide_eq_false h1) (okCons (bne_f h0) (okCons (by decide) (okCons (by decide) (okL1 (decide_eq_true ⟨ha, hb⟩)))))))))))))) hv (by rfl) w
  have e1 := eS_eq ha hb
  have a0 : ex a ≠ 0 := by rw [← xS_eq ha]; exact h6
  have b0 : ex b ≠ 0 := by rw [← xS_eq hb]; exact h7
  have a1 : ex a ≠ 2047 := by rw [bNot_mag ha] at h4; have := (mag_cl a).2.2.2 (by omega); exact fin_ex this
  have b1 : ex b ≠ 2047 := by rw [bNot_mag hb] at h5; have := (mag_cl b).2.2.2 (by omega); exact fin_ex this
  have hF := fN_zero (muF_vals 0 a b) h0
  obtain ⟨r1, r2, r3⟩ := rest_found a0 a1 b0 b1 (by omega) hF (by rw [bNot_mag hp] at h1; omega)
  have hnp : U (bXor (muP 0 a b) 9223372036854775808) := by rw [bXor_ng hp]; exact (ng_parts hp).1
  rw [← bXor_ng hp] at r1 r2 r3
  have hr := fm_U 0 a b hnp
  rw [← bNot_mag hr] at r2
  rw [← bXor_ng hr] at r3
  by_cases h8 : muF 0 a b = 16
  · exact fits_calls (tabY_ok conS6_ok) (pr_t a b) (okCons (beq_t r3) (okCons (beq_t h8) (okCons (bne_t (r2.2 h8)) (okCons (beq_t r1) (okCons (decide_eq_true ⟨ha, hb, by rw [bXor_ng hr]; exact (ng_parts hr).1⟩) (okCons (decide_eq_true ⟨ha, hb, hnp⟩) (okCons (beq_f h7) (okCons (by decide) (okCons (beq_f h6) (okCons (by decide) (okCons (decide_eq_false h5) (okCons (decide_eq_false h4) (okCons (decide_eq_false h3) (okCons (decide_eq_false h2) (okCons (decide_eq_false h1) (okCons (bne_f h0) (okCons (by decide) (okCons (by decide) (okL1 (decide_eq_true ⟨ha, hb⟩)))))))))))))))))))) hv (by rfl) w
  · exact fits_calls (tabY_ok conS6_ok) (pr_f a b) (okCons (beq_t r3) (okCons (beq_f h8) (okCons (bne_f (Decidable.not_not.1 fun h => h8 (r2.1 h))) (okCons (beq_t r1) (okCons (decide_eq_true ⟨ha, hb, by rw [bXor_ng hr]; exact (ng_parts hr).1⟩) (okCons (decide_eq_true ⟨ha, hb, hnp⟩) (okCons (beq_f h7) (okCons (by decide) (okCons (beq_f h6) (okCons (by decide) (okCons (decide_eq_false h5) (okCons (decide_eq_false h4) (okCons (decide_eq_false h3) (okCons (decide_eq_false h2) (okCons (decide_eq_false h1) (okCons (bne_f h0) (okCons (by decide) (okCons (by decide) (okL1 (decide_eq_true ⟨ha, hb⟩)))))))))))))))))))) hv (by rfl) w
theorem own : ownKnob Try.prog.godebug = none := by kernel_rfl
set_option maxRecDepth 100000 in
theorem lifted (os : Os) (started : os.Started) (H : Type) (enc : TypeId × Value → H) :
    ReturnsInHanded {} Try.checked os 6 .any (Rows.prodRestSpec.pre6 enc Try.prog Try.f6 Rows.prodRestRow.domain false) (Rows.prodRestSpec.post enc Try.prog Try.f6 false true false false) := by
  refine returnsInHanded_of_change (C := Try.checked) own started (by kernel_rfl) Try.func6
    (ChangeSpec.witness6 (enc := enc) (C := Try.checked) false ⟨#[], #[.int .u64 0, .int .u64 0], []⟩ 8 (by kernel_rfl) (by kernel_rfl) (by kernel_rfl) (by kernel_rfl)) ?_
  intro W base args ds gs before hval0 hW hcnd _
  have hval : ∀ (j : Nat) t v, Try.f6.params[j]? = some t → args[j]? = some v → Value.okWide Try.prog W .any base t v := hval0
  have hW' := hW
  obtain ⟨p, q, hA0, hV, rfl, hfz, hnd⟩ := hW
  have hA : DataW.TrodAll enc Try.prog W 0 (fun _ => true) true Try.f6.params.toList args.toList ds p := hA0
  rw [Try.params6] at hA hval
  obtain ⟨v0, v1, d0, d1, p0, p1, rfl, rfl, rfl, h0, h1⟩ := trodAll_two hA
  obtain ⟨rfl, rfl⟩ := trodVars_none hV
  obtain ⟨x0, rfl, rfl, rfl, w0⟩ := open_int Try.underlying22 (hval 0 22 v0 rfl rfl) h0
  obtain ⟨x1, rfl, rfl, rfl, w1⟩ := open_int Try.underlying22 (hval 1 22 v1 rfl rfl) h1
  clear hA0 hval0
  simp only [List.append_nil] at hW'
  refine (walk x0 x1 (u64_bounds w0) (u64_bounds w1) W).mono fun e W' ⟨he, hg⟩ => ?_
  subst he
  exact ⟨_, rfl, post_of_same (pa := []) (pv := []) hW' (fun _ _ _ => trodAll_mk1 (shut_bool Try.underlying4 _))
    (fun sp _ => trodAll_mk2 (shut_int Try.underlying22 w0) (shut_int Try.underlying22 w1)) (fun _ _ => rfl) rfl
    (hg.1.frame _) (tidy_frozen hg) (ok_one (by kernel_rfl) rfl (okWide_bool_mk Try.underlying4 _))⟩

theorem proved : Rows.ProdRestSaid :=
  OpenClaim.holds_of_wide 6 Try.f6 rfl rfl rfl rfl rfl rfl rfl ⟨rfl, rfl, rfl, rfl, rfl⟩ rfl rfl rfl rfl rfl (by kernel_rfl) Try.func6 (by kernel_rfl)
    (of_decide_eq_true (by kernel_rfl)) (by unfold Func.isWrapper; first | (rw [if_pos (by decide +kernel)]; kernel_rfl) | (rw [if_neg (by decide +kernel)]; exact ⟨rfl, rfl⟩))
    (fun os started H enc _ => lifted os started H enc)
end Go.Proofs.Ytecaahiajbkioaa.prodRest
