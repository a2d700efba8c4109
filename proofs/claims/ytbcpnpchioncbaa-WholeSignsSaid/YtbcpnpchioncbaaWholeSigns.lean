/-
  PROVED HERE: for every input the law tillerlaw08.WholeSigns returns true, and each argument reads afterwards as it read before: with the divisor's other sign a rest is the same; with the first one's it has the other sign. No condition.
-/
import Derived.Test.YtbcpnpchioncbaaG37
import Derived.Test.YtbcpnpchioncbaaG38
import Derived.Test.YtbcpnpchioncbaaRows
namespace Go.Proofs.Ytbcpnpchioncbaa.wholeSigns
open Go.KRun Go.Pt Go.ChangeShapes Go.WideShapes Go.ChangeAt Go.RowKit Go.Wd Go.Rn
set_option linter.unusedVariables false

theorem sg_n (a b : Int) : Fits (reckon (tabOf Try.prog extY conL8 true) 400 7 [.int .u64 a, .int .u64 b] [cmp true, cmp true, cmp true, cmp true, cmp true, cmp true, cmp true, cmp true, cmp true, cmp true]) (.bool true) [(moF a b == moF (bXor a 9223372036854775808) b, true), (moF a b == moF a (bXor b 9223372036854775808), true), (moF a b == moF (bXor a 9223372036854775808) b, true), (moF a b == moF a (bXor b 9223372036854775808), true), (moP (bXor a 9223372036854775808) b == reP a b, true), (moP a (bXor b 9223372036854775808) == reP a b, true), (moP a b == reP a b, true), (reP (bXor a 9223372036854775808) b == reP a b, true), (reP a (bXor b 9223372036854775808) == reP a b, true), (reP a b == 9221120237041090560, true), (true, true), (decide (U (bXor a 9223372036854775808) ∧ U b), true), (true, true), (decide (U a ∧ U (bXor b 9223372036854775808)), true), (true, true), (decide (U a ∧ U b), true), (true, true), (decide (U (bXor a 9223372036854775808) ∧ U b), true), (true, true), (decide (U a ∧ U (bXor b 9223372036854775808)), true), (true, true), (decide (U a ∧ U b), true)] := ⟨by kernel_rfl, by kernel_rfl, by kernel_rfl, by kernel_rfl⟩
theorem sg_m (a b : Int) : Fits (reckon (tabOf Try.prog extY conL8 true) 400 7 [.int .u64 a, .int .u64 b] [cmp false, cmp true, cmp true, cmp true, cmp true, cmp true, cmp true, cmp true, cmp true]) (.bool true) [(moF a b == moF (bXor a 9223372036854775808) b, true), (moF a b == moF a (bXor b 9223372036854775808), true), (moF a b == moF (bXor a 9223372036854775808) b, true), (moF a b == moF a (bXor b 9223372036854775808), true), (moP (bXor a 9223372036854775808) b == (bXor (moP a b) 9223372036854775808), true), (moP a (bXor b 9223372036854775808) == moP a b, true), (reP (bXor a 9223372036854775808) b == (bXor (reP a b) 9223372036854775808), true), (reP a (bXor b 9223372036854775808) == reP a b, true), (reP a b == 9221120237041090560, false), (true, true), (decide (U (bXor a 9223372036854775808) ∧ U b), true), (true, true), (decide (U a ∧ U (bXor b 9223372036854775808)), true), (true, true), (decide (U a ∧ U b), true), (true, true), (decide (U (bXor a 9223372036854775808) ∧ U b), true), (true, true), (decide (U a ∧ U (bXor b 9223372036854775808)), true), (true, true), (decide (U a ∧ U b), true)] := ⟨by kernel_rfl, by kernel_rfl, by kernel_rfl, by kernel_rfl⟩

theorem walk (a b : Int) (ha : U a) (hb : U b) (w : World) : Calls Try.prog 7 #[.int .u64 a, .int .u64 b] w fun e w' => e = .returned (.bool true) ∧ Tidy w w' := by
  have hv : ([.int .u64 a, .int .u64 b].all (lt 0)) = true := rfl
  have T := tabY_ok conL8_ok
  have xa := bXor_ng ha
  have xb := bXor_ng hb
  have na := (ng_parts ha).1
  have nb := (ng_parts hb).1
  have kab : decide (U a ∧ U b) = true := decide_eq_true ⟨ha, hb⟩
  obtain ⟨f1, f2⟩ := mo_sign ha hb
  have uU := re_U (b := b) ha
  rcases rest_signs ha hb with ⟨h1, h2, h3, h4, h5, h6⟩ | ⟨h1, h2, h3, h4, h5⟩
  · exact fits_calls T (sg_n a b) (okCons (beq_t (by rw [xa]; exact f2.symm)) (okCons (beq_t (by rw [xb]; exact f1.symm)) (okCons (beq_t (by rw [xa]; exact f2.symm)) (okCons (beq_t (by rw [xb]; exact f1.symm)) (okCons (beq_t (by rw [xa]; exact h6)) (okCons (beq_t (by rw [xb]; exact h5)) (okCons (beq_t h4) (okCons (beq_t (by rw [xa]; exact h3)) (okCons (beq_t (by rw [xb]; exact h2)) (okCons (beq_t h1) (okCons rfl (okCons (decide_eq_true ⟨by rw [xa]; exact na, hb⟩) (okCons rfl (okCons (decide_eq_true ⟨ha, by rw [xb]; exact nb⟩) (okCons rfl (okCons kab (okCons rfl (okCons (decide_eq_true ⟨by rw [xa]; exact na, hb⟩) (okCons rfl (okCons (decide_eq_true ⟨ha, by rw [xb]; exact nb⟩) (okCons rfl (okL1 kab)))))))))))))))))))))) hv (by rfl) w
  · exact fits_calls T (sg_m a b) (okCons (beq_t (by rw [xa]; exact f2.symm)) (okCons (beq_t (by rw [xb]; exact f1.symm)) (okCons (beq_t (by rw [xa]; exact f2.symm)) (okCons (beq_t (by rw [xb]; exact f1.symm)) (okCons (beq_t (by rw [xa, bXor_ng uU.2]; exact h5)) (okCons (beq_t (by rw [xb]; exact h4)) (okCons (beq_t (by rw [xa, bXor_ng uU.1]; exact h3)) (okCons (beq_t (by rw [xb]; exact h2)) (okCons (beq_f h1) (okCons rfl (okCons (decide_eq_true ⟨by rw [xa]; exact na, hb⟩) (okCons rfl (okCons (decide_eq_true ⟨ha, by rw [xb]; exact nb⟩) (okCons rfl (okCons kab (okCons rfl (okCons (decide_eq_true ⟨by rw [xa]; exact na, hb⟩) (okCons rfl (okCons (decide_eq_true ⟨ha, by rw [xb]; exact nb⟩) (okCons rfl (okL1 kab))))))))))))))))))))) hv (by rfl) w
theorem own : ownKnob Try.prog.godebug = none := by kernel_rfl
set_option maxRecDepth 100000 in
theorem lifted (os : Os) (started : os.Started) (H : Type) (enc : TypeId × Value → H) :
    ReturnsInHanded {} Try.checked os 7 .any (Rows.wholeSignsSpec.pre6 enc Try.prog Try.f7 Rows.wholeSignsRow.domain false) (Rows.wholeSignsSpec.post enc Try.prog Try.f7 false true false false) := by
  refine returnsInHanded_of_change (C := Try.checked) own started (by kernel_rfl) Try.func7
    (ChangeSpec.witness6 (enc := enc) (C := Try.checked) false ⟨#[], #[.int .u64 0, .int .u64 0], []⟩ 8 (by kernel_rfl) (by kernel_rfl) (by kernel_rfl) (by kernel_rfl)) ?_
  intro W base args ds gs before hval0 hW hcnd _
  have hval : ∀ (j : Nat) t v, Try.f7.params[j]? = some t → args[j]? = some v → Value.okWide Try.prog W .any base t v := hval0
  have hW' := hW
  obtain ⟨p, q, hA0, hV, rfl, hfz, hnd⟩ := hW
  have hA : DataW.TrodAll enc Try.prog W 0 (fun _ => true) true Try.f7.params.toList args.toList ds p := hA0
  rw [Try.params7] at hA hval
  obtain ⟨v0, v1, d0, d1, p0, p1, rfl, rfl, rfl, h0, h1⟩ := trodAll_two hA
  obtain ⟨rfl, rfl⟩ := trodVars_none hV
  obtain ⟨x0, rfl, rfl, rfl, w0⟩ := open_int Try.underlying22 (hval 0 22 v0 rfl rfl) h0
  obtain ⟨x1, rfl, rfl, rfl, w1⟩ := open_int Try.underlying22 (hval 1 22 v1 rfl rfl) h1
  clear hA0 hval0
  simp only [List.append_nil] at hW'
  refine (walk x0 x1 (u64_bounds w0) (u64_bounds w1) W).mono fun e W' ⟨he, hg⟩ => ?_
  subst he
  exact ⟨_, rfl, post_of_same (pa := []) (pv := []) hW' (fun _ _ _ => trodAll_mk1 (shut_bool Try.underlying4 _))
    (fun sp _ => trodAll_mk2 (shut_int Try.underlying22 w0) (shut_int Try.underlying22 w1)) (fun _ _ => rfl) rfl
    (hg.1.frame _) (tidy_frozen hg) (ok_one (by kernel_rfl) rfl (okWide_bool_mk Try.underlying4 _))⟩

theorem proved : Rows.WholeSignsSaid :=
  OpenClaim.holds_of_wide 7 Try.f7 rfl rfl rfl rfl rfl rfl rfl ⟨rfl, rfl, rfl, rfl, rfl⟩ rfl rfl rfl rfl rfl (by kernel_rfl) Try.func7 (by kernel_rfl)
    (of_decide_eq_true (by kernel_rfl)) (by unfold Func.isWrapper; first | (rw [if_pos (by decide +kernel)]; kernel_rfl) | (rw [if_neg (by decide +kernel)]; exact ⟨rfl, rfl⟩))
    (fun os started H enc _ => lifted os started H enc)
end Go.Proofs.Ytbcpnpchioncbaa.wholeSigns
