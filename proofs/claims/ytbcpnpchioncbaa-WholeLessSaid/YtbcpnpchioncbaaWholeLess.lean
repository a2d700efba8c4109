/-
  PROVED HERE: for every input the law tillerlaw08.WholeLess returns true, and each argument reads afterwards as it read before: a rest of finite patterns, not by 0, needs no flags; its size is less than that of what was divided by, of the nearest quotient at most half of it; it has the first one's sign, if it is cut. No condition.
-/
import Derived.Test.YtbcpnpchioncbaaG37
import Derived.Test.YtbcpnpchioncbaaG38
import Derived.Test.YtbcpnpchioncbaaRows
namespace Go.Proofs.Ytbcpnpchioncbaa.wholeLess
open Go.KRun Go.Pt Go.ChangeShapes Go.WideShapes Go.ChangeAt Go.RowKit Go.Wd Go.Rn
set_option linter.unusedVariables false

theorem ls_a (a b : Int) : Fits (reckon (tabOf Try.prog extY conL8 true) 400 5 [.int .u64 a, .int .u64 b] [cmp false]) (.bool true) [(decide (cl a < 3), false), lU a] := ⟨by kernel_rfl, by kernel_rfl, by kernel_rfl, by kernel_rfl⟩
theorem ls_b (a b : Int) : Fits (reckon (tabOf Try.prog extY conL8 true) 400 5 [.int .u64 a, .int .u64 b] [cmp true, cmp false]) (.bool true) [(decide (cl b < 3), false), lU b, (decide (cl a < 3), true), lU a] := ⟨by kernel_rfl, by kernel_rfl, by kernel_rfl, by kernel_rfl⟩
theorem ls_z (a b : Int) : Fits (reckon (tabOf Try.prog extY conL8 true) 400 5 [.int .u64 a, .int .u64 b] [cmp true, cmp true, cmp true]) (.bool true) [((bNot b 9223372036854775808) == 0, true), (decide (cl b < 3), true), lU b, (decide (cl a < 3), true), lU a] := ⟨by kernel_rfl, by kernel_rfl, by kernel_rfl, by kernel_rfl⟩
theorem ls_t (a b : Int) : Fits (reckon (tabOf Try.prog extY conL8 true) 400 5 [.int .u64 a, .int .u64 b] [cmp true, cmp true, cmp false, cmp false, cmp false, cmp false, cmp false, cmp false, cmp true, cmp true]) (.bool true) [(decide (IntKind.u64.wrap (2 * (bNot (reP a b) 9223372036854775808)) ≤ (bNot b 9223372036854775808)), true), ((bAnd ((reP a b).fdiv (2 ^ min (Int.toNat 52) 64)) 2047) == 0, true), (decide ((52 : Int) < 0), false), (decide ((bNot (reP a b) 9223372036854775808) ≥ (bNot b 9223372036854775808)), false), (decide ((bNot (moP a b) 9223372036854775808) ≥ (bNot b 9223372036854775808)), false), ((bAnd (moP a b) 9223372036854775808) != (bAnd a 9223372036854775808), false), (moF a b != 0, false), (moF a b != 0, false), (true, true), (decide (U a ∧ U b), true), (true, true), (decide (U a ∧ U b), true), ((bNot b 9223372036854775808) == 0, false), (decide (cl b < 3), true), lU b, (decide (cl a < 3), true), lU a] := ⟨by kernel_rfl, by kernel_rfl, by kernel_rfl, by kernel_rfl⟩
theorem ls_f (a b : Int) : Fits (reckon (tabOf Try.prog extY conL8 true) 400 5 [.int .u64 a, .int .u64 b] [cmp true, cmp true, cmp false, cmp false, cmp false, cmp false, cmp false, cmp false, cmp false, cmp true]) (.bool true) [(decide (IntKind.u64.wrap ((bNot (reP a b) 9223372036854775808) + 4503599627370496) ≤ (bNot b 9223372036854775808)), true), ((bAnd ((reP a b).fdiv (2 ^ min (Int.toNat 52) 64)) 2047) == 0, false), (decide ((52 : Int) < 0), false), (decide ((bNot (reP a b) 9223372036854775808) ≥ (bNot b 9223372036854775808)), false), (decide ((bNot (moP a b) 9223372036854775808) ≥ (bNot b 9223372036854775808)), false), ((bAnd (moP a b) 9223372036854775808) != (bAnd a 9223372036854775808), false), (moF a b != 0, false), (moF a b != 0, false), (true, true), (decide (U a ∧ U b), true), (true, true), (decide (U a ∧ U b), true), ((bNot b 9223372036854775808) == 0, false), (decide (cl b < 3), true), lU b, (decide (cl a < 3), true), lU a] := ⟨by kernel_rfl, by kernel_rfl, by kernel_rfl, by kernel_rfl⟩

theorem sign_and {p q : Int} (hp : U p) (hq : U q) (h : sgn p = sgn q) : bAnd p 9223372036854775808 = bAnd q 9223372036854775808 := by
  have h' := decide_eq_decide.1 h
  rw [bAnd_sign hp, bAnd_sign hq]
  unfold U at hp hq
  omega
theorem mag_zero {p : Int} (h : cl p = 0) : mag p = 0 := by
  have e := mag_eq p
  unfold cl at h
  split at h
  · rename_i h3
    split at h
    · rename_i h4; omega
    · omega
  · split at h
    · split at h
      · omega
      · split at h <;> omega
    · omega
theorem walk (a b : Int) (ha : U a) (hb : U b) (w : World) : Calls Try.prog 5 #[.int .u64 a, .int .u64 b] w fun e w' => e = .returned (.bool true) ∧ Tidy w w' := by
  have hv : ([.int .u64 a, .int .u64 b].all (lt 0)) = true := rfl
  have T := tabY_ok conL8_ok
  have ka : decide (U a) = true := decide_eq_true ha
  have kb : decide (U b) = true := decide_eq_true hb
  have kab : decide (U a ∧ U b) = true := decide_eq_true ⟨ha, hb⟩
  have eB := bNot_mag hb
  by_cases ca : cl a < 3
  case neg => exact fits_calls T (ls_a a b) (okCons (decide_eq_false (by omega)) (okL1 ka)) hv (by rfl) w
  by_cases cb : cl b < 3
  case neg => exact fits_calls T (ls_b a b) (okCons (decide_eq_false (by omega)) (okCons kb (okCons (decide_eq_true (by omega)) (okL1 ka)))) hv (by rfl) w
  by_cases hz : mag b = 0
  · exact fits_calls T (ls_z a b) (okCons (beq_t (by rw [eB]; exact hz)) (okCons (decide_eq_true (by omega)) (okCons kb (okCons (decide_eq_true (by omega)) (okL1 ka))))) hv (by rfl) w
  have cz : cl b ≠ 0 := fun h => hz (mag_zero h)
  have nz : sg b ≠ 0 := fun h0 => cz ((sg_zero (p := b) (by omega)).1 h0)
  have fb := fin_ex (p := b) (by omega)
  have mb := fin_mag (p := b) (by omega)
  obtain ⟨e1, e2, e3⟩ := rest_fin (a := a) (b := b) (by omega) (by omega) cz
  obtain ⟨_, _, r0, r1, _⟩ := rm_num (a := a) nz fb 0 false
  obtain ⟨_, _, m0, m1, _⟩ := md_num (a := a) nz fb 0 false
  have tw := rm_twice (a := a) nz fb
  obtain ⟨sr1, _, sr3, _⟩ := sS_mag (n := sgn a != rsB a b) r0 (by omega)
  obtain ⟨sm1, sm2, sm3, _⟩ := sS_mag (n := sgn a) m0 (by omega)
  rw [← e2] at sr1 sr3
  rw [← e1] at sm1 sm2 sm3
  have eR : bNot (reP a b) 9223372036854775808 = rmP a b := by rw [bNot_mag sr3, sr1]
  have eM : bNot (moP a b) 9223372036854775808 = mdP a b := by rw [bNot_mag sm3, sm1]
  have eS := sign_and sm3 ha sm2
  have eX : bAnd ((reP a b).fdiv (2 ^ min (Int.toNat 52) 64)) 2047 = rmP a b / 4503599627370496 % 2048 := by
    have e : ((2 : Int) ^ min (Int.toNat 52) 64) = 4503599627370496 := by decide
    have hx : reP a b / 4503599627370496 % 2048 = mag (reP a b) / 4503599627370496 % 2048 := by unfold mag; omega
    rw [e, Int.fdiv_eq_ediv_of_nonneg _ (by omega), bAnd_exp (by unfold U at *; omega), hx, sr1]
  unfold tw2 at tw
  by_cases hx : rmP a b / 4503599627370496 % 2048 = 0
  · rw [if_pos hx] at tw
    exact fits_calls T (ls_t a b) (okCons (decide_eq_true (by rw [eR, eB, wrapU' ⟨by omega, by omega⟩]; omega)) (okCons (beq_t (by rw [eX]; exact hx)) (okCons (by decide) (okCons (decide_eq_false (by rw [eR, eB]; omega)) (okCons (decide_eq_false (by rw [eM, eB]; omega)) (okCons (bne_f eS) (okCons (bne_f e3) (okCons (bne_f e3) (okCons rfl (okCons kab (okCons rfl (okCons kab (okCons (beq_f (by rw [eB]; exact hz)) (okCons (decide_eq_true (by omega)) (okCons kb (okCons (decide_eq_true (by omega)) (okL1 ka))))))))))))))))) hv (by rfl) w
  · rw [if_neg hx] at tw
    exact fits_calls T (ls_f a b) (okCons (decide_eq_true (by rw [eR, eB, wrapU' ⟨by omega, by omega⟩]; omega)) (okCons (beq_f (by rw [eX]; exact hx)) (okCons (by decide) (okCons (decide_eq_false (by rw [eR, eB]; omega)) (okCons (decide_eq_false (by rw [eM, eB]; omega)) (okCons (bne_f eS) (okCons (bne_f e3) (okCons (bne_f e3) (okCons rfl (okCons kab (okCons rfl (okCons kab (okCons (beq_f (by rw [eB]; exact hz)) (okCons (decide_eq_true (by omega)) (okCons kb (okCons (decide_eq_true (by omega)) (okL1 ka))))))))))))))))) hv (by rfl) w
theorem own : ownKnob Try.prog.godebug = none := by kernel_rfl
set_option maxRecDepth 100000 in
theorem lifted (os : Os) (started : os.Started) (H : Type) (enc : TypeId × Value → H) :
    ReturnsInHanded {} Try.checked os 5 .any (Rows.wholeLessSpec.pre6 enc Try.prog Try.f5 Rows.wholeLessRow.domain false) (Rows.wholeLessSpec.post enc Try.prog Try.f5 false true false false) := by
  refine returnsInHanded_of_change (C := Try.checked) own started (by kernel_rfl) Try.func5
    (ChangeSpec.witness6 (enc := enc) (C := Try.checked) false ⟨#[], #[.int .u64 0, .int .u64 0], []⟩ 8 (by kernel_rfl) (by kernel_rfl) (by kernel_rfl) (by kernel_rfl)) ?_
  intro W base args ds gs before hval0 hW hcnd _
  have hval : ∀ (j : Nat) t v, Try.f5.params[j]? = some t → args[j]? = some v → Value.okWide Try.prog W .any base t v := hval0
  have hW' := hW
  obtain ⟨p, q, hA0, hV, rfl, hfz, hnd⟩ := hW
  have hA : DataW.TrodAll enc Try.prog W 0 (fun _ => true) true Try.f5.params.toList args.toList ds p := hA0
  rw [Try.params5] at hA hval
  obtain ⟨v0, v1, d0, d1, p0, p1, rfl, rfl, rfl, h0, h1⟩ := trodAll_two hA
  obtain ⟨rfl, rfl⟩ := trodVars_none hV
  obtain ⟨x0, rfl, rfl, rfl, w0⟩ := open_int Try.underlying22 (hval 0 22 v0 rfl rfl) h0
  obtain ⟨x1, rfl, rfl, rfl, w1⟩ := open_int Try.underlying22 (hval 1 22 v1 rfl rfl) h1
  clear hA0 hval0
  simp only [List.append_nil] at hW'
  refine (walk x0 x1 (u64_bounds w0) (u64_bounds w1) W).mono fun e W' ⟨he, hg⟩ => ?_
  subst he
  exact ⟨_, rfl, post_of_same (pa := []) (pv := []) hW' (fun _ _ _ => trodAll_mk1 (shut_bool Try.underlying4 _))
    (fun sp _ => trodAll_mk2 (shut_int Try.underlying22 w0) (shut_int Try.underlying22 w1)) (fun _ _ => rfl) rfl
    (hg.1.frame _) (tidy_frozen hg) (ok_one (by kernel_rfl) rfl (okWide_bool_mk Try.underlying4 _))⟩

theorem proved : Rows.WholeLessSaid :=
  OpenClaim.holds_of_wide 5 Try.f5 rfl rfl rfl rfl rfl rfl rfl ⟨rfl, rfl, rfl, rfl, rfl⟩ rfl rfl rfl rfl rfl (by kernel_rfl) Try.func5 (by kernel_rfl)
    (of_decide_eq_true (by kernel_rfl)) (by unfold Func.isWrapper; first | (rw [if_pos (by decide +kernel)]; kernel_rfl) | (rw [if_neg (by decide +kernel)]; exact ⟨rfl, rfl⟩))
    (fun os started H enc _ => lifted os started H enc)
end Go.Proofs.Ytbcpnpchioncbaa.wholeLess
