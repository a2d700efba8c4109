/-
  PROVED HERE: for every input the law tillerlaw03.PatSigns returns true, and each argument reads afterwards as it read before: any pattern with the other sign, without it, with another one's. No condition.
-/
import Derived.Test.YtkpmljcpjeeioaaPatB
import Derived.Test.YtkpmljcpjeeioaaRow
import Derived.Test.YtkpmljcpjeeioaaRows
namespace Go.Proofs.Ytkpmljcpjeeioaa.patSigns
open Go.KRun Go.Pt Go.ChangeShapes Go.WideShapes Go.ChangeAt Go.RowKit
set_option linter.unusedVariables false

theorem stt (p q : Int) : Fits (reckon (tabOf Try.prog extY conP true) 3000 4 [.int .u64 p, .int .u64 q] [cmp true, cmp true, cmp false, cmp true, cmp true, cmp true, cmp true, cmp true]) (.bool true) [((bOr (mag p) (bAnd q 9223372036854775808)) == IntKind.u64.wrap (p.tmod 9223372036854775808 + 9223372036854775808), true), (decide (U p), true), (mag p == p.tmod 9223372036854775808, true), (decide ((9223372036854775808 : Int) = 0), false), (decide (U p), true), ((bXor p 9223372036854775808) == IntKind.u64.wrap (p - 9223372036854775808), true), (decide (p ≥ 9223372036854775808), true), (decide (p.tmod 9223372036854775808 ≥ 9223372036854775808), false), (decide (q ≥ 9223372036854775808), true), (decide ((9223372036854775808 : Int) = 0), false)] := ⟨by kernel_rfl, by kernel_rfl, by kernel_rfl, by kernel_rfl⟩
theorem stf (p q : Int) : Fits (reckon (tabOf Try.prog extY conP true) 3000 4 [.int .u64 p, .int .u64 q] [cmp true, cmp true, cmp false, cmp false, cmp true, cmp true, cmp true, cmp true]) (.bool true) [((bOr (mag p) (bAnd q 9223372036854775808)) == IntKind.u64.wrap (p.tmod 9223372036854775808 + 9223372036854775808), true), (decide (U p), true), (mag p == p.tmod 9223372036854775808, true), (decide ((9223372036854775808 : Int) = 0), false), (decide (U p), true), ((bXor p 9223372036854775808) == IntKind.u64.wrap (p + 9223372036854775808), true), (decide (p ≥ 9223372036854775808), false), (decide (p.tmod 9223372036854775808 ≥ 9223372036854775808), false), (decide (q ≥ 9223372036854775808), true), (decide ((9223372036854775808 : Int) = 0), false)] := ⟨by kernel_rfl, by kernel_rfl, by kernel_rfl, by kernel_rfl⟩
theorem sft (p q : Int) : Fits (reckon (tabOf Try.prog extY conP true) 3000 4 [.int .u64 p, .int .u64 q] [cmp true, cmp false, cmp true, cmp true, cmp true, cmp true, cmp true]) (.bool true) [((bOr (mag p) (bAnd q 9223372036854775808)) == p.tmod 9223372036854775808, true), (decide (U p), true), (mag p == p.tmod 9223372036854775808, true), (decide ((9223372036854775808 : Int) = 0), false), (decide (U p), true), ((bXor p 9223372036854775808) == IntKind.u64.wrap (p - 9223372036854775808), true), (decide (p ≥ 9223372036854775808), true), (decide (q ≥ 9223372036854775808), false), (decide ((9223372036854775808 : Int) = 0), false)] := ⟨by kernel_rfl, by kernel_rfl, by kernel_rfl, by kernel_rfl⟩
theorem sff (p q : Int) : Fits (reckon (tabOf Try.prog extY conP true) 3000 4 [.int .u64 p, .int .u64 q] [cmp true, cmp false, cmp false, cmp true, cmp true, cmp true, cmp true]) (.bool true) [((bOr (mag p) (bAnd q 9223372036854775808)) == p.tmod 9223372036854775808, true), (decide (U p), true), (mag p == p.tmod 9223372036854775808, true), (decide ((9223372036854775808 : Int) = 0), false), (decide (U p), true), ((bXor p 9223372036854775808) == IntKind.u64.wrap (p + 9223372036854775808), true), (decide (p ≥ 9223372036854775808), false), (decide (q ≥ 9223372036854775808), false), (decide ((9223372036854775808 : Int) = 0), false)] := ⟨by kernel_rfl, by kernel_rfl, by kernel_rfl, by kernel_rfl⟩

theorem walk (p q : Int) (hp : U p) (hq : U q) (w : World) : Calls Try.prog 4 #[.int .u64 p, .int .u64 q] w fun e w' => e = .returned (.bool true) ∧ Tidy w w' := by
  have hu : decide (U p) = true := decide_eq_true hp
  have hx := bXor_sign hp
  have ha := bAnd_sign hq
  have em : mag p = p % 9223372036854775808 := rfl
  have et : p.tmod 9223372036854775808 = p % 9223372036854775808 := Int.tmod_eq_emod_of_nonneg hp.1
  have eo : bOr (p % 9223372036854775808) (9223372036854775808 * (q / 9223372036854775808 % 2)) = 9223372036854775808 * (q / 9223372036854775808 % 2) + p % 9223372036854775808 :=
    or_low 63 (z := q / 9223372036854775808 % 2) (by omega) (by rfl) (by omega) (show p % 9223372036854775808 < 2 ^ 63 by omega) (by omega)
  have hm : decide (p % 9223372036854775808 ≥ 9223372036854775808) = false := decide_eq_false (by omega)
  have hz : decide ((9223372036854775808 : Int) = 0) = false := rfl
  unfold U at hp hq
  by_cases h1 : q ≥ 9223372036854775808
  · have d1 : decide (q ≥ 9223372036854775808) = true := decide_eq_true h1
    have w1 : IntKind.u64.wrap (p % 9223372036854775808 + 9223372036854775808) = p % 9223372036854775808 + 9223372036854775808 := wrapU' ⟨by omega, by omega⟩
    by_cases h2 : p ≥ 9223372036854775808
    · have d2 : decide (p ≥ 9223372036854775808) = true := decide_eq_true h2
      refine fits_calls (tabY_ok conP_ok) (stt p q) ?_ (by rfl) (by rfl) w
      simp only [okCs, okNl, hu, hx, ha, em, et, eo, hm, hz, d1, d2, w1, wrapU, beq_iff_eq, and_true, true_and]
      omega
    · have d2 : decide (p ≥ 9223372036854775808) = false := decide_eq_false h2
      refine fits_calls (tabY_ok conP_ok) (stf p q) ?_ (by rfl) (by rfl) w
      simp only [okCs, okNl, hu, hx, ha, em, et, eo, hm, hz, d1, d2, w1, wrapU, beq_iff_eq, and_true]
      omega
  · have d1 : decide (q ≥ 9223372036854775808) = false := decide_eq_false h1
    by_cases h2 : p ≥ 9223372036854775808
    · have d2 : decide (p ≥ 9223372036854775808) = true := decide_eq_true h2
      refine fits_calls (tabY_ok conP_ok) (sft p q) ?_ (by rfl) (by rfl) w
      simp only [okCs, okNl, hu, hx, ha, em, et, eo, hz, d1, d2, wrapU, beq_iff_eq, and_true, true_and]
      omega
    · have d2 : decide (p ≥ 9223372036854775808) = false := decide_eq_false h2
      refine fits_calls (tabY_ok conP_ok) (sff p q) ?_ (by rfl) (by rfl) w
      simp only [okCs, okNl, hu, hx, ha, em, et, eo, hz, d1, d2, wrapU, beq_iff_eq, and_true]
      omega

theorem own : ownKnob Try.prog.godebug = none := by kernel_rfl
set_option maxRecDepth 100000 in
theorem lifted (os : Os) (started : os.Started) (H : Type) (enc : TypeId × Value → H) :
    ReturnsInHanded {} Try.checked os 4 .any (Rows.patSignsSpec.pre6 enc Try.prog Try.f4 Rows.patSignsRow.domain false) (Rows.patSignsSpec.post enc Try.prog Try.f4 false true false false) := by
  refine returnsInHanded_of_change (C := Try.checked) own started (by kernel_rfl) Try.func4
    (ChangeSpec.witness6 (enc := enc) (C := Try.checked) false ⟨#[], #[.int .u64 0, .int .u64 0], []⟩ 8 (by kernel_rfl) (by kernel_rfl) (by kernel_rfl) (by kernel_rfl)) ?_
  intro W base args ds gs before hval0 hW hcnd _
  have hval : ∀ (j : Nat) t v, Try.f4.params[j]? = some t → args[j]? = some v → Value.okWide Try.prog W .any base t v := hval0
  have hW' := hW
  obtain ⟨p, q, hA0, hV, rfl, hfz, hnd⟩ := hW
  have hA : DataW.TrodAll enc Try.prog W 0 (fun _ => true) true Try.f4.params.toList args.toList ds p := hA0
  rw [Try.params4] at hA hval
  obtain ⟨v0, v1, d0, d1, p0, p1, rfl, rfl, rfl, h0, h1⟩ := trodAll_two hA
  obtain ⟨rfl, rfl⟩ := trodVars_none hV
  obtain ⟨x, rfl, rfl, rfl, wx⟩ := open_int Try.underlying22 (hval 0 22 v0 rfl rfl) h0
  obtain ⟨y, rfl, rfl, rfl, wy⟩ := open_int Try.underlying22 (hval 1 22 v1 rfl rfl) h1
  clear hA0 hval0
  simp only [List.append_nil] at hW'
  refine (walk x y (u64_bounds wx) (u64_bounds wy) W).mono fun e W' ⟨he, hg⟩ => ?_
  subst he
  exact ⟨_, rfl, post_of_same (pa := []) (pv := []) hW' (fun _ _ _ => trodAll_mk1 (shut_bool Try.underlying4 _)) (fun sp _ => trodAll_mk2 (shut_int Try.underlying22 wx) (shut_int Try.underlying22 wy)) (fun _ _ => rfl) rfl
    (hg.1.frame _) (tidy_frozen hg) (ok_one (by kernel_rfl) rfl (okWide_bool_mk Try.underlying4 _))⟩

theorem proved : Rows.PatSignsSaid :=
  OpenClaim.holds_of_wide 4 Try.f4 rfl rfl rfl rfl rfl rfl rfl ⟨rfl, rfl, rfl, rfl, rfl⟩ rfl rfl rfl rfl rfl (by kernel_rfl) Try.func4 (by kernel_rfl)
    (of_decide_eq_true (by kernel_rfl)) (by unfold Func.isWrapper; first | (rw [if_pos (by decide +kernel)]; kernel_rfl) | (rw [if_neg (by decide +kernel)]; exact ⟨rfl, rfl⟩))
    (fun os started H enc _ => lifted os started H enc)
end Go.Proofs.Ytkpmljcpjeeioaa.patSigns
