/-
  PROVED HERE: for every input the law tillerlaw07.QuotSides returns true, and each argument reads afterwards as it read before: a quotient lies between that by Down and that by Up, which are the same or neighbours, and every mode answers one of these; Inexact just where they are not the same. No condition.
-/
import Derived.Test.YtnolcojnodoecaaG37
import Derived.Test.YtnolcojnodoecaaG38
import Derived.Test.YtnolcojnodoecaaRows
namespace Go.Proofs.Ytnolcojnodoecaa.quotSides
open Go.KRun Go.Pt Go.ChangeShapes Go.WideShapes Go.ChangeAt Go.RowKit Go.Wd Go.Rn
set_option linter.unusedVariables false

theorem qs_nan (a b m : Int) : Fits (reckon (tabOf Try.prog extY conL7 true) 300 7 [.int .u64 a, .int .u64 b, .int .i64 m] [cmp true, cmp true, cmp true, cmp true]) (.bool true) [(quF 4 (bNot a 9223372036854775808) (bNot b 9223372036854775808) == quF 3 (bNot a 9223372036854775808) (bNot b 9223372036854775808), true), (quP m (bNot a 9223372036854775808) (bNot b 9223372036854775808) == quP 4 (bNot a 9223372036854775808) (bNot b 9223372036854775808), true), (quP 4 (bNot a 9223372036854775808) (bNot b 9223372036854775808) == quP 3 (bNot a 9223372036854775808) (bNot b 9223372036854775808), true), (quP 4 (bNot a 9223372036854775808) (bNot b 9223372036854775808) == 9221120237041090560, true), (decide (U (bNot a 9223372036854775808) ∧ U (bNot b 9223372036854775808)), true), (decide (U (bNot a 9223372036854775808) ∧ U (bNot b 9223372036854775808)), true), (decide (U (bNot a 9223372036854775808) ∧ U (bNot b 9223372036854775808)), true)] := ⟨by kernel_rfl, by kernel_rfl, by kernel_rfl, by kernel_rfl⟩
theorem qs_eq (a b m : Int) : Fits (reckon (tabOf Try.prog extY conL7 true) 300 7 [.int .u64 a, .int .u64 b, .int .i64 m] [cmp false, cmp false, cmp true, cmp true, cmp false, cmp false, cmp false, cmp false, cmp false, cmp false]) (.bool true) [(quP 3 (bNot a 9223372036854775808) (bNot b 9223372036854775808) != quP 4 (bNot a 9223372036854775808) (bNot b 9223372036854775808), false), (f16' (quF m (bNot a 9223372036854775808) (bNot b 9223372036854775808)) != 0, false), (quP 3 (bNot a 9223372036854775808) (bNot b 9223372036854775808) != quP 4 (bNot a 9223372036854775808) (bNot b 9223372036854775808), false), (f16' (quF 3 (bNot a 9223372036854775808) (bNot b 9223372036854775808)) != 0, false), (quP 3 (bNot a 9223372036854775808) (bNot b 9223372036854775808) != quP 4 (bNot a 9223372036854775808) (bNot b 9223372036854775808), false), (f16' (quF 4 (bNot a 9223372036854775808) (bNot b 9223372036854775808)) != 0, false), (quP 3 (bNot a 9223372036854775808) (bNot b 9223372036854775808) == quP 4 (bNot a 9223372036854775808) (bNot b 9223372036854775808), true), (quP m (bNot a 9223372036854775808) (bNot b 9223372036854775808) == quP 4 (bNot a 9223372036854775808) (bNot b 9223372036854775808), true), (quP 3 (bNot a 9223372036854775808) (bNot b 9223372036854775808) == 9221120237041090560, false), (quP 4 (bNot a 9223372036854775808) (bNot b 9223372036854775808) == 9221120237041090560, false), (decide (U (bNot a 9223372036854775808) ∧ U (bNot b 9223372036854775808)), true), (decide (U (bNot a 9223372036854775808) ∧ U (bNot b 9223372036854775808)), true), (decide (U (bNot a 9223372036854775808) ∧ U (bNot b 9223372036854775808)), true)] := ⟨by kernel_rfl, by kernel_rfl, by kernel_rfl, by kernel_rfl⟩
theorem qs_lo (a b m : Int) : Fits (reckon (tabOf Try.prog extY conL7 true) 300 7 [.int .u64 a, .int .u64 b, .int .i64 m] [cmp false, cmp false, cmp true, cmp false, cmp true, cmp true, cmp true, cmp true, cmp true, cmp true, cmp true]) (.bool true) [(quP 3 (bNot a 9223372036854775808) (bNot b 9223372036854775808) != quP 4 (bNot a 9223372036854775808) (bNot b 9223372036854775808), true), (f16' (quF m (bNot a 9223372036854775808) (bNot b 9223372036854775808)) != 0, true), (quP 3 (bNot a 9223372036854775808) (bNot b 9223372036854775808) != quP 4 (bNot a 9223372036854775808) (bNot b 9223372036854775808), true), (f16' (quF 3 (bNot a 9223372036854775808) (bNot b 9223372036854775808)) != 0, true), (quP 3 (bNot a 9223372036854775808) (bNot b 9223372036854775808) != quP 4 (bNot a 9223372036854775808) (bNot b 9223372036854775808), true), (f16' (quF 4 (bNot a 9223372036854775808) (bNot b 9223372036854775808)) != 0, true), (quP 3 (bNot a 9223372036854775808) (bNot b 9223372036854775808) == IntKind.u64.wrap (quP 4 (bNot a 9223372036854775808) (bNot b 9223372036854775808) + 1), true), (quP 3 (bNot a 9223372036854775808) (bNot b 9223372036854775808) == quP 4 (bNot a 9223372036854775808) (bNot b 9223372036854775808), false), (quP m (bNot a 9223372036854775808) (bNot b 9223372036854775808) == quP 4 (bNot a 9223372036854775808) (bNot b 9223372036854775808), true), (quP 3 (bNot a 9223372036854775808) (bNot b 9223372036854775808) == 9221120237041090560, false), (quP 4 (bNot a 9223372036854775808) (bNot b 9223372036854775808) == 9221120237041090560, false), (decide (U (bNot a 9223372036854775808) ∧ U (bNot b 9223372036854775808)), true), (decide (U (bNot a 9223372036854775808) ∧ U (bNot b 9223372036854775808)), true), (decide (U (bNot a 9223372036854775808) ∧ U (bNot b 9223372036854775808)), true)] := ⟨by kernel_rfl, by kernel_rfl, by kernel_rfl, by kernel_rfl⟩
theorem qs_hi (a b m : Int) : Fits (reckon (tabOf Try.prog extY conL7 true) 300 7 [.int .u64 a, .int .u64 b, .int .i64 m] [cmp false, cmp false, cmp false, cmp true, cmp false, cmp true, cmp true, cmp true, cmp true, cmp true, cmp true, cmp true]) (.bool true) [(quP 3 (bNot a 9223372036854775808) (bNot b 9223372036854775808) != quP 4 (bNot a 9223372036854775808) (bNot b 9223372036854775808), true), (f16' (quF m (bNot a 9223372036854775808) (bNot b 9223372036854775808)) != 0, true), (quP 3 (bNot a 9223372036854775808) (bNot b 9223372036854775808) != quP 4 (bNot a 9223372036854775808) (bNot b 9223372036854775808), true), (f16' (quF 3 (bNot a 9223372036854775808) (bNot b 9223372036854775808)) != 0, true), (quP 3 (bNot a 9223372036854775808) (bNot b 9223372036854775808) != quP 4 (bNot a 9223372036854775808) (bNot b 9223372036854775808), true), (f16' (quF 4 (bNot a 9223372036854775808) (bNot b 9223372036854775808)) != 0, true), (quP 3 (bNot a 9223372036854775808) (bNot b 9223372036854775808) == IntKind.u64.wrap (quP 4 (bNot a 9223372036854775808) (bNot b 9223372036854775808) + 1), true), (quP 3 (bNot a 9223372036854775808) (bNot b 9223372036854775808) == quP 4 (bNot a 9223372036854775808) (bNot b 9223372036854775808), false), (quP m (bNot a 9223372036854775808) (bNot b 9223372036854775808) == quP 3 (bNot a 9223372036854775808) (bNot b 9223372036854775808), true), (quP m (bNot a 9223372036854775808) (bNot b 9223372036854775808) == quP 4 (bNot a 9223372036854775808) (bNot b 9223372036854775808), false), (quP 3 (bNot a 9223372036854775808) (bNot b 9223372036854775808) == 9221120237041090560, false), (quP 4 (bNot a 9223372036854775808) (bNot b 9223372036854775808) == 9221120237041090560, false), (decide (U (bNot a 9223372036854775808) ∧ U (bNot b 9223372036854775808)), true), (decide (U (bNot a 9223372036854775808) ∧ U (bNot b 9223372036854775808)), true), (decide (U (bNot a 9223372036854775808) ∧ U (bNot b 9223372036854775808)), true)] := ⟨by kernel_rfl, by kernel_rfl, by kernel_rfl, by kernel_rfl⟩

theorem walk (a b m : Int) (ha : U a) (hb : U b) (w : World) : Calls Try.prog 7 #[.int .u64 a, .int .u64 b, .int .i64 m] w fun e w' => e = .returned (.bool true) ∧ Tidy w w' := by
  have hv : ([.int .u64 a, .int .u64 b, .int .i64 m].all (lt 0)) = true := rfl
  have T := tabY_ok conL7_ok
  have ea := bNot_mag ha
  have eb := bNot_mag hb
  obtain ⟨a1, a2, _⟩ := mag_parts a
  obtain ⟨b1, b2, _⟩ := mag_parts b
  have kU : decide (U (bNot a 9223372036854775808) ∧ U (bNot b 9223372036854775808)) = true := decide_eq_true ⟨by rw [ea]; exact a2, by rw [eb]; exact b2⟩
  rcases qu_sides (m := m) a1 b1 with hx | ⟨hx, h⟩
  · have hp4 : quP m (mag a) (mag b) = quP 4 (mag a) (mag b) := by rw [(hx m).1, (hx 4).1]
    exact fits_calls T (qs_nan a b m) (okCons (beq_t (by rw [ea, eb, (hx 3).2, (hx 4).2])) (okCons (beq_t (by rw [ea, eb]; exact hp4)) (okCons (beq_t (by rw [ea, eb, (hx 3).1, (hx 4).1])) (okCons (beq_t (by rw [ea, eb]; exact (hx 4).1)) (okCons kU (okCons kU (okL1 kU))))))) hv (by rfl) w
  rcases h with h | ⟨h34, h0, h9, hp, hf⟩
  · have hp4 : quP m (mag a) (mag b) = quP 4 (mag a) (mag b) := by rw [(h m).1, (h 4).1]
    have h34 : quP 3 (mag a) (mag b) = quP 4 (mag a) (mag b) := by rw [(h 3).1, (h 4).1]
    have hf : ∀ k, f16' (quF k (mag a) (mag b)) = 0 := fun k => (h k).2
    exact fits_calls T (qs_eq a b m) (okCons (bne_f (by rw [ea, eb]; exact h34)) (okCons (bne_f (by rw [ea, eb]; exact hf m)) (okCons (bne_f (by rw [ea, eb]; exact h34)) (okCons (bne_f (by rw [ea, eb]; exact hf 3)) (okCons (bne_f (by rw [ea, eb]; exact h34)) (okCons (bne_f (by rw [ea, eb]; exact hf 4)) (okCons (beq_t (by rw [ea, eb]; exact h34)) (okCons (beq_t (by rw [ea, eb]; exact hp4)) (okCons (beq_f (by rw [ea, eb]; exact hx 3)) (okCons (beq_f (by rw [ea, eb]; exact hx 4)) (okCons kU (okCons kU (okL1 kU))))))))))))) hv (by rfl) w
  · by_cases hp4 : quP m (mag a) (mag b) = quP 4 (mag a) (mag b)
    · exact fits_calls T (qs_lo a b m) (okCons (bne_t (by rw [ea, eb]; omega)) (okCons (bne_t (by rw [ea, eb]; exact hf m)) (okCons (bne_t (by rw [ea, eb]; omega)) (okCons (bne_t (by rw [ea, eb]; exact hf 3)) (okCons (bne_t (by rw [ea, eb]; omega)) (okCons (bne_t (by rw [ea, eb]; exact hf 4)) (okCons (beq_t (by rw [ea, eb, wrapU' ⟨by omega, by omega⟩]; exact h34)) (okCons (beq_f (by rw [ea, eb]; omega)) (okCons (beq_t (by rw [ea, eb]; exact hp4)) (okCons (beq_f (by rw [ea, eb]; exact hx 3)) (okCons (beq_f (by rw [ea, eb]; exact hx 4)) (okCons kU (okCons kU (okL1 kU)))))))))))))) hv (by rfl) w
    · have hp3 := hp.resolve_left hp4
      exact fits_calls T (qs_hi a b m) (okCons (bne_t (by rw [ea, eb]; omega)) (okCons (bne_t (by rw [ea, eb]; exact hf m)) (okCons (bne_t (by rw [ea, eb]; omega)) (okCons (bne_t (by rw [ea, eb]; exact hf 3)) (okCons (bne_t (by rw [ea, eb]; omega)) (okCons (bne_t (by rw [ea, eb]; exact hf 4)) (okCons (beq_t (by rw [ea, eb, wrapU' ⟨by omega, by omega⟩]; exact h34)) (okCons (beq_f (by rw [ea, eb]; omega)) (okCons (beq_t (by rw [ea, eb]; exact hp3)) (okCons (beq_f (by rw [ea, eb]; exact hp4)) (okCons (beq_f (by rw [ea, eb]; exact hx 3)) (okCons (beq_f (by rw [ea, eb]; exact hx 4)) (okCons kU (okCons kU (okL1 kU))))))))))))))) hv (by rfl) w
theorem own : ownKnob Try.prog.godebug = none := by kernel_rfl
set_option maxRecDepth 100000 in
theorem lifted (os : Os) (started : os.Started) (H : Type) (enc : TypeId × Value → H) :
    ReturnsInHanded {} Try.checked os 7 .any (Rows.quotSidesSpec.pre6 enc Try.prog Try.f7 Rows.quotSidesRow.domain false) (Rows.quotSidesSpec.post enc Try.prog Try.f7 false true false false) := by
  refine returnsInHanded_of_change (C := Try.checked) own started (by kernel_rfl) Try.func7
    (ChangeSpec.witness6 (enc := enc) (C := Try.checked) false ⟨#[], #[.int .u64 0, .int .u64 0, .int .i64 0], []⟩ 8 (by kernel_rfl) (by kernel_rfl) (by kernel_rfl) (by kernel_rfl)) ?_
  intro W base args ds gs before hval0 hW hcnd _
  have hval : ∀ (j : Nat) t v, Try.f7.params[j]? = some t → args[j]? = some v → Value.okWide Try.prog W .any base t v := hval0
  have hW' := hW
  obtain ⟨p, q, hA0, hV, rfl, hfz, hnd⟩ := hW
  have hA : DataW.TrodAll enc Try.prog W 0 (fun _ => true) true Try.f7.params.toList args.toList ds p := hA0
  rw [Try.params7] at hA hval
  obtain ⟨v0, v1, v2, d0, d1, d2, p0, p1, p2, rfl, rfl, rfl, h0, h1, h2⟩ := trodAll_three hA
  obtain ⟨rfl, rfl⟩ := trodVars_none hV
  obtain ⟨x0, rfl, rfl, rfl, w0⟩ := open_int Try.underlying22 (hval 0 22 v0 rfl rfl) h0
  obtain ⟨x1, rfl, rfl, rfl, w1⟩ := open_int Try.underlying22 (hval 1 22 v1 rfl rfl) h1
  obtain ⟨x2, rfl, rfl, rfl, w2⟩ := open_int Try.underlying3 (hval 2 3 v2 rfl rfl) h2
  clear hA0 hval0
  simp only [List.append_nil] at hW'
  refine (walk x0 x1 x2 (u64_bounds w0) (u64_bounds w1) W).mono fun e W' ⟨he, hg⟩ => ?_
  subst he
  exact ⟨_, rfl, post_of_same (pa := []) (pv := []) hW' (fun _ _ _ => trodAll_mk1 (shut_bool Try.underlying4 _))
    (fun sp _ => trodAll_mk3 (shut_int Try.underlying22 w0) (shut_int Try.underlying22 w1) (shut_int Try.underlying3 w2)) (fun _ _ => rfl) rfl
    (hg.1.frame _) (tidy_frozen hg) (ok_one (by kernel_rfl) rfl (okWide_bool_mk Try.underlying4 _))⟩

theorem proved : Rows.QuotSidesSaid :=
  OpenClaim.holds_of_wide 7 Try.f7 rfl rfl rfl rfl rfl rfl rfl ⟨rfl, rfl, rfl, rfl, rfl⟩ rfl rfl rfl rfl rfl (by kernel_rfl) Try.func7 (by kernel_rfl)
    (of_decide_eq_true (by kernel_rfl)) (by unfold Func.isWrapper; first | (rw [if_pos (by decide +kernel)]; kernel_rfl) | (rw [if_neg (by decide +kernel)]; exact ⟨rfl, rfl⟩))
    (fun os started H enc _ => lifted os started H enc)
end Go.Proofs.Ytnolcojnodoecaa.quotSides
