/-
  PROVED HERE: for every input the law tillerlaw09.ScaleBack returns true, and each argument reads afterwards as it read before: the neighbour of a neighbour is the number; what is scaled up, and down again, where nothing is lost, is it. No condition.
-/
import Derived.Test.YtehfjljnaencjaaG18
import Derived.Test.YtehfjljnaencjaaG19
import Derived.Test.YtehfjljnaencjaaRows
namespace Go.Proofs.Ytehfjljnaencjaa.scaleBack
open Go.KRun Go.Pt Go.ChangeShapes Go.WideShapes Go.ChangeAt Go.RowKit Go.Wd Go.Rn
set_option linter.unusedVariables false

def k9 (n : Int) : Int := IntKind.i64.wrap ((IntKind.u64.wrap n).tmod 60)
def orF (x y : Int) : Int := IntKind.u8.wrap (BitVec.ofInt 8 x ||| BitVec.ofInt 8 y).toNat
theorem sb_n (a n : Int) : Fits (reckon (tabOf Try.prog extY conG9 true) 400 6 [.int .u64 a, .int .i64 n] [cmp true, cmp true, cmp true]) (.bool true) [(upF a == orF (upF (upP a)) (upF a), true), (upP a == 9221120237041090560, true), (decide ((bNot a 9223372036854775808) > 9218868437227405312), true), (decide (U (upP a)), true), lU a] := ⟨by kernel_rfl, by kernel_rfl, by kernel_rfl, by kernel_rfl⟩
theorem sb_z0 (a n : Int) : Fits (reckon (tabOf Try.prog extY conG9 true) 400 6 [.int .u64 a, .int .i64 n] [cmp false, cmp false, cmp false, cmp false, cmp false, cmp true]) (.bool true) [(scaF 0 a (k9 n) != 0, true), (decide (U (scaP 0 a (k9 n))), true), lU a, (decide ((60 : Int) = 0), false), ((bNot a 9223372036854775808) != 0, false), (upF (upP a) != 0, false), (upF a != 0, false), (decide ((bNot a 9223372036854775808) > 9218868437227405312), false), (decide (U (upP a)), true), lU a] := ⟨by kernel_rfl, by kernel_rfl, by kernel_rfl, by kernel_rfl⟩
theorem sb_z1 (a n : Int) : Fits (reckon (tabOf Try.prog extY conG9 true) 400 6 [.int .u64 a, .int .i64 n] [cmp false, cmp false, cmp false, cmp false, cmp false, cmp false, cmp true, cmp true]) (.bool true) [(scaP 0 (scaP 0 a (k9 n)) (IntKind.i64.wrap (0 - k9 n)) == a, true), (scaF 0 (scaP 0 a (k9 n)) (IntKind.i64.wrap (0 - k9 n)) == 0, true), (scaF 0 a (k9 n) != 0, false), (decide (U (scaP 0 a (k9 n))), true), lU a, (decide ((60 : Int) = 0), false), ((bNot a 9223372036854775808) != 0, false), (upF (upP a) != 0, false), (upF a != 0, false), (decide ((bNot a 9223372036854775808) > 9218868437227405312), false), (decide (U (upP a)), true), lU a] := ⟨by kernel_rfl, by kernel_rfl, by kernel_rfl, by kernel_rfl⟩
theorem sb_i0 (a n : Int) : Fits (reckon (tabOf Try.prog extY conG9 true) 400 6 [.int .u64 a, .int .i64 n] [cmp false, cmp false, cmp false, cmp true, cmp false, cmp false, cmp true]) (.bool true) [(scaF 0 a (k9 n) != 0, true), (decide (U (scaP 0 a (k9 n))), true), lU a, (decide ((60 : Int) = 0), false), ((bNot a 9223372036854775808) != 9218868437227405312, false), ((bNot a 9223372036854775808) != 0, true), (upF (upP a) != 0, false), (upF a != 0, false), (decide ((bNot a 9223372036854775808) > 9218868437227405312), false), (decide (U (upP a)), true), lU a] := ⟨by kernel_rfl, by kernel_rfl, by kernel_rfl, by kernel_rfl⟩
theorem sb_i1 (a n : Int) : Fits (reckon (tabOf Try.prog extY conG9 true) 400 6 [.int .u64 a, .int .i64 n] [cmp false, cmp false, cmp false, cmp true, cmp false, cmp false, cmp false, cmp true, cmp true]) (.bool true) [(scaP 0 (scaP 0 a (k9 n)) (IntKind.i64.wrap (0 - k9 n)) == a, true), (scaF 0 (scaP 0 a (k9 n)) (IntKind.i64.wrap (0 - k9 n)) == 0, true), (scaF 0 a (k9 n) != 0, false), (decide (U (scaP 0 a (k9 n))), true), lU a, (decide ((60 : Int) = 0), false), ((bNot a 9223372036854775808) != 9218868437227405312, false), ((bNot a 9223372036854775808) != 0, true), (upF (upP a) != 0, false), (upF a != 0, false), (decide ((bNot a 9223372036854775808) > 9218868437227405312), false), (decide (U (upP a)), true), lU a] := ⟨by kernel_rfl, by kernel_rfl, by kernel_rfl, by kernel_rfl⟩
theorem sb_p0 (a n : Int) : Fits (reckon (tabOf Try.prog extY conG9 true) 400 6 [.int .u64 a, .int .i64 n] [cmp false, cmp false, cmp false, cmp true, cmp true, cmp true, cmp false, cmp false, cmp true]) (.bool true) [(scaF 0 a (k9 n) != 0, true), (decide (U (scaP 0 a (k9 n))), true), lU a, (decide ((60 : Int) = 0), false), (dnP (upP a) != a, false), ((bNot (upP a) 9223372036854775808) != 0, true), ((bNot a 9223372036854775808) != 9218868437227405312, true), ((bNot a 9223372036854775808) != 0, true), (upF (upP a) != 0, false), (upF a != 0, false), (decide ((bNot a 9223372036854775808) > 9218868437227405312), false), (decide (U (upP a)), true), lU a] := ⟨by kernel_rfl, by kernel_rfl, by kernel_rfl, by kernel_rfl⟩
theorem sb_p1 (a n : Int) : Fits (reckon (tabOf Try.prog extY conG9 true) 400 6 [.int .u64 a, .int .i64 n] [cmp false, cmp false, cmp false, cmp true, cmp true, cmp true, cmp false, cmp false, cmp false, cmp true, cmp true]) (.bool true) [(scaP 0 (scaP 0 a (k9 n)) (IntKind.i64.wrap (0 - k9 n)) == a, true), (scaF 0 (scaP 0 a (k9 n)) (IntKind.i64.wrap (0 - k9 n)) == 0, true), (scaF 0 a (k9 n) != 0, false), (decide (U (scaP 0 a (k9 n))), true), lU a, (decide ((60 : Int) = 0), false), (dnP (upP a) != a, false), ((bNot (upP a) 9223372036854775808) != 0, true), ((bNot a 9223372036854775808) != 9218868437227405312, true), ((bNot a 9223372036854775808) != 0, true), (upF (upP a) != 0, false), (upF a != 0, false), (decide ((bNot a 9223372036854775808) > 9218868437227405312), false), (decide (U (upP a)), true), lU a] := ⟨by kernel_rfl, by kernel_rfl, by kernel_rfl, by kernel_rfl⟩
theorem sb_q0 (a n : Int) : Fits (reckon (tabOf Try.prog extY conG9 true) 400 6 [.int .u64 a, .int .i64 n] [cmp false, cmp false, cmp false, cmp true, cmp true, cmp false, cmp false, cmp true]) (.bool true) [(scaF 0 a (k9 n) != 0, true), (decide (U (scaP 0 a (k9 n))), true), lU a, (decide ((60 : Int) = 0), false), ((bNot (upP a) 9223372036854775808) != 0, false), ((bNot a 9223372036854775808) != 9218868437227405312, true), ((bNot a 9223372036854775808) != 0, true), (upF (upP a) != 0, false), (upF a != 0, false), (decide ((bNot a 9223372036854775808) > 9218868437227405312), false), (decide (U (upP a)), true), lU a] := ⟨by kernel_rfl, by kernel_rfl, by kernel_rfl, by kernel_rfl⟩
theorem sb_q1 (a n : Int) : Fits (reckon (tabOf Try.prog extY conG9 true) 400 6 [.int .u64 a, .int .i64 n] [cmp false, cmp false, cmp false, cmp true, cmp true, cmp false, cmp false, cmp false, cmp true, cmp true]) (.bool true) [(scaP 0 (scaP 0 a (k9 n)) (IntKind.i64.wrap (0 - k9 n)) == a, true), (scaF 0 (scaP 0 a (k9 n)) (IntKind.i64.wrap (0 - k9 n)) == 0, true), (scaF 0 a (k9 n) != 0, false), (decide (U (scaP 0 a (k9 n))), true), lU a, (decide ((60 : Int) = 0), false), ((bNot (upP a) 9223372036854775808) != 0, false), ((bNot a 9223372036854775808) != 9218868437227405312, true), ((bNot a 9223372036854775808) != 0, true), (upF (upP a) != 0, false), (upF a != 0, false), (decide ((bNot a 9223372036854775808) > 9218868437227405312), false), (decide (U (upP a)), true), lU a] := ⟨by kernel_rfl, by kernel_rfl, by kernel_rfl, by kernel_rfl⟩
theorem k9_bd (n : Int) : 0 ≤ k9 n ∧ k9 n ≤ 60 := by
  have h0 : 0 ≤ IntKind.u64.wrap n := by rw [wrapU]; omega
  have e : (IntKind.u64.wrap n).tmod 60 = IntKind.u64.wrap n % 60 := Int.tmod_eq_emod_of_nonneg h0
  unfold k9
  rw [e, wrapI' ⟨by omega, by omega⟩]
  omega
theorem walk (a n : Int) (ha : U a) (w : World) : Calls Try.prog 6 #[.int .u64 a, .int .i64 n] w fun e w' => e = .returned (.bool true) ∧ Tidy w w' := by
  have hv : ([.int .u64 a, .int .i64 n].all (lt 0)) = true := rfl
  have T := tabY_ok conG9_ok
  have ka : decide (U a) = true := decide_eq_true ha
  have eB := bNot_mag ha
  have m1 := mag_cl a
  have uU := up_U ha
  have uS := sca_U (m := 0) (n := k9 n) ha
  have kb := k9_bd n
  have ew : IntKind.i64.wrap (0 - k9 n) = 0 - k9 n := wrapI' ⟨by omega, by omega⟩
  have eP := bNot_mag uU
  by_cases h3 : cl a ≤ 3
  case neg =>
    have eN : upP a = 9221120237041090560 := by unfold upP; rw [if_pos (by omega)]
    have eU : upF 9221120237041090560 = 0 := by decide
    have eO : upF a = orF (upF (upP a)) (upF a) := by
      rw [eN, eU]
      unfold upF nanF
      rw [if_pos (by omega)]
      split <;> rfl
    exact fits_calls T (sb_n a n) (okCons (beq_t eO) (okCons (beq_t eN) (okCons (decide_eq_true (by rw [eB]; omega)) (okCons (decide_eq_true uU) (okL1 ka))))) hv (by rfl) w
  obtain ⟨f1, _, f2, _⟩ := up_fin ha h3
  have ma := mag_lt (p := a)
  have mu := mag_lt (p := upP a)
  by_cases hz : mag a = 0
  · have hz' : mag a = 0 := hz
    by_cases hF : scaF 0 a (k9 n) = 0
    · have hB := sca_back ha h3 kb hF
      exact fits_calls T (sb_z1 a n) (okCons (beq_t (by rw [ew]; exact hB.2)) (okCons (beq_t (by rw [ew]; exact hB.1)) (okCons (bne_f hF) (okCons (decide_eq_true uS) (okCons ka (okCons (by decide) (okCons (bne_f (by rw [eB]; omega)) (okCons (bne_f f2) (okCons (bne_f f1) (okCons (decide_eq_false (by rw [eB]; omega)) (okCons (decide_eq_true uU) (okL1 ka)))))))))))) hv (by rfl) w
    · exact fits_calls T (sb_z0 a n) (okCons (bne_t hF) (okCons (decide_eq_true uS) (okCons ka (okCons (by decide) (okCons (bne_f (by rw [eB]; omega)) (okCons (bne_f f2) (okCons (bne_f f1) (okCons (decide_eq_false (by rw [eB]; omega)) (okCons (decide_eq_true uU) (okL1 ka)))))))))) hv (by rfl) w
  by_cases hi : mag a = 9218868437227405312
  · have hi' : mag a = 9218868437227405312 := hi
    by_cases hF : scaF 0 a (k9 n) = 0
    · have hB := sca_back ha h3 kb hF
      exact fits_calls T (sb_i1 a n) (okCons (beq_t (by rw [ew]; exact hB.2)) (okCons (beq_t (by rw [ew]; exact hB.1)) (okCons (bne_f hF) (okCons (decide_eq_true uS) (okCons ka (okCons (by decide) (okCons (bne_f (by rw [eB]; omega)) (okCons (bne_t (by rw [eB]; omega)) (okCons (bne_f f2) (okCons (bne_f f1) (okCons (decide_eq_false (by rw [eB]; omega)) (okCons (decide_eq_true uU) (okL1 ka))))))))))))) hv (by rfl) w
    · exact fits_calls T (sb_i0 a n) (okCons (bne_t hF) (okCons (decide_eq_true uS) (okCons ka (okCons (by decide) (okCons (bne_f (by rw [eB]; omega)) (okCons (bne_t (by rw [eB]; omega)) (okCons (bne_f f2) (okCons (bne_f f1) (okCons (decide_eq_false (by rw [eB]; omega)) (okCons (decide_eq_true uU) (okL1 ka))))))))))) hv (by rfl) w
  by_cases hp : mag (upP a) = 0
  · have hp' : mag (upP a) = 0 := hp
    by_cases hF : scaF 0 a (k9 n) = 0
    · have hB := sca_back ha h3 kb hF
      exact fits_calls T (sb_q1 a n) (okCons (beq_t (by rw [ew]; exact hB.2)) (okCons (beq_t (by rw [ew]; exact hB.1)) (okCons (bne_f hF) (okCons (decide_eq_true uS) (okCons ka (okCons (by decide) (okCons (bne_f (by rw [eP]; omega)) (okCons (bne_t (by rw [eB]; omega)) (okCons (bne_t (by rw [eB]; omega)) (okCons (bne_f f2) (okCons (bne_f f1) (okCons (decide_eq_false (by rw [eB]; omega)) (okCons (decide_eq_true uU) (okL1 ka)))))))))))))) hv (by rfl) w
    · exact fits_calls T (sb_q0 a n) (okCons (bne_t hF) (okCons (decide_eq_true uS) (okCons ka (okCons (by decide) (okCons (bne_f (by rw [eP]; omega)) (okCons (bne_t (by rw [eB]; omega)) (okCons (bne_t (by rw [eB]; omega)) (okCons (bne_f f2) (okCons (bne_f f1) (okCons (decide_eq_false (by rw [eB]; omega)) (okCons (decide_eq_true uU) (okL1 ka)))))))))))) hv (by rfl) w
  have hd := dn_up ha h3 hz hi hp
  by_cases hF : scaF 0 a (k9 n) = 0
  · have hB := sca_back ha h3 kb hF
    exact fits_calls T (sb_p1 a n) (okCons (beq_t (by rw [ew]; exact hB.2)) (okCons (beq_t (by rw [ew]; exact hB.1)) (okCons (bne_f hF) (okCons (decide_eq_true uS) (okCons ka (okCons (by decide) (okCons (bne_f hd) (okCons (bne_t (by rw [eP]; omega)) (okCons (bne_t (by rw [eB]; omega)) (okCons (bne_t (by rw [eB]; omega)) (okCons (bne_f f2) (okCons (bne_f f1) (okCons (decide_eq_false (by rw [eB]; omega)) (okCons (decide_eq_true uU) (okL1 ka))))))))))))))) hv (by rfl) w
  · exact fits_calls T (sb_p0 a n) (okCons (bne_t hF) (okCons (decide_eq_true uS) (okCons ka (okCons (by decide) (okCons (bne_f hd) (okCons (bne_t (by rw [eP]; omega)) (okCons (bne_t (by rw [eB]; omega)) (okCons (bne_t (by rw [eB]; omega)) (okCons (bne_f f2) (okCons (bne_f f1) (okCons (decide_eq_false (by rw [eB]; omega)) (okCons (decide_eq_true uU) (okL1 ka))))))))))))) hv (by rfl) w
theorem own : ownKnob Try.prog.godebug = none := by kernel_rfl
set_option maxRecDepth 100000 in
theorem lifted (os : Os) (started : os.Started) (H : Type) (enc : TypeId × Value → H) :
    ReturnsInHanded {} Try.checked os 6 .any (Rows.scaleBackSpec.pre6 enc Try.prog Try.f6 Rows.scaleBackRow.domain false) (Rows.scaleBackSpec.post enc Try.prog Try.f6 false true false false) := by
  refine returnsInHanded_of_change (C := Try.checked) own started (by kernel_rfl) Try.func6
    (ChangeSpec.witness6 (enc := enc) (C := Try.checked) false ⟨#[], #[.int .u64 0, .int .i64 0], []⟩ 8 (by kernel_rfl) (by kernel_rfl) (by kernel_rfl) (by kernel_rfl)) ?_
  intro W base args ds gs before hval0 hW hcnd _
  have hval : ∀ (j : Nat) t v, Try.f6.params[j]? = some t → args[j]? = some v → Value.okWide Try.prog W .any base t v := hval0
  have hW' := hW
  obtain ⟨p, q, hA0, hV, rfl, hfz, hnd⟩ := hW
  have hA : DataW.TrodAll enc Try.prog W 0 (fun _ => true) true Try.f6.params.toList args.toList ds p := hA0
  rw [Try.params6] at hA hval
  obtain ⟨v0, v1, d0, d1, p0, p1, rfl, rfl, rfl, h0, h1⟩ := trodAll_two hA
  obtain ⟨rfl, rfl⟩ := trodVars_none hV
  obtain ⟨x0, rfl, rfl, rfl, w0⟩ := open_int Try.underlying22 (hval 0 22 v0 rfl rfl) h0
  obtain ⟨x1, rfl, rfl, rfl, w1⟩ := open_int Try.underlying3 (hval 1 3 v1 rfl rfl) h1
  clear hA0 hval0
  simp only [List.append_nil] at hW'
  refine (walk x0 x1 (u64_bounds w0) W).mono fun e W' ⟨he, hg⟩ => ?_
  subst he
  exact ⟨_, rfl, post_of_same (pa := []) (pv := []) hW' (fun _ _ _ => trodAll_mk1 (shut_bool Try.underlying4 _))
    (fun sp _ => trodAll_mk2 (shut_int Try.underlying22 w0) (shut_int Try.underlying3 w1)) (fun _ _ => rfl) rfl
    (hg.1.frame _) (tidy_frozen hg) (ok_one (by kernel_rfl) rfl (okWide_bool_mk Try.underlying4 _))⟩

theorem proved : Rows.ScaleBackSaid :=
  OpenClaim.holds_of_wide 6 Try.f6 rfl rfl rfl rfl rfl rfl rfl ⟨rfl, rfl, rfl, rfl, rfl⟩ rfl rfl rfl rfl rfl (by kernel_rfl) Try.func6 (by kernel_rfl)
    (of_decide_eq_true (by kernel_rfl)) (by unfold Func.isWrapper; first | (rw [if_pos (by decide +kernel)]; kernel_rfl) | (rw [if_neg (by decide +kernel)]; exact ⟨rfl, rfl⟩))
    (fun os started H enc _ => lifted os started H enc)
end Go.Proofs.Ytehfjljnaencjaa.scaleBack
