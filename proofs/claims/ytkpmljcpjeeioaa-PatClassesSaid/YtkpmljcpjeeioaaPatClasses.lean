/-
  PROVED HERE: for every input the law tillerlaw03.PatClasses returns true, and its argument reads afterwards as it read before: a pattern is of one class, told by its fields; with the other sign it is of the same. No condition.
-/
import Derived.Test.YtkpmljcpjeeioaaPatB
import Derived.Test.YtkpmljcpjeeioaaRow
import Derived.Test.YtkpmljcpjeeioaaRows
namespace Go.Proofs.Ytkpmljcpjeeioaa.patClasses
open Go.KRun Go.Pt Go.ChangeShapes Go.WideShapes Go.ChangeAt Go.RowKit
set_option linter.unusedVariables false

theorem c3 (p : Int) (d : Bool) : Fits (reckon (tabOf Try.prog extY conP true) 3000 6 [.int .u64 p] [cmp true, cmp true, cmp true, cmp true, cmp false, cmp false, cmp false, cmp false, cmp d, tst true, tst true, tst true, tst true]) (.bool true) [(sgn p == d, true), (sgn p == d, true), (false == false, true), (false == false, true), (decide (p ≥ 9223372036854775808), d), (decide (U p), true), (decide (3 ≥ 4), false), (decide (cl p > 3), false), (decide (U p), true), (decide (3 ≤ 2), false), (decide (cl p ≤ 2), false), (decide (U p), true), (cl (bXor p 9223372036854775808) == 3, true), (decide (U (bXor p 9223372036854775808)), true), (cl p == 3, true), (decide (U p), true), ((bAnd p 4503599627370495) == 0, true), ((bAnd (p.fdiv (2 ^ min (Int.toNat 52) 64)) 2047) == 2047, true), (decide (52 < 0), false)] := ⟨by kernel_rfl, by kernel_rfl, by kernel_rfl, by kernel_rfl⟩
theorem c4 (p : Int) (d : Bool) : Fits (reckon (tabOf Try.prog extY conP true) 3000 6 [.int .u64 p] [cmp true, cmp false, cmp true, cmp true, cmp true, cmp true, cmp false, cmp false, cmp true, cmp true, cmp d, tst true, tst true, tst true, tst true]) (.bool true) [(sgn p == d, true), (sgn p == d, true), (true == true, true), (true == true, true), (decide (p ≥ 9223372036854775808), d), (decide (U p), true), (decide (4 ≥ 4), true), (decide (cl p > 3), true), (decide (U p), true), (decide (4 ≤ 2), false), (decide (cl p ≤ 2), false), (decide (U p), true), (cl (bXor p 9223372036854775808) == 4, true), (decide (U (bXor p 9223372036854775808)), true), (cl p == 4, true), (decide (U p), true), ((bAnd p 4503599627370495).fdiv (2 ^ min (Int.toNat 51) 64) == 1, true), (decide (51 < 0), false), ((bAnd (p.fdiv (2 ^ min (Int.toNat 52) 64)) 2047) == 2047, true), ((bAnd p 4503599627370495) == 0, false), ((bAnd (p.fdiv (2 ^ min (Int.toNat 52) 64)) 2047) == 2047, true), (decide (52 < 0), false)] := ⟨by kernel_rfl, by kernel_rfl, by kernel_rfl, by kernel_rfl⟩
theorem c5 (p : Int) (d : Bool) : Fits (reckon (tabOf Try.prog extY conP true) 3000 6 [.int .u64 p] [cmp true, cmp false, cmp true, cmp false, cmp true, cmp true, cmp true, cmp false, cmp false, cmp true, cmp true, cmp d, tst true, tst true, tst true, tst true]) (.bool true) [(sgn p == d, true), (sgn p == d, true), (true == true, true), (true == true, true), (decide (p ≥ 9223372036854775808), d), (decide (U p), true), (decide (5 ≥ 4), true), (decide (cl p > 3), true), (decide (U p), true), (decide (5 ≤ 2), false), (decide (cl p ≤ 2), false), (decide (U p), true), (cl (bXor p 9223372036854775808) == 5, true), (decide (U (bXor p 9223372036854775808)), true), (cl p == 5, true), (decide (U p), true), ((bAnd (p.fdiv (2 ^ min (Int.toNat 52) 64)) 2047) == 2047, true), ((bAnd p 4503599627370495).fdiv (2 ^ min (Int.toNat 51) 64) == 1, false), (decide (51 < 0), false), ((bAnd (p.fdiv (2 ^ min (Int.toNat 52) 64)) 2047) == 2047, true), ((bAnd p 4503599627370495) == 0, false), ((bAnd (p.fdiv (2 ^ min (Int.toNat 52) 64)) 2047) == 2047, true), (decide (52 < 0), false)] := ⟨by kernel_rfl, by kernel_rfl, by kernel_rfl, by kernel_rfl⟩
theorem c0 (p : Int) (d : Bool) : Fits (reckon (tabOf Try.prog extY conP true) 3000 6 [.int .u64 p] [cmp false, cmp false, cmp false, cmp true, cmp true, cmp true, cmp true, cmp true, cmp true, cmp false, cmp false, cmp d, tst true, tst true, tst true, tst true]) (.bool true) [(sgn p == d, true), (sgn p == d, true), (false == false, true), (false == false, true), (decide (p ≥ 9223372036854775808), d), (decide (U p), true), (decide (0 ≥ 4), false), (decide (cl p > 3), false), (decide (U p), true), (decide (0 ≤ 2), true), (decide (cl p ≤ 2), true), (decide (U p), true), (cl (bXor p 9223372036854775808) == 0, true), (decide (U (bXor p 9223372036854775808)), true), (cl p == 0, true), (decide (U p), true), ((bAnd p 4503599627370495) == 0, true), ((bAnd (p.fdiv (2 ^ min (Int.toNat 52) 64)) 2047) == 0, true), ((bAnd (p.fdiv (2 ^ min (Int.toNat 52) 64)) 2047) == 2047, false), ((bAnd (p.fdiv (2 ^ min (Int.toNat 52) 64)) 2047) == 2047, false), ((bAnd (p.fdiv (2 ^ min (Int.toNat 52) 64)) 2047) == 2047, false), (decide (52 < 0), false)] := ⟨by kernel_rfl, by kernel_rfl, by kernel_rfl, by kernel_rfl⟩
theorem c1 (p : Int) (d : Bool) : Fits (reckon (tabOf Try.prog extY conP true) 3000 6 [.int .u64 p] [cmp false, cmp false, cmp false, cmp true, cmp false, cmp true, cmp true, cmp true, cmp true, cmp true, cmp false, cmp false, cmp d, tst true, tst true, tst true, tst true]) (.bool true) [(sgn p == d, true), (sgn p == d, true), (false == false, true), (false == false, true), (decide (p ≥ 9223372036854775808), d), (decide (U p), true), (decide (1 ≥ 4), false), (decide (cl p > 3), false), (decide (U p), true), (decide (1 ≤ 2), true), (decide (cl p ≤ 2), true), (decide (U p), true), (cl (bXor p 9223372036854775808) == 1, true), (decide (U (bXor p 9223372036854775808)), true), (cl p == 1, true), (decide (U p), true), ((bAnd (p.fdiv (2 ^ min (Int.toNat 52) 64)) 2047) == 0, true), ((bAnd p 4503599627370495) == 0, false), ((bAnd (p.fdiv (2 ^ min (Int.toNat 52) 64)) 2047) == 0, true), ((bAnd (p.fdiv (2 ^ min (Int.toNat 52) 64)) 2047) == 2047, false), ((bAnd (p.fdiv (2 ^ min (Int.toNat 52) 64)) 2047) == 2047, false), ((bAnd (p.fdiv (2 ^ min (Int.toNat 52) 64)) 2047) == 2047, false), (decide (52 < 0), false)] := ⟨by kernel_rfl, by kernel_rfl, by kernel_rfl, by kernel_rfl⟩
theorem c2 (p : Int) (d : Bool) : Fits (reckon (tabOf Try.prog extY conP true) 3000 6 [.int .u64 p] [cmp false, cmp false, cmp false, cmp false, cmp false, cmp true, cmp true, cmp true, cmp true, cmp false, cmp false, cmp d, tst true, tst true, tst true, tst true]) (.bool true) [(sgn p == d, true), (sgn p == d, true), (false == false, true), (false == false, true), (decide (p ≥ 9223372036854775808), d), (decide (U p), true), (decide (2 ≥ 4), false), (decide (cl p > 3), false), (decide (U p), true), (decide (2 ≤ 2), true), (decide (cl p ≤ 2), true), (decide (U p), true), (cl (bXor p 9223372036854775808) == 2, true), (decide (U (bXor p 9223372036854775808)), true), (cl p == 2, true), (decide (U p), true), ((bAnd (p.fdiv (2 ^ min (Int.toNat 52) 64)) 2047) == 0, false), ((bAnd (p.fdiv (2 ^ min (Int.toNat 52) 64)) 2047) == 0, false), ((bAnd (p.fdiv (2 ^ min (Int.toNat 52) 64)) 2047) == 2047, false), ((bAnd (p.fdiv (2 ^ min (Int.toNat 52) 64)) 2047) == 2047, false), ((bAnd (p.fdiv (2 ^ min (Int.toNat 52) 64)) 2047) == 2047, false), (decide (52 < 0), false)] := ⟨by kernel_rfl, by kernel_rfl, by kernel_rfl, by kernel_rfl⟩

theorem walk (p : Int) (hp : U p) (w : World) : Calls Try.prog 6 #[.int .u64 p] w fun e w' => e = .returned (.bool true) ∧ Tidy w w' := by
  have hu : decide (U p) = true := decide_eq_true hp
  have hx := bXor_sign hp
  have hux : decide (U (bXor p 9223372036854775808)) = true := decide_eq_true (by rw [hx]; unfold U at *; omega)
  have ee : ex (bXor p 9223372036854775808) = ex p := by rw [hx]; unfold ex U at *; omega
  have ef : fr (bXor p 9223372036854775808) = fr p := by rw [hx]; unfold fr U at *; omega
  have ec : cl (bXor p 9223372036854775808) = cl p := by unfold cl; rw [ee, ef]
  have e1 : bAnd p 4503599627370495 = fr p := bAnd_frac hp
  have e2 : bAnd (p.fdiv (2 ^ min (Int.toNat 52) 64)) 2047 = ex p := by
    have e : ((2 : Int) ^ min (Int.toNat 52) 64) = 4503599627370496 := by rfl
    rw [e, Int.fdiv_eq_ediv_of_nonneg _ (by omega), bAnd_exp (by unfold U at *; omega)]
    rfl
  have e3 : (fr p).fdiv (2 ^ min (Int.toNat 51) 64) = fr p / 2251799813685248 := Int.fdiv_eq_ediv_of_nonneg _ (by decide)
  have hs : (sgn p == decide (p ≥ 9223372036854775808)) = true := by unfold sgn; simp
  have hf := fr_lt p
  by_cases h0 : ex p = 0
  · by_cases h1 : fr p = 0
    · have hc : cl p = 0 := by unfold cl; simp [h0, h1]
      refine fits_calls (tabY_ok conP_ok) (c0 p (decide (p ≥ 9223372036854775808))) ?_ (by rfl) (by rfl) w
      simp only [okCs, okNl, hu, hux, ec, e1, e2, hc, h0, h1, hs]; decide
    · have hc : cl p = 1 := by unfold cl; simp [h0, h1]
      have h1' : (fr p == 0) = false := by simp [h1]
      refine fits_calls (tabY_ok conP_ok) (c1 p (decide (p ≥ 9223372036854775808))) ?_ (by rfl) (by rfl) w
      simp only [okCs, okNl, hu, hux, ec, e1, e2, hc, h0, h1', hs]; decide
  · have h0' : (ex p == 0) = false := by simp [h0]
    by_cases h2 : ex p = 2047
    · by_cases h1 : fr p = 0
      · have hc : cl p = 3 := by unfold cl; simp [h2, h1]
        refine fits_calls (tabY_ok conP_ok) (c3 p (decide (p ≥ 9223372036854775808))) ?_ (by rfl) (by rfl) w
        simp only [okCs, okNl, hu, hux, ec, e1, e2, hc, h2, h1, hs]; decide
      · have h1' : (fr p == 0) = false := by simp [h1]
        by_cases h3 : 2251799813685248 ≤ fr p
        · have hc : cl p = 4 := by unfold cl; simp [h2, h1, h3]
          have h4 : fr p / 2251799813685248 = 1 := by omega
          refine fits_calls (tabY_ok conP_ok) (c4 p (decide (p ≥ 9223372036854775808))) ?_ (by rfl) (by rfl) w
          simp only [okCs, okNl, hu, hux, ec, e1, e2, e3, hc, h2, h1', h4, hs]; decide
        · have hc : cl p = 5 := by unfold cl; simp [h2, h1, h3]
          have h4 : fr p / 2251799813685248 = 0 := by omega
          refine fits_calls (tabY_ok conP_ok) (c5 p (decide (p ≥ 9223372036854775808))) ?_ (by rfl) (by rfl) w
          simp only [okCs, okNl, hu, hux, ec, e1, e2, e3, hc, h2, h1', h4, hs]; decide
    · have h2' : (ex p == 2047) = false := by simp [h2]
      have hc : cl p = 2 := by unfold cl; simp [h0, h2]
      refine fits_calls (tabY_ok conP_ok) (c2 p (decide (p ≥ 9223372036854775808))) ?_ (by rfl) (by rfl) w
      simp only [okCs, okNl, hu, hux, ec, e2, hc, h0', h2', hs]; decide

theorem own : ownKnob Try.prog.godebug = none := by kernel_rfl
set_option maxRecDepth 100000 in
theorem lifted (os : Os) (started : os.Started) (H : Type) (enc : TypeId × Value → H) :
    ReturnsInHanded {} Try.checked os 6 .any (Rows.patClassesSpec.pre6 enc Try.prog Try.f6 Rows.patClassesRow.domain false) (Rows.patClassesSpec.post enc Try.prog Try.f6 false true false false) := by
  refine returnsInHanded_of_change (C := Try.checked) own started (by kernel_rfl) Try.func6
    (ChangeSpec.witness6 (enc := enc) (C := Try.checked) false ⟨#[], #[.int .u64 0], []⟩ 8 (by kernel_rfl) (by kernel_rfl) (by kernel_rfl) (by kernel_rfl)) ?_
  intro W base args ds gs before hval0 hW hcnd _
  have hval : ∀ (j : Nat) t v, Try.f6.params[j]? = some t → args[j]? = some v → Value.okWide Try.prog W .any base t v := hval0
  have hW' := hW
  obtain ⟨p, q, hA0, hV, rfl, hfz, hnd⟩ := hW
  have hA : DataW.TrodAll enc Try.prog W 0 (fun _ => true) true Try.f6.params.toList args.toList ds p := hA0
  rw [Try.params6] at hA hval
  obtain ⟨v0, d0, rfl, rfl, h0⟩ := trodAll_one hA
  obtain ⟨rfl, rfl⟩ := trodVars_none hV
  obtain ⟨x, rfl, rfl, rfl, wx⟩ := open_int Try.underlying22 (hval 0 22 v0 rfl rfl) h0
  clear hA0 hval0
  simp only [List.append_nil] at hW'
  refine (walk x (u64_bounds wx) W).mono fun e W' ⟨he, hg⟩ => ?_
  subst he
  exact ⟨_, rfl, post_of_same (pa := []) (pv := []) hW' (fun _ _ _ => trodAll_mk1 (shut_bool Try.underlying4 _)) (fun sp _ => trodAll_mk1 (shut_int Try.underlying22 wx)) (fun _ _ => rfl) rfl
    (hg.1.frame _) (tidy_frozen hg) (ok_one (by kernel_rfl) rfl (okWide_bool_mk Try.underlying4 _))⟩

theorem proved : Rows.PatClassesSaid :=
  OpenClaim.holds_of_wide 6 Try.f6 rfl rfl rfl rfl rfl rfl rfl ⟨rfl, rfl, rfl, rfl, rfl⟩ rfl rfl rfl rfl rfl (by kernel_rfl) Try.func6 (by kernel_rfl)
    (of_decide_eq_true (by kernel_rfl)) (by unfold Func.isWrapper; first | (rw [if_pos (by decide +kernel)]; kernel_rfl) | (rw [if_neg (by decide +kernel)]; exact ⟨rfl, rfl⟩))
    (fun os started H enc _ => lifted os started H enc)
end Go.Proofs.Ytkpmljcpjeeioaa.patClasses
