/-
  PrC, GnB, SuM, PrM, RunS, RunT, RunW, Hcs, ConN1, ConV4, RfN, RfD, PrK, SuK, CxA, CxB, CxC, CxE
-/
import Derived.Test.YtjkgnbdeklploaaGreatG13
import Derived.OneCell
namespace Go.Proofs.YtjkgnbdeklploaaGreat
open Go.KRun Go.Wd Go.Pt Go.Rn
set_option maxRecDepth 100000
theorem fm_bad (a b c m : Int) : Fits (reckon (tabOf Tryz.prog extY conP1 true) 300 45 [.int .u64 a, .int .u64 b, .int .u64 c, .int .i64 m] [cmp true]) (rdT 9221120237041090560 1) [(badB a b, true), (decide (U a ∧ U b), true)] := ⟨by kernel_rfl, by kernel_rfl, by kernel_rfl, by kernel_rfl⟩
theorem fm_a1 (a b c m : Int) : Fits (reckon (tabOf Tryz.prog extY conP1 true) 300 45 [.int .u64 a, .int .u64 b, .int .u64 c, .int .i64 m] [cmp false, cmp true, cmp true, cmp true]) (rdT 9221120237041090560 1) [(cl a == 5, true), lU a, (decide ((0 : Int) < ((3 : Nat) : Int)), true), (decide (cl a > 3), true), lU a, (badB a b, false), (decide (U a ∧ U b), true)] := ⟨by kernel_rfl, by kernel_rfl, by kernel_rfl, by kernel_rfl⟩
theorem fm_a2 (a b c m : Int) : Fits (reckon (tabOf Tryz.prog extY conP1 true) 300 45 [.int .u64 a, .int .u64 b, .int .u64 c, .int .i64 m] [cmp false, cmp true, cmp true, cmp false, cmp true, cmp true]) (rdT 9221120237041090560 1) [(cl b == 5, true), lU b, (decide (IntKind.i64.wrap (0 + 1) < ((3 : Nat) : Int)), true), (cl a == 5, false), lU a, (decide ((0 : Int) < ((3 : Nat) : Int)), true), (decide (cl a > 3), true), lU a, (badB a b, false), (decide (U a ∧ U b), true)] := ⟨by kernel_rfl, by kernel_rfl, by kernel_rfl, by kernel_rfl⟩
theorem fm_a3 (a b c m : Int) : Fits (reckon (tabOf Tryz.prog extY conP1 true) 300 45 [.int .u64 a, .int .u64 b, .int .u64 c, .int .i64 m] [cmp false, cmp true, cmp true, cmp false, cmp true, cmp false, cmp true, cmp true]) (rdT 9221120237041090560 1) [(cl c == 5, true), lU c, (decide (IntKind.i64.wrap (IntKind.i64.wrap (0 + 1) + 1) < ((3 : Nat) : Int)), true), (cl b == 5, false), lU b, (decide (IntKind.i64.wrap (0 + 1) < ((3 : Nat) : Int)), true), (cl a == 5, false), lU a, (decide ((0 : Int) < ((3 : Nat) : Int)), true), (decide (cl a > 3), true), lU a, (badB a b, false), (decide (U a ∧ U b), true)] := ⟨by kernel_rfl, by kernel_rfl, by kernel_rfl, by kernel_rfl⟩
theorem fm_a0 (a b c m : Int) : Fits (reckon (tabOf Tryz.prog extY conP1 true) 300 45 [.int .u64 a, .int .u64 b, .int .u64 c, .int .i64 m] [cmp false, cmp true, cmp true, cmp false, cmp true, cmp false, cmp true, cmp false, cmp false]) (rdT 9221120237041090560 0) [(decide (IntKind.i64.wrap (IntKind.i64.wrap (IntKind.i64.wrap (0 + 1) + 1) + 1) < ((3 : Nat) : Int)), false), (cl c == 5, false), lU c, (decide (IntKind.i64.wrap (IntKind.i64.wrap (0 + 1) + 1) < ((3 : Nat) : Int)), true), (cl b == 5, false), lU b, (decide (IntKind.i64.wrap (0 + 1) < ((3 : Nat) : Int)), true), (cl a == 5, false), lU a, (decide ((0 : Int) < ((3 : Nat) : Int)), true), (decide (cl a > 3), true), lU a, (badB a b, false), (decide (U a ∧ U b), true)] := ⟨by kernel_rfl, by kernel_rfl, by kernel_rfl, by kernel_rfl⟩
theorem fm_b2 (a b c m : Int) : Fits (reckon (tabOf Tryz.prog extY conP1 true) 300 45 [.int .u64 a, .int .u64 b, .int .u64 c, .int .i64 m] [cmp false, cmp false, cmp true, cmp true, cmp false, cmp true, cmp true]) (rdT 9221120237041090560 1) [(cl b == 5, true), lU b, (decide (IntKind.i64.wrap (0 + 1) < ((3 : Nat) : Int)), true), (cl a == 5, false), lU a, (decide ((0 : Int) < ((3 : Nat) : Int)), true), (decide (cl b > 3), true), lU b, (decide (cl a > 3), false), lU a, (badB a b, false), (decide (U a ∧ U b), true)] := ⟨by kernel_rfl, by kernel_rfl, by kernel_rfl, by kernel_rfl⟩
theorem fm_b3 (a b c m : Int) : Fits (reckon (tabOf Tryz.prog extY conP1 true) 300 45 [.int .u64 a, .int .u64 b, .int .u64 c, .int .i64 m] [cmp false, cmp false, cmp true, cmp true, cmp false, cmp true, cmp false, cmp true, cmp true]) (rdT 9221120237041090560 1) [(cl c == 5, true), lU c, (decide (IntKind.i64.wrap (IntKind.i64.wrap (0 + 1) + 1) < ((3 : Nat) : Int)), true), (cl b == 5, false), lU b, (decide (IntKind.i64.wrap (0 + 1) < ((3 : Nat) : Int)), true), (cl a == 5, false), lU a, (decide ((0 : Int) < ((3 : Nat) : Int)), true), (decide (cl b > 3), true), lU b, (decide (cl a > 3), false), lU a, (badB a b, false), (decide (U a ∧ U b), true)] := ⟨by kernel_rfl, by kernel_rfl, by kernel_rfl, by kernel_rfl⟩
theorem fm_b0 (a b c m : Int) : Fits (reckon (tabOf Tryz.prog extY conP1 true) 300 45 [.int .u64 a, .int .u64 b, .int .u64 c, .int .i64 m] [cmp false, cmp false, cmp true, cmp true, cmp false, cmp true, cmp false, cmp true, cmp false, cmp false]) (rdT 9221120237041090560 0) [(decide (IntKind.i64.wrap (IntKind.i64.wrap (IntKind.i64.wrap (0 + 1) + 1) + 1) < ((3 : Nat) : Int)), false), (cl c == 5, false), lU c, (decide (IntKind.i64.wrap (IntKind.i64.wrap (0 + 1) + 1) < ((3 : Nat) : Int)), true), (cl b == 5, false), lU b, (decide (IntKind.i64.wrap (0 + 1) < ((3 : Nat) : Int)), true), (cl a == 5, false), lU a, (decide ((0 : Int) < ((3 : Nat) : Int)), true), (decide (cl b > 3), true), lU b, (decide (cl a > 3), false), lU a, (badB a b, false), (decide (U a ∧ U b), true)] := ⟨by kernel_rfl, by kernel_rfl, by kernel_rfl, by kernel_rfl⟩
theorem fm_c3 (a b c m : Int) : Fits (reckon (tabOf Tryz.prog extY conP1 true) 300 45 [.int .u64 a, .int .u64 b, .int .u64 c, .int .i64 m] [cmp false, cmp false, cmp false, cmp true, cmp true, cmp false, cmp true, cmp false, cmp true, cmp true]) (rdT 9221120237041090560 1) [(cl c == 5, true), lU c, (decide (IntKind.i64.wrap (IntKind.i64.wrap (0 + 1) + 1) < ((3 : Nat) : Int)), true), (cl b == 5, false), lU b, (decide (IntKind.i64.wrap (0 + 1) < ((3 : Nat) : Int)), true), (cl a == 5, false), lU a, (decide ((0 : Int) < ((3 : Nat) : Int)), true), (decide (cl c > 3), true), lU c, (decide (cl b > 3), false), lU b, (decide (cl a > 3), false), lU a, (badB a b, false), (decide (U a ∧ U b), true)] := ⟨by kernel_rfl, by kernel_rfl, by kernel_rfl, by kernel_rfl⟩
theorem fm_c0 (a b c m : Int) : Fits (reckon (tabOf Tryz.prog extY conP1 true) 300 45 [.int .u64 a, .int .u64 b, .int .u64 c, .int .i64 m] [cmp false, cmp false, cmp false, cmp true, cmp true, cmp false, cmp true, cmp false, cmp true, cmp false, cmp false]) (rdT 9221120237041090560 0) [(decide (IntKind.i64.wrap (IntKind.i64.wrap (IntKind.i64.wrap (0 + 1) + 1) + 1) < ((3 : Nat) : Int)), false), (cl c == 5, false), lU c, (decide (IntKind.i64.wrap (IntKind.i64.wrap (0 + 1) + 1) < ((3 : Nat) : Int)), true), (cl b == 5, false), lU b, (decide (IntKind.i64.wrap (0 + 1) < ((3 : Nat) : Int)), true), (cl a == 5, false), lU a, (decide ((0 : Int) < ((3 : Nat) : Int)), true), (decide (cl c > 3), true), lU c, (decide (cl b > 3), false), lU b, (decide (cl a > 3), false), lU a, (badB a b, false), (decide (U a ∧ U b), true)] := ⟨by kernel_rfl, by kernel_rfl, by kernel_rfl, by kernel_rfl⟩
theorem fm_ea (a b c m : Int) : Fits (reckon (tabOf Tryz.prog extY conP1 true) 300 45 [.int .u64 a, .int .u64 b, .int .u64 c, .int .i64 m] [cmp false, cmp false, cmp false, cmp false, cmp true]) (suV m (sS (prN a b) inf) c) [(decide (U (sS (prN a b) inf) ∧ U c), true), (true, true), (decide (U a ∧ U b), true), (cl a == 3, true), lU a, (decide (cl c > 3), false), lU c, (decide (cl b > 3), false), lU b, (decide (cl a > 3), false), lU a, (badB a b, false), (decide (U a ∧ U b), true)] := ⟨by kernel_rfl, by kernel_rfl, by kernel_rfl, by kernel_rfl⟩
theorem fm_eb (a b c m : Int) : Fits (reckon (tabOf Tryz.prog extY conP1 true) 300 45 [.int .u64 a, .int .u64 b, .int .u64 c, .int .i64 m] [cmp false, cmp false, cmp false, cmp false, cmp false, cmp true]) (suV m (sS (prN a b) inf) c) [(decide (U (sS (prN a b) inf) ∧ U c), true), (true, true), (decide (U a ∧ U b), true), (cl b == 3, true), lU b, (cl a == 3, false), lU a, (decide (cl c > 3), false), lU c, (decide (cl b > 3), false), lU b, (decide (cl a > 3), false), lU a, (badB a b, false), (decide (U a ∧ U b), true)] := ⟨by kernel_rfl, by kernel_rfl, by kernel_rfl, by kernel_rfl⟩
theorem fm_ec (a b c m : Int) : Fits (reckon (tabOf Tryz.prog extY conP1 true) 300 45 [.int .u64 a, .int .u64 b, .int .u64 c, .int .i64 m] [cmp false, cmp false, cmp false, cmp false, cmp false, cmp false, cmp true]) (rdT c 0) [(cl c == 3, true), lU c, (cl b == 3, false), lU b, (cl a == 3, false), lU a, (decide (cl c > 3), false), lU c, (decide (cl b > 3), false), lU b, (decide (cl a > 3), false), lU a, (badB a b, false), (decide (U a ∧ U b), true)] := ⟨by kernel_rfl, by kernel_rfl, by kernel_rfl, by kernel_rfl⟩
theorem fm_fin (a b c m : Int) : Fits (reckon (tabOf Tryz.prog extY conP1 true) 300 45 [.int .u64 a, .int .u64 b, .int .u64 c, .int .i64 m] [cmp false, cmp false, cmp false, cmp false, cmp false, cmp false, cmp false, cmp true]) (rdV m (xuN m (prN a b) (prE a b) (ofN (prV a b)).nat (sgn c) (xp c) (wSg c).nat) (tw (ofN (xuQ (prN a b) (prE a b) (ofN (prV a b)).nat (sgn c) (xp c) (wSg c).nat)) (xuB (prN a b) (prE a b) (ofN (prV a b)).nat (sgn c) (xp c) (wSg c).nat)) (clp (unN (prE a b) (ofN (prV a b)).nat (xp c) (wSg c).nat) - 1)) [(decide (ofN (xuQ (prN a b) (prE a b) (ofN (prV a b)).nat (sgn c) (xp c) (wSg c).nat)).ok, true), (okEx (prE a b) (ofN (prV a b)) false (xp c) (wSg c) false, true), (finB a b, true), (decide (U a ∧ U b), true), (okEx (prE a b) (ofN (prV a b)) false (xp c) (wSg c) false, true), (okEx (prE a b) (ofN (prV a b)) false (xp c) (wSg c) false, true), (finB a b, true), (decide (U a ∧ U b), true), lU c, (decide (cl c ≤ 2), true), lU c, (cl c == 3, false), lU c, (cl b == 3, false), lU b, (cl a == 3, false), lU a, (decide (cl c > 3), false), lU c, (decide (cl b > 3), false), lU b, (decide (cl a > 3), false), lU a, (badB a b, false), (decide (U a ∧ U b), true)] := ⟨by kernel_rfl, by kernel_rfl, by kernel_rfl, by kernel_rfl⟩
/-- what Fma answers -/
def fmP (m a b c : Int) : Int := if badB a b = true then 9221120237041090560 else if 3 < cl a ∨ 3 < cl b ∨ 3 < cl c then 9221120237041090560 else if cl a = 3 ∨ cl b = 3 then suP m (sS (prN a b) inf) c else if cl c = 3 then c else sS (fsN m a b c) (fsP m a b c)
def fmF (m a b c : Int) : Int := if badB a b = true then 1 else if 3 < cl a ∨ 3 < cl b ∨ 3 < cl c then (if cl a = 5 ∨ cl b = 5 ∨ cl c = 5 then 1 else 0) else if cl a = 3 ∨ cl b = 3 then suF m (sS (prN a b) inf) c else if cl c = 3 then 0 else fsF m a b c
theorem inf_U (n : Bool) : U (sS n inf) := by cases n <;> decide
theorem fx_round (m a b c : Int) : rdV m (xuN m (prN a b) (prE a b) (ofN (prV a b)).nat (sgn c) (xp c) (wSg c).nat) (tw (ofN (xuQ (prN a b) (prE a b) (ofN (prV a b)).nat (sgn c) (xp c) (wSg c).nat)) (xuB (prN a b) (prE a b) (ofN (prV a b)).nat (sgn c) (xp c) (wSg c).nat)) (clp (unN (prE a b) (ofN (prV a b)).nat (xp c) (wSg c).nat) - 1) = rdT (sS (fsN m a b c) (fsP m a b c)) (fsF m a b c) := by
  have hE := prE_bd a b
  have hc := xp_bd c
  rw [ofN_nat (prV_256 a b), wSg_nat]
  exact xu_rd m m (may_prod a b) (may_pat c) (G := -2148) (by omega) (by omega) (prN a b) (sgn c)
theorem kE_of (a b c : Int) : okEx (prE a b) (ofN (prV a b)) false (xp c) (wSg c) false = true := by
  have h1 := may_prod a b
  have h2 := may_pat c
  refine decide_eq_true ⟨ofN_ok _, wSg_ok c, rfl, rfl, (may_iff (ofN_ok _)).2 ?_, (may_iff (wSg_ok c)).2 ?_⟩
  · rw [ofN_nat (prV_256 a b)]; exact h1
  · rw [wSg_nat]; exact h2
theorem pfma_calls (a b c m : Int) (ha : U a) (hb : U b) (hc : U c) (w : World) : Calls Tryz.prog 45 #[.int .u64 a, .int .u64 b, .int .u64 c, .int .i64 m] w fun r w' => r = .returned (rdT (fmP m a b c) (fmF m a b c)) ∧ Tidy w w' := by
  have hv : ([.int .u64 a, .int .u64 b, .int .u64 c, .int .i64 m].all (lt 0)) = true := rfl
  have T := tabY_ok conP1_ok
  have ka : decide (U a) = true := decide_eq_true ha
  have kb : decide (U b) = true := decide_eq_true hb
  have kc : decide (U c) = true := decide_eq_true hc
  have kab : decide (U a ∧ U b) = true := decide_eq_true ⟨ha, hb⟩
  have kic : decide (U (sS (prN a b) inf) ∧ U c) = true := decide_eq_true ⟨inf_U _, hc⟩
  have kE := kE_of a b c
  have ba := cl_bd a
  have bb := cl_bd b
  have bc := cl_bd c
  unfold fmP fmF
  by_cases hbd : badB a b = true
  · rw [if_pos hbd, if_pos hbd]
    exact fits_calls T (fm_bad a b c m) (okCons hbd (okL1 kab)) hv (by rfl) w
  · have hb0 : badB a b = false := by simpa using hbd
    rw [if_neg hbd, if_neg hbd]
    by_cases ha3 : 3 < cl a
    · rw [if_pos (.inl ha3), if_pos (.inl ha3)]
      by_cases a5 : cl a = 5
      · rw [if_pos (.inl a5)]
        exact fits_calls T (fm_a1 a b c m) (okCons (beq_t a5) (okCons ka (okCons (by decide) (okCons (decide_eq_true ha3) (okCons ka (okCons hb0 (okL1 kab))))))) hv (by rfl) w
      · by_cases b5 : cl b = 5
        · rw [if_pos (.inr (.inl b5))]
          exact fits_calls T (fm_a2 a b c m) (okCons (beq_t b5) (okCons kb (okCons (by decide) (okCons (beq_f (by omega)) (okCons ka (okCons (by decide) (okCons (decide_eq_true ha3) (okCons ka (okCons hb0 (okL1 kab)))))))))) hv (by rfl) w
        · by_cases c5 : cl c = 5
          · rw [if_pos (.inr (.inr c5))]
            exact fits_calls T (fm_a3 a b c m) (okCons (beq_t c5) (okCons kc (okCons (by decide) (okCons (beq_f (by omega)) (okCons kb (okCons (by decide) (okCons (beq_f (by omega)) (okCons ka (okCons (by decide) (okCons (decide_eq_true ha3) (okCons ka (okCons hb0 (okL1 kab))))))))))))) hv (by rfl) w
          · rw [if_neg (by omega)]
            exact fits_calls T (fm_a0 a b c m) (okCons (by decide) (okCons (beq_f (by omega)) (okCons kc (okCons (by decide) (okCons (beq_f (by omega)) (okCons kb (okCons (by decide) (okCons (beq_f (by omega)) (okCons ka (okCons (by decide) (okCons (decide_eq_true ha3) (okCons ka (okCons hb0 (okL1 kab)))))))))))))) hv (by rfl) w
    · by_cases hb3 : 3 < cl b
      · rw [if_pos (.inr (.inl hb3)), if_pos (.inr (.inl hb3))]
        by_cases b5 : cl b = 5
        · rw [if_pos (.inr (.inl b5))]
          exact fits_calls T (fm_b2 a b c m) (okCons (beq_t b5) (okCons kb (okCons (by decide) (okCons (beq_f (by omega)) (okCons ka (okCons (by decide) (okCons (decide_eq_true hb3) (okCons kb (okCons (decide_eq_false ha3) (okCons ka (okCons hb0 (okL1 kab)))))))))))) hv (by rfl) w
        · by_cases c5 : cl c = 5
          · rw [if_pos (.inr (.inr c5))]
            exact fits_calls T (fm_b3 a b c m) (okCons (beq_t c5) (okCons kc (okCons (by decide) (okCons (beq_f (by omega)) (okCons kb (okCons (by decide) (okCons (beq_f (by omega)) (okCons ka (okCons (by decide) (okCons (decide_eq_true hb3) (okCons kb (okCons (decide_eq_false ha3) (okCons ka (okCons hb0 (okL1 kab))))))))))))))) hv (by rfl) w
          · rw [if_neg (by omega)]
            exact fits_calls T (fm_b0 a b c m) (okCons (by decide) (okCons (beq_f (by omega)) (okCons kc (okCons (by decide) (okCons (beq_f (by omega)) (okCons kb (okCons (by decide) (okCons (beq_f (by omega)) (okCons ka (okCons (by decide) (okCons (decide_eq_true hb3) (okCons kb (okCons (decide_eq_false ha3) (okCons ka (okCons hb0 (okL1 kab)))))))))))))))) hv (by rfl) w
      · by_cases hc3 : 3 < cl c
        · rw [if_pos (.inr (.inr hc3)), if_pos (.inr (.inr hc3))]
          by_cases c5 : cl c = 5
          · rw [if_pos (.inr (.inr c5))]
            exact fits_calls T (fm_c3 a b c m) (okCons (beq_t c5) (okCons kc (okCons (by decide) (okCons (beq_f (by omega)) (okCons kb (okCons (by decide) (okCons (beq_f (by omega)) (okCons ka (okCons (by decide) (okCons (decide_eq_true hc3) (okCons kc (okCons (decide_eq_false hb3) (okCons kb (okCons (decide_eq_false ha3) (okCons ka (okCons hb0 (okL1 kab))))))))))))))))) hv (by rfl) w
          · rw [if_neg (by omega)]
            exact fits_calls T (fm_c0 a b c m) (okCons (by decide) (okCons (beq_f (by omega)) (okCons kc (okCons (by decide) (okCons (beq_f (by omega)) (okCons kb (okCons (by decide) (okCons (beq_f (by omega)) (okCons ka (okCons (by decide) (okCons (decide_eq_true hc3) (okCons kc (okCons (decide_eq_false hb3) (okCons kb (okCons (decide_eq_false ha3) (okCons ka (okCons hb0 (okL1 kab)))))))))))))))))) hv (by rfl) w
        · have hno : ¬ (3 < cl a ∨ 3 < cl b ∨ 3 < cl c) := by omega
          rw [if_neg hno, if_neg hno]
          by_cases ae : cl a = 3
          · rw [if_pos (.inl ae), if_pos (.inl ae)]
            exact fits_calls T (fm_ea a b c m) (okCons kic (okCons rfl (okCons kab (okCons (beq_t ae) (okCons ka (okCons (decide_eq_false hc3) (okCons kc (okCons (decide_eq_false hb3) (okCons kb (okCons (decide_eq_false ha3) (okCons ka (okCons hb0 (okL1 kab))))))))))))) hv (by rfl) w
          · by_cases be : cl b = 3
            · rw [if_pos (.inr be), if_pos (.inr be)]
              exact fits_calls T (fm_eb a b c m) (okCons kic (okCons rfl (okCons kab (okCons (beq_t be) (okCons kb (okCons (beq_f ae) (okCons ka (okCons (decide_eq_false hc3) (okCons kc (okCons (decide_eq_false hb3) (okCons kb (okCons (decide_eq_false ha3) (okCons ka (okCons hb0 (okL1 kab))))))))))))))) hv (by rfl) w
            · have hno2 : ¬ (cl a = 3 ∨ cl b = 3) := by omega
              rw [if_neg hno2, if_neg hno2]
              by_cases ce : cl c = 3
              · rw [if_pos ce, if_pos ce]
                exact fits_calls T (fm_ec a b c m) (okCons (beq_t ce) (okCons kc (okCons (beq_f be) (okCons kb (okCons (beq_f ae) (okCons ka (okCons (decide_eq_false hc3) (okCons kc (okCons (decide_eq_false hb3) (okCons kb (okCons (decide_eq_false ha3) (okCons ka (okCons hb0 (okL1 kab)))))))))))))) hv (by rfl) w
              · rw [if_neg ce, if_neg ce]
                have hf := fm_fin a b c m
                rw [fx_round] at hf
                exact fits_calls T hf (okCons (decide_eq_true (ofN_ok _)) (okCons kE (okCons (decide_eq_true ⟨by omega, by omega⟩) (okCons kab (okCons kE (okCons kE (okCons (decide_eq_true ⟨by omega, by omega⟩) (okCons kab (okCons kc (okCons (decide_eq_true (by omega)) (okCons kc (okCons (beq_f ce) (okCons kc (okCons (beq_f be) (okCons kb (okCons (beq_f ae) (okCons ka (okCons (decide_eq_false hc3) (okCons kc (okCons (decide_eq_false hb3) (okCons kb (okCons (decide_eq_false ha3) (okCons ka (okCons hb0 (okL1 kab))))))))))))))))))))))))) hv (by rfl) w
def gPF : Ans := fun vals s =>
  match vals with
  | [.int .u64 a, .int .u64 b, .int .u64 c, .int .i64 m] => some (rdT (fmP m a b c) (fmF m a b c), s, [(decide (U a ∧ U b ∧ U c), true)])
  | _ => none
theorem gPF_ok : AnsOk 45 gPF := by
  intro vals s v s' lg h hl w
  unfold gPF at h
  split at h
  · cases h
    obtain ⟨h1, h2, h3⟩ := of_decide_eq_true (hl _ (List.mem_singleton.2 rfl))
    exact pfma_calls _ _ _ _ h1 h2 h3 w
  · cases h
end Go.Proofs.YtjkgnbdeklploaaGreat
namespace Go.Proofs.YtjkgnbdeklploaaGreat
open Go.KRun Go.Wd Go.Pt Go.Rn
theorem sS_mag {n : Bool} {r : Int} (h0 : 0 ≤ r) (h1 : r < 9223372036854775808) : mag (sS n r) = r ∧ sgn (sS n r) = n ∧ U (sS n r) ∧ uV (sS n r) = uV r := by
  have e : ex (sS n r) = ex r ∧ fr (sS n r) = fr r := by unfold ex fr sS; split <;> omega
  refine ⟨by unfold mag sS; split <;> omega, ?_, by unfold U sS; split <;> omega, ?_⟩
  · cases n
    · simp only [sS, Bool.false_eq_true, if_false, sgn]; exact decide_eq_false (by omega)
    · simp only [sS, if_true, sgn]; exact decide_eq_true (by omega)
  · unfold uV xp sg; rw [e.1, e.2]
theorem bXor_ng {p : Int} (hp : U p) : bXor p 9223372036854775808 = ng p := bXor_sign hp
theorem suP_nan {m a b : Int} (h : 3 < cl a ∨ 3 < cl b) : suP m a b = 9221120237041090560 := by unfold suP; rw [if_pos h]
theorem suP_fin {m a b : Int} (ha : cl a ≤ 2) (hb : cl b ≤ 2) : suP m a b = sS (adN m a b) (adP m a b) ∧ suF m a b = adF m a b := by
  unfold suP suF
  have h0 : ¬ (3 < cl a ∨ 3 < cl b) := by omega
  have h1 : ¬ cl a = 3 := by omega
  have h2 : ¬ cl b = 3 := by omega
  rw [if_neg h0, if_neg h1, if_neg h2, if_neg h0, if_neg h1, if_neg h2]
  exact ⟨rfl, rfl⟩
theorem suP_infa {m a b : Int} (ha : cl a = 3) (hb : cl b ≤ 3) (h : ¬ (cl b = 3 ∧ a ≠ b)) : suP m a b = a ∧ suF m a b = 0 := by
  unfold suP suF
  have h0 : ¬ (3 < cl a ∨ 3 < cl b) := by omega
  rw [if_neg h0, if_pos ha, if_neg h, if_neg h0, if_pos ha, if_neg h]
  exact ⟨rfl, rfl⟩
theorem suP_infi {m a b : Int} (ha : cl a = 3) (hb : cl b = 3) (h : a ≠ b) : suP m a b = 9221120237041090560 ∧ suF m a b = 1 := by
  unfold suP suF
  have h0 : ¬ (3 < cl a ∨ 3 < cl b) := by omega
  rw [if_neg h0, if_pos ha, if_pos ⟨hb, h⟩, if_neg h0, if_pos ha, if_pos ⟨hb, h⟩]
  exact ⟨rfl, rfl⟩
theorem suP_infb {m a b : Int} (ha : cl a ≤ 2) (hb : cl b = 3) : suP m a b = b ∧ suF m a b = 0 := by
  unfold suP suF
  have h0 : ¬ (3 < cl a ∨ 3 < cl b) := by omega
  have h1 : ¬ cl a = 3 := by omega
  rw [if_neg h0, if_neg h1, if_pos hb, if_neg h0, if_neg h1, if_pos hb]
  exact ⟨rfl, rfl⟩
theorem su_comm (m a b : Int) : suP m a b = suP m b a ∧ suF m a b = suF m b a := by
  by_cases hn : 3 < cl a ∨ 3 < cl b
  · have hn' : 3 < cl b ∨ 3 < cl a := by omega
    refine ⟨by rw [suP_nan hn, suP_nan hn'], ?_⟩
    unfold suF
    rw [if_pos hn, if_pos hn']
    congr 1
    simp only [eq_iff_iff]
    omega
  · by_cases ha : cl a = 3
    · by_cases hb : cl b = 3
      · by_cases hab : a = b
        · rw [hab]; exact ⟨rfl, rfl⟩
        · rw [(suP_infi ha hb hab).1, (suP_infi ha hb hab).2, (suP_infi hb ha (fun e => hab e.symm)).1, (suP_infi hb ha (fun e => hab e.symm)).2]
          exact ⟨rfl, rfl⟩
      · obtain ⟨p1, p2⟩ := suP_infa (m := m) (b := b) ha (by omega) (fun h => hb h.1)
        obtain ⟨q1, q2⟩ := suP_infb (m := m) (a := b) (b := a) (by omega) ha
        rw [p1, p2, q1, q2]; exact ⟨rfl, rfl⟩
    · by_cases hb : cl b = 3
      · obtain ⟨p1, p2⟩ := suP_infb (m := m) (a := a) (b := b) (by omega) hb
        obtain ⟨q1, q2⟩ := suP_infa (m := m) (a := b) (b := a) hb (by omega) (fun h => ha h.1)
        rw [p1, p2, q1, q2]; exact ⟨rfl, rfl⟩
      · obtain ⟨p1, p2⟩ := suP_fin (m := m) (a := a) (b := b) (by omega) (by omega)
        obtain ⟨q1, q2⟩ := suP_fin (m := m) (a := b) (b := a) (by omega) (by omega)
        obtain ⟨r1, r2⟩ := ad_comm m a b
        rw [p1, p2, q1, q2, adN_comm, r1, r2]; exact ⟨rfl, rfl⟩
theorem ad_lt (m a b : Int) : 0 ≤ adP m a b ∧ adP m a b < 9223372036854775808 := by have := ad_bd m a b; omega
theorem su_U {m a b : Int} (ha : U a) (hb : U b) : U (suP m a b) := by
  have hN : U 9221120237041090560 := by decide
  by_cases hn : 3 < cl a ∨ 3 < cl b
  · rw [suP_nan hn]; exact hN
  · by_cases ca : cl a = 3
    · by_cases hi : cl b = 3 ∧ a ≠ b
      · rw [(suP_infi ca hi.1 hi.2).1]; exact hN
      · rw [(suP_infa ca (by omega) hi).1]; exact ha
    · by_cases cb : cl b = 3
      · rw [(suP_infb (by omega) cb).1]; exact hb
      · rw [(suP_fin (by omega) (by omega)).1]
        exact (sS_mag (ad_lt m a b).1 (ad_lt m a b).2).2.2.1
theorem fs_lt (m a b c : Int) : 0 ≤ fsP m a b c ∧ fsP m a b c < 9223372036854775808 := by have := fs_bd m a b c; omega
theorem fm_U (m a b : Int) {c : Int} (hc : U c) : U (fmP m a b c) := by
  unfold fmP
  split
  · decide
  · split
    · decide
    · split
      · exact su_U (inf_U _) hc
      · split
        · exact hc
        · exact (sS_mag (fs_lt m a b c).1 (fs_lt m a b c).2).2.2.1
/-! ### the other signs -/
/-! ### what rounding left -/
end Go.Proofs.YtjkgnbdeklploaaGreat
namespace Go.KRun
open Go.RowKit
/-- From state x the code c ends, in one of the ways that 'Post' tells. -/
def Runs (T : Tab) (c : Code) (x : Lf) (Post : Ex → Lf → Prop) : Prop :=
  ∀ m B a w, Rel m B x a w → ∀ Q : Exit → Act → World → Prop, (∀ e y, Post e y → ∀ a' w', Reach m B x.2.1.n w y a' w' → Q (out e) a' w') → c.wp T.P Q a w
theorem Runs.mono {T : Tab} {c : Code} {x : Lf} {P P' : Ex → Lf → Prop} (h : Runs T c x P) (hp : ∀ e y, P e y → P' e y) : Runs T c x P' :=
  fun m B a w R Q hQ => h m B a w R Q fun e y he => hQ e y (hp e y he)
/-- the decisions that are told ahead are no part of the state -/
theorem Runs.script {T : Tab} {c : Code} {t : List Value} {h : Hp} {s s' : List Dec} {P : Ex → Lf → Prop} (hr : Runs T c (t, h, s) P) : Runs T c (t, h, s') P :=
  fun m B a w R Q hQ => hr m B a w ⟨R.tmps, R.dfr, R.emb, R.wf⟩ Q hQ
theorem Runs.ev {T : Tab} (hT : TabOk T) {n : Nat} {c : Code} {x x' : Lf} {e : Ex} {L : Lg} (h : evC T n false c x ⟨[], [], []⟩ = some (e, x', L)) (hL : L.ok) : Runs T c x fun e' y => e' = e ∧ y = x' :=
  fun m B a w R Q hQ => ((evC_ok hT n).1 c x _ e x' L h hL).2 m B a w R Q fun a' w' hR => hQ e x' ⟨rfl, rfl⟩ a' w' hR
theorem Runs.seq {T : Tab} {c1 c2 : Code} {x : Lf} {P1 P : Ex → Lf → Prop} (h1 : Runs T c1 x P1) (h2 : ∀ y, P1 none y → Runs T c2 y P) (h3 : ∀ e y, P1 (some e) y → P (some e) y) : Runs T (.seq c1 c2) x P := by
  intro m B a w R Q hQ
  refine wp_seq (h1 m B a w R _ fun e y he a' w' hR => ?_)
  match e, he with
  | none, he =>
    obtain ⟨m', k1, k2, k3, k4⟩ := hR
    exact h2 y he m' B a' w' k2 Q fun e' y' he' a'' w'' hR' => hQ e' y' he' a'' w'' (Reach.trans k1 k3 k4 hR')
  | some none, he => exact hQ _ _ (h3 none y he) a' w' hR
  | some (some id), he => exact hQ _ _ (h3 (some id) y he) a' w' hR
theorem Runs.block {T : Tab} {c : Code} {id : Nat} {x : Lf} {P1 P : Ex → Lf → Prop} (h1 : Runs T c x P1) (h2 : ∀ y, P1 none y → P none y) (h3 : ∀ y, P1 (some none) y → P (some none) y)
    (h4 : ∀ y, P1 (some (some id)) y → P none y) (h5 : ∀ id' y, id' ≠ id → P1 (some (some id')) y → P (some (some id')) y) : Runs T (.block id c) x P := by
  intro m B a w R Q hQ
  refine wp_block (h1 m B a w R _ fun e y he a' w' hR => ?_)
  match e, he with
  | none, he => exact hQ _ _ (h2 y he) a' w' hR
  | some none, he => exact hQ _ _ (h3 y he) a' w' hR
  | some (some id'), he =>
    simp only [out, Exit.inBlock]
    by_cases hid : id' = id
    · subst hid
      rw [if_pos rfl]
      exact hQ _ _ (h4 y he) a' w' hR
    · rw [if_neg hid]
      exact hQ _ _ (h5 id' y hid he) a' w' hR
/-- a loop: 'Inv n x': at its head in state x, at most n rounds are left -/
theorem Runs.loop {T : Tab} {c : Code} {P : Ex → Lf → Prop} (Inv : Nat → Lf → Prop) (round : ∀ n x, Inv n x → Runs T c x fun e y => match e with | none => ∃ n', n' < n ∧ Inv n' y | some e => P (some e) y) {n : Nat} {x : Lf} (h0 : Inv n x) :
    Runs T (.loop c) x P := by
  have key : ∀ N n x, n < N → Inv n x → ∀ m B a w, Rel m B x a w → ∀ Q : Exit → Act → World → Prop, (∀ e y, P e y → ∀ a' w', Reach m B x.2.1.n w y a' w' → Q (out e) a' w') → Code.rounds T.P c Q N a w := by
    intro N
    induction N with
    | zero => intro n x hn; omega
    | succ N ih =>
      intro n x hn hI m B a w R Q hQ
      rw [rounds_succ]
      refine round n x hI m B a w R _ fun e y he a' w' hR => ?_
      match e, he with
      | none, he =>
        obtain ⟨n', hn', hI'⟩ := he
        obtain ⟨m', k1, k2, k3, k4⟩ := hR
        exact ih n' y (by omega) hI' m' B a' w' k2 Q fun e' y' he' a'' w'' hR' => hQ e' y' he' a'' w'' (Reach.trans k1 k3 k4 hR')
      | some none, he => exact hQ _ _ he a' w' hR
      | some (some id), he => exact hQ _ _ he a' w' hR
  intro m B a w R Q hQ
  exact wp_loop_rounds (n + 1) (key (n + 1) n x (by omega) h0 m B a w R Q hQ)
/-- a call out of its body -/
theorem calls_of_runs {T : Tab} {f : Nat} {F : Func} {c : Code} (hF : T.P.funcs[f]? = some F) (hc : F.body = some c) {vals : List Value} {v : Value} (hvals : (vals.all (lt 0)) = true) (hv : lt 0 v = true)
    (h : Runs T c (vals ++ List.replicate (F.ntmps - vals.length) undef, ⟨0, []⟩, []) fun e y => (e = none ∨ e = some none) ∧ resS T.P F y.1 y.2.1 = some v) (w : World) :
    Calls T.P f vals.toArray w fun e w' => e = .returned v ∧ Tidy w w' := by
  have E : Emb (fun b => (b, 0)) w.heap.size ⟨0, []⟩ w :=
    Emb.none w
  have hst : ∀ y ∈ vals, lt 0 y = true := List.all_eq_true.1 hvals
  have e0 : vals.map (mv fun b => (b, 0)) = vals := (List.map_congr_left fun y hy => mv_still (hst y hy)).trans (List.map_id' _)
  refine calls_of_wp hF hc ?_
  have R : Rel (fun b => (b, 0)) w.heap.size (vals ++ List.replicate (F.ntmps - vals.length) undef, ⟨0, []⟩, []) { tmps := vals.toArray ++ Array.replicate (F.ntmps - vals.toArray.size) undef, defers := [] } w := by
    refine ⟨?_, rfl, E, ?_⟩
    · simp [mv_undef, e0]
    · intro y hy
      rcases List.mem_append.1 hy with hy | hy
      · exact hst y hy
      · rw [List.eq_of_mem_replicate hy]; simp [undef, lt]
  refine h _ _ _ w R _ fun e y he a' w' hR => ?_
  obtain ⟨hex, hres⟩ := he
  obtain ⟨m', k1, k2, k3, k4⟩ := hR
  obtain ⟨r1, r2⟩ := resS_run k2.emb k2.wf hres
  rw [← k2.tmps, mv_still hv] at r1
  have post : a'.defers = [] ∧ ∃ v', (results F a'.tmps).run T.P w' = .ok v' w' ∧ (Ending.returned v' = .returned v ∧ Tidy w w') :=
    ⟨k2.dfr, _, r1, rfl, k3, fun k h1 h2 => k2.emb.ice k h1 h2⟩
  rcases hex with rfl | rfl <;> exact post
/-! ### the pieces of a piece of code -/
def cFst : Code → Code
  | .seq a _ => a
  | c => c
def cSnd : Code → Code
  | .seq _ b => b
  | c => c
def cIn : Code → Code
  | .block _ c => c
  | .loop c => c
  | .scope c => c
  | c => c
def cBody (F : Func) : Code := F.body.getD .skip
/-- pieces one behind the other, ahead of the rest -/
def seqs : List Code → Code → Code
  | [], X => X
  | c :: cs, X => .seq c (seqs cs X)
def evL (T : Tab) (n : Nat) : List Code → Lf → Lg → Option (Ex × Lf × Lg)
  | [], x, L => some (none, x, L)
  | c :: cs, x, L =>
    match evC T n false c x L with
    | some (none, x', L') => evL T n cs x' L'
    | _ => none
theorem evL_ok {T : Tab} (hT : TabOk T) {n : Nat} {X : Code} {P : Ex → Lf → Prop} : ∀ (cs : List Code) (x x' : Lf) (L L' : Lg) (e : Ex), evL T n cs x L = some (e, x', L') → L'.ok → L.ok ∧ e = none ∧ (Runs T X x' P → Runs T (seqs cs X) x P)
  | [], x, x', L, L', e, h, hL => by
    simp only [evL] at h
    cases h
    exact ⟨hL, rfl, id⟩
  | c :: cs, x, x', L, L', e, h, hL => by
    simp only [evL] at h
    split at h
    · rename_i x1 L1 h1
      obtain ⟨g1, g2, g3⟩ := evL_ok hT cs x1 x' L1 L' e h hL
      obtain ⟨g4, g5⟩ := (evC_ok hT n).1 _ _ _ _ _ _ h1 g1
      refine ⟨g4, g2, fun hX m B a w R Q hQ => wp_seq (g5 m B a w R _ fun a' w' hR => ?_)⟩
      obtain ⟨m', k1, k2, k3, k4⟩ := hR
      exact g3 hX m' B a' w' k2 Q fun e' y' he' a'' w'' hR' => hQ e' y' he' a'' w'' (Reach.trans k1 k3 k4 hR')
    · cases h
/-- temporaries of which nothing is known but how many they are -/
def tl (n : Nat) (g : Nat → Value) : List Value := (List.range n).map g
theorem tl_of {J : List Value} {n : Nat} (h : J.length = n) : ∃ g, J = tl n g := by
  refine ⟨fun i => J.getD i undef, ?_⟩
  unfold tl
  refine List.ext_getElem (by simp [h]) fun i h1 h2 => ?_
  simp [h1]
/-- What is to be reckoned of a piece of code: how it ends, the first k temporaries and how many more there are, the memory, what was decided. -/
def GoesT (r : Option (Ex × Lf × Lg)) (k n : Nat) (e : Ex) (front : List Value) (h : Hp) (cs : Log) : Prop :=
  r.map (fun r => (r.1, r.2.1.1.take k, (r.2.1.1.drop k).length, r.2.1.2.1, r.2.2.cs)) = some (e, front, n, h, cs) ∧
    r.map (fun r => r.2.2.es.map Prod.fst) = r.map (fun r => r.2.2.es.map Prod.snd) ∧ r.map (fun r => r.2.2.bs.map Prod.fst) = r.map (fun r => r.2.2.bs.map Prod.snd)
/-- the same, where no order is drawn -/
def GoesE (r : Option (Ex × Lf × Lg)) (k n : Nat) (e : Ex) (front : List Value) (h : Hp) (cs : Log) : Prop :=
  r.map (fun r => (r.1, r.2.1.1.take k, (r.2.1.1.drop k).length, r.2.1.2.1, r.2.2.cs, r.2.2.es, r.2.2.bs)) = some (e, front, n, h, cs, [], [])
theorem GoesE.t {r : Option (Ex × Lf × Lg)} {k n : Nat} {e : Ex} {front : List Value} {h : Hp} {cs : Log} (hG : GoesE r k n e front h cs) : GoesT r k n e front h cs := by
  unfold GoesE at hG
  cases r with
  | none => cases hG
  | some r =>
    simp only [Option.map_some, Option.some.injEq, Prod.mk.injEq] at hG
    obtain ⟨h1, h2, h3, h4, h5, h6, h7⟩ := hG
    refine ⟨?_, ?_, ?_⟩
    · rw [Option.map_some, h1, h2, h3, h4, h5]
    · simp [h6]
    · simp [h7]
theorem goesT_some {r : Option (Ex × Lf × Lg)} {k n : Nat} {e : Ex} {front : List Value} {h : Hp} {cs : Log} (hG : GoesT r k n e front h cs) (hcs : okLog cs) : ∃ g s L, r = some (e, (front ++ tl n g, h, s), L) ∧ L.ok := by
  obtain ⟨h1, h5, h6⟩ := hG
  cases r with
  | none => cases h1
  | some r =>
    simp only [Option.map_some, Option.some.injEq, Prod.mk.injEq] at h1 h5 h6
    obtain ⟨e', ⟨t', h', s'⟩, L⟩ := r
    simp only at h1 h5 h6
    obtain ⟨h1, h2, h3, h4, h7⟩ := h1
    subst h1 h4
    obtain ⟨g, hg⟩ := tl_of h3
    refine ⟨g, s', L, ?_, by rw [h7]; exact hcs, all_eq _ h5, all_eq _ h6⟩
    rw [← h2, ← hg, List.take_append_drop]
theorem goesT_runs {T : Tab} (hT : TabOk T) {N : Nat} {c : Code} {t : List Value} {h h' : Hp} {s s0 : List Dec} {k n : Nat} {e : Ex} {front : List Value} {cs : Log} (hG : GoesT (evC T N false c (t, h, s) ⟨[], [], []⟩) k n e front h' cs) (hcs : okLog cs) :
    Runs T c (t, h, s0) fun e' y => e' = e ∧ (∃ g, y.1 = front ++ tl n g) ∧ y.2.1 = h' := by
  obtain ⟨g, s', L, hr, hL⟩ := goesT_some hG hcs
  refine Runs.script ((Runs.ev hT hr hL).mono fun e2 y he => ?_)
  obtain ⟨rfl, rfl⟩ := he
  exact ⟨rfl, ⟨g, rfl⟩, rfl⟩
theorem goesT_list {T : Tab} (hT : TabOk T) {N : Nat} {l : List Code} {X : Code} {t : List Value} {h h' : Hp} {s s0 : List Dec} {k n : Nat} {e : Ex} {front : List Value} {cs : Log} {P : Ex → Lf → Prop} (hG : GoesT (evL T N l (t, h, s) ⟨[], [], []⟩) k n e front h' cs) (hcs : okLog cs)
    (hX : ∀ g, Runs T X (front ++ tl n g, h', []) P) : Runs T (seqs l X) (t, h, s0) P := by
  obtain ⟨g, s', L, hr, hL⟩ := goesT_some hG hcs
  obtain ⟨_, _, h3⟩ := evL_ok (X := X) (P := P) hT l _ _ _ _ _ hr hL
  exact Runs.script (h3 (Runs.script (hX g)))
/-- a 'for': what stands ahead of it, and its rounds -/
theorem Runs.forLoop {T : Tab} {c : Code} {id : Nat} {x : Lf} {P : Lf → Prop} {R : Lf → Prop} (Inv : Nat → Lf → Prop)
    (round : ∀ n x, Inv n x → Runs T c x fun e y => match e with | none => ∃ n', n' < n ∧ Inv n' y | some none => R y | some (some id') => id' = id ∧ P y) {n : Nat} (h0 : Inv n x) :
    Runs T (.block id (.loop c)) x fun e y => match e with | none => P y | some none => R y | some (some _) => False := by
  refine Runs.block (P1 := fun e y => match e with | none => False | some none => R y | some (some id') => id' = id ∧ P y) ?_ (fun y he => he.elim) (fun y he => he) (fun y he => he.2) (fun id' y hid he => absurd he.1 hid)
  refine Runs.loop Inv (fun n x hI => (round n x hI).mono fun e y he => ?_) h0
  match e, he with
  | none, he => exact he
  | some none, he => exact he
  | some (some id'), he => exact he
/-! ### values that point into some blocks alone -/
def oc1 (bs : List Nat) : Value → Bool
  | .pointer (some a) => bs.contains a.block
  | .slice (some a) _ _ => bs.contains a.block
  | .map (some b) => bs.contains b
  | .iface t _ => !(Nat.beq t dead)
  | _ => true
def oc2 (bs : List Nat) : Value → Bool
  | .agg cs => cs.toList.all (oc1 bs)
  | v => oc1 bs v
def oc (bs : List Nat) : Value → Bool
  | .tuple vs => vs.toList.all (oc2 bs)
  | v => oc2 bs v
theorem mv1_on {m m' : Mp} {bs : List Nat} (h : ∀ b ∈ bs, m b = m' b) {v : Value} (hv : oc1 bs v = true) : mv1 m v = mv1 m' v := by
  unfold mv1
  split
  · simp only [oc1, List.contains_iff_mem] at hv; simp [mvA, h _ hv]
  · simp only [oc1, List.contains_iff_mem] at hv; simp [mvA, h _ hv]
  · simp only [oc1, List.contains_iff_mem] at hv; simp [h _ hv]
  · rfl
  · rfl
theorem mv2_on {m m' : Mp} {bs : List Nat} (h : ∀ b ∈ bs, m b = m' b) {v : Value} (hv : oc2 bs v = true) : mv2 m v = mv2 m' v := by
  unfold mv2
  split
  · rename_i cs
    simp only [oc2, List.all_eq_true] at hv
    congr 1
    exact Array.map_congr_left fun x hx => mv1_on h (hv x (by simpa using hx))
  · rename_i hna
    refine mv1_on h ?_
    unfold oc2 at hv
    split at hv
    · rename_i cs; exact absurd rfl (hna cs)
    · exact hv
theorem mv_on {m m' : Mp} {bs : List Nat} (h : ∀ b ∈ bs, m b = m' b) {v : Value} (hv : oc bs v = true) : mv m v = mv m' v := by
  unfold mv
  split
  · rename_i vs
    simp only [oc, List.all_eq_true] at hv
    congr 1
    exact Array.map_congr_left fun x hx => mv2_on h (hv x (by simpa using hx))
  · rename_i hna
    refine mv2_on h ?_
    unfold oc at hv
    split at hv
    · rename_i cs; exact absurd rfl (hna cs)
    · exact hv
theorem oc_ren {bs : List Nat} {f : Nat → Nat} {n : Nat} (hf : ∀ b ∈ bs, f b < n) {v : Value} (hv : oc bs v = true) : lt n (rn f v) = true := by
  have h1 : ∀ v, oc1 bs v = true → lt1 n (rn1 f v) = true := fun v h => by
    cases v with
    | pointer a =>
      cases a with
      | none => rfl
      | some a => simp only [oc1, List.contains_iff_mem] at h; exact blt_iff.2 (hf _ h)
    | map a =>
      cases a with
      | none => rfl
      | some a => simp only [oc1, List.contains_iff_mem] at h; exact blt_iff.2 (hf _ h)
    | slice a l c =>
      cases a with
      | none => rfl
      | some a => simp only [oc1, List.contains_iff_mem] at h; exact blt_iff.2 (hf _ h)
    | iface t u => simp only [oc1, Bool.not_eq_true'] at h; simp [rn1, lt1, h]
    | _ => rfl
  have h2 : ∀ v, oc2 bs v = true → lt2 n (rn2 f v) = true := fun v h => by
    cases v with
    | agg cs =>
      simp only [oc2, lt2, rn2, Array.toList_map, List.all_eq_true, List.mem_map] at *
      rintro _ ⟨y, hy, rfl⟩
      exact h1 y (h y hy)
    | pointer a =>
      cases a with
      | none => rfl
      | some a => exact h1 (.pointer (some a)) h
    | map a =>
      cases a with
      | none => rfl
      | some a => exact h1 (.map (some a)) h
    | slice a l c =>
      cases a with
      | none => rfl
      | some a => exact h1 (.slice (some a) l c) h
    | iface t u => exact h1 (.iface t u) h
    | _ => rfl
  cases v with
  | tuple cs =>
    simp only [oc, lt, rn, Array.toList_map, List.all_eq_true, List.mem_map] at *
    rintro _ ⟨y, hy, rfl⟩
    exact h2 y (hv y hy)
  | agg cs => exact h2 (.agg cs) hv
  | pointer a =>
    cases a with
    | none => rfl
    | some a => exact h1 (.pointer (some a)) hv
  | map a =>
    cases a with
    | none => rfl
    | some a => exact h1 (.map (some a)) hv
  | slice a l c =>
    cases a with
    | none => rfl
    | some a => exact h1 (.slice (some a) l c) hv
  | iface t u => exact h1 (.iface t u) hv
  | _ => rfl
/-! ### the smallest memory -/
/-- rows that are only read, no address in them -/
def Hp.rows (h : Hp) : Prop := h.l.length = h.n ∧ ∀ b x, h.blk? b = some x → ro x.2 = true ∧ (∀ v ∈ x.1, still v = true) ∧ ab x.2 = false
/-- these rows are there: block i's cells are the first of block s i's -/
def Hp.fits (h0 : Hp) (s : Nat → Nat) (h : Hp) : Prop := ∀ i x, h0.blk? i = some x → tomb x.2 = false → ∃ y r, h.blk? (s i) = some y ∧ tomb y.2 = false ∧ rt y.2 = rt x.2 ∧ y.1 = x.1 ++ r
theorem Emb.small {m : Mp} {B : Nat} {h h0 : Hp} {w : World} {s : Nat → Nat} (E : Emb m B h w) (hr : h0.rows) (hf : h0.fits s h) : Emb (fun i => m (s i)) w.heap.size h0 w where
  len := hr.1
  lies := fun b x hb hx => by
    obtain ⟨y, r, h1, h2, h3, h4⟩ := hf b x hb hx
    obtain ⟨r', z, l0, l1, _⟩ := E.lies _ _ h1 h2
    have calm := (hr.2 b x hb).2.1
    have e : x.1.map (mv1 m) = x.1.map (mv1 fun i => m (s i)) := still_map calm
    rw [h4, List.map_append] at l0 l1
    refine ⟨r.map (mv1 m) ++ r', z, ?_, ?_, fun hro => ?_⟩
    · simp at l0 ⊢; omega
    · rw [← e, l1, List.append_assoc]
    · rw [(hr.2 b x hb).1] at hro; cases hro
  low := fun b x hb hro => by rw [(hr.2 b x hb).1] at hro; cases hro
  ros := fun b x hb hx _ => by
    obtain ⟨y, r, h1, h2, _, _⟩ := hf b x hb hx
    exact E.here h1 h2
  inj := fun b b' x x' hb _ hro => by rw [(hr.2 b x hb).1] at hro; cases hro
  wf := fun b x hb v hv => still_lt (Nat.lt_of_le_of_lt (Nat.zero_le _) (Hp.blk_lt hb)) ((hr.2 b x hb).2.1 v hv)
  base := Nat.le_refl _
  ice := fun k h1 h2 => by omega
  abs := fun b x hb hx => by rw [(hr.2 b x hb).2.2] at hx; cases hx
end Go.KRun
namespace Go.Proofs.YtjkgnbdeklploaaGreat
open Go.KRun
set_option maxRecDepth 100000
theorem wrapI {n : Int} (h0 : -9223372036854775808 ≤ n) (h1 : n ≤ 9223372036854775807) : IntKind.i64.wrap n = n := by
  simp [IntKind.wrap, IntKind.bits, IntKind.signed]; omega
/-! ### what is known of calls with rows -/
abbrev Hc := Nat → List Value → Hp → List Dec → Option (Value × Hp × List Dec × Log)
abbrev AnsH := List Value → Hp → List Dec → Option (Value × Hp × List Dec × Log)
def AnsHOk (f : Nat) (g : AnsH) : Prop := ∀ vals h s v h' s' lg, g vals h s = some (v, h', s', lg) → okLog lg → ∀ m B w, Emb m B h w → (∀ v ∈ vals, lt h.n v = true) → Calls Tryz.prog f (vals.map (mv m)).toArray w fun e w' => ∃ m', e = .returned (mv m' v) ∧ Came m B h w v h' m' w'
structure HcOk (hc : Hc) : Prop where
  fn : ∀ f vals h s r, hc f vals h s = some r → ∃ F, Tryz.prog.funcs[f]? = some F ∧ F.body.isSome = true
  calls : ∀ f, AnsHOk f (hc f)
def hcN : Hc := fun _ _ _ _ => none
theorem hcN_ok : HcOk hcN := ⟨fun _ _ _ _ _ h => (by cases h), fun _ _ _ _ _ _ _ _ h => (by cases h)⟩
def altH (f : Nat) (g : AnsH) (hc : Hc) : Hc := fun f' vals h s => if Nat.beq f' f = true then g vals h s else hc f' vals h s
theorem altH_ok {f : Nat} {F : Func} (hF : Tryz.prog.funcs[f]? = some F) (hb : F.body.isSome = true) {g : AnsH} (hg : AnsHOk f g) {hc : Hc} (h : HcOk hc) : HcOk (altH f g hc) where
  fn := fun f' vals h' s r hr => by
    unfold altH at hr
    split at hr
    · rename_i e
      rw [Nat.eq_of_beq_eq_true e]
      exact ⟨F, hF, hb⟩
    · exact h.fn _ _ _ _ _ hr
  calls := fun f' vals h' s v h'' s' lg hr => by
    unfold altH at hr
    split at hr
    · rename_i e
      rw [Nat.eq_of_beq_eq_true e]
      exact hg _ _ _ _ _ _ _ hr
    · exact h.calls f' _ _ _ _ _ _ _ hr
def tabH (P : Program) (ext : Nat → List Value → Option (Value × Log)) (con : Con) (hc : Hc) : Tab := { P := P, fn := fun f => P.funcs[f]?, ext := ext, con := con, sym := true, hc := hc }
theorem tabH_ok {con : Con} (h : ConOk con) {hc : Hc} (hh : HcOk hc) : TabOk (tabH Tryz.prog extY con hc) where
  mixed := mixed
  ext := extY_ok
  con := fun f vals s v s' lg hc hl => ⟨by obtain ⟨F, h1, h2⟩ := h.fn f vals s v s' lg hc; exact ⟨F, (fns_ok f F h1).1, (fns_ok f F h1).2, h2⟩, h.calls f vals s v s' lg hc hl⟩
  fn := fns_ok
  hc := fun f vals h0 s v h' s' lg hr hl => ⟨by obtain ⟨F, h1, h2⟩ := hh.fn f vals h0 s _ hr; exact ⟨F, (fns_ok f F h1).1, (fns_ok f F h1).2, h2⟩, hh.calls f vals h0 s v h' s' lg hr hl⟩
end Go.Proofs.YtjkgnbdeklploaaGreat
namespace Go.Proofs.YtjkgnbdeklploaaGreat
open Go.KRun
set_option maxRecDepth 100000
/-! ### Add -/
end Go.Proofs.YtjkgnbdeklploaaGreat
namespace Go.Proofs.YtjkgnbdeklploaaGreat
open Go.KRun
def vRN (m : Bool) (e : Int) (v : Value) : Value := .agg #[.bool m, .int .i64 e, v]
end Go.Proofs.YtjkgnbdeklploaaGreat
namespace Go.Proofs.YtjkgnbdeklploaaGreat
open Go.KRun Go.Wd
set_option maxRecDepth 100000
set_option linter.unusedVariables false
end Go.Proofs.YtjkgnbdeklploaaGreat
namespace Go.Proofs.YtjkgnbdeklploaaGreat
open Go.KRun Go.Wd Go.Pt Go.Rn
set_option maxRecDepth 100000
theorem rnF_bd6 (m : Int) (n : Bool) (T : Nat) (E : Int) : 0 ≤ rnF m n T E ∧ rnF m n T E ≤ 24 := by
  unfold rnF
  split
  · omega
  · split
    · omega
    · split
      · split <;> omega
      · omega
theorem suF_bd6 (m a b : Int) : 0 ≤ suF m a b ∧ suF m a b ≤ 24 := by
  have h' : 0 ≤ adF m a b ∧ adF m a b ≤ 24 := rnF_bd6 _ _ _ _
  unfold suF
  split
  · split <;> omega
  · split
    · split <;> omega
    · split <;> omega
theorem fmF_bd (m a b c : Int) : 0 ≤ fmF m a b c ∧ fmF m a b c ≤ 24 := by
  have h' : 0 ≤ fsF m a b c ∧ fsF m a b c ≤ 24 := rnF_bd6 _ _ _ _
  unfold fmF
  split
  · omega
  · split
    · split <;> omega
    · split
      · exact suF_bd6 _ _ _
      · split <;> omega
theorem rnF_bd5 (m : Int) (n : Bool) (T : Nat) (E : Int) : 0 ≤ rnF m n T E ∧ rnF m n T E ≤ 24 := by
  unfold rnF
  split
  · omega
  · split
    · omega
    · split
      · split <;> omega
      · omega
theorem suF_bd (m a b : Int) : 0 ≤ suF m a b ∧ suF m a b ≤ 24 := by
  have h := rnF_bd5 m (adN m a b) (psI a b).natAbs (-1074)
  have h' : 0 ≤ adF m a b ∧ adF m a b ≤ 24 := h
  unfold suF
  split
  · split <;> omega
  · split
    · split <;> omega
    · split <;> omega
/-- flags that are told together, as bytes and as whole numbers -/
def orB (f g : Int) : Int := IntKind.u8.wrap ((BitVec.ofInt IntKind.u8.bits f ||| BitVec.ofInt IntKind.u8.bits g).toNat : Nat)
def orI (f g : Int) : Int := IntKind.i64.wrap ((BitVec.ofInt IntKind.i64.bits f ||| BitVec.ofInt IntKind.i64.bits g).toNat : Nat)
/-- a pair and flags -/
def cpB (p q f : Int) : Value := .tuple #[.agg #[.int .u64 p, .int .u64 q], .int .u8 f]
abbrev fl5 (f : Int) : Prop := 0 ≤ f ∧ f < 32
theorem or_same {f g : Int} (hf : fl5 f) (hg : fl5 g) : orB f g = orI f g ∧ fl5 (orB f g) := by
  obtain ⟨x, rfl⟩ : ∃ x : Fin 32, f = (x.val : Int) := ⟨⟨f.toNat, by unfold fl5 at hf; omega⟩, by unfold fl5 at hf; simp; omega⟩
  obtain ⟨y, rfl⟩ : ∃ y : Fin 32, g = (y.val : Int) := ⟨⟨g.toNat, by unfold fl5 at hg; omega⟩, by unfold fl5 at hg; simp; omega⟩
  have h : ∀ x y : Fin 32, decide (orB (x.val : Int) (y.val : Int) = orI (x.val : Int) (y.val : Int)) = true ∧ decide (0 ≤ orB (x.val : Int) (y.val : Int) ∧ orB (x.val : Int) (y.val : Int) < 32) = true := by decide +kernel
  exact ⟨of_decide_eq_true (h x y).1, of_decide_eq_true (h x y).2⟩
theorem png_p (p : Int) : Fits (reckon (tabOf Tryz.prog extY conN true) 300 31 [.int .u64 p] []) (.int .u64 (bXor p 9223372036854775808)) [] := ⟨by kernel_rfl, by kernel_rfl, by kernel_rfl, by kernel_rfl⟩
theorem png_calls (p : Int) (hp : U p) (w : World) : Calls Tryz.prog 31 #[.int .u64 p] w fun r w' => r = .returned (.int .u64 (ng p)) ∧ Tidy w w' := by
  have hv : ([.int .u64 p].all (lt 0)) = true := rfl
  rw [← bXor_ng hp]
  exact fits_calls (tabY_ok conN_ok) (png_p p) (fun _ h => by cases h) hv (by rfl) w
def conCg : Con := alt 31 (gU fun p => .int .u64 (ng p)) conN
theorem conCg_ok : ConOk conCg := alt_ok Tryz.func31 rfl (gU_ok png_calls) conN_ok
def conCd : Con := alt 29 gSA conCg
theorem conCd_ok : ConOk conCd := alt_ok Tryz.func29 rfl gSA_ok conCg_ok
theorem ssb_p (a b m : Int) : Fits (reckon (tabOf Tryz.prog extY conCd true) 300 30 [.int .u64 a, .int .u64 b, .int .i64 m] []) (suV m a (ng b)) [(decide (U a ∧ U (ng b)), true), (decide (U b), true)] := ⟨by kernel_rfl, by kernel_rfl, by kernel_rfl, by kernel_rfl⟩
def gSS : Ans := fun vals s =>
  match vals with
  | [.int .u64 a, .int .u64 b, .int .i64 m] => some (suV m a (ng b), s, [(decide (U a ∧ U b), true)])
  | _ => none
theorem gSS_ok : AnsOk 30 gSS := by
  intro vals s v s' lg h hl w
  unfold gSS at h
  split at h
  · cases h
    obtain ⟨h1, h2⟩ := of_decide_eq_true (hl _ (List.mem_singleton.2 rfl))
    exact fits_calls (tabY_ok conCd_ok) (ssb_p _ _ _) (okCons (decide_eq_true ⟨h1, (ng_parts h2).1⟩) (okL1 (decide_eq_true h2))) rfl (by rfl) w
  · cases h
def conC1 : Con := alt 30 gSS (alt 29 gSA conCg)
theorem conC1_ok : ConOk conC1 := alt_ok Tryz.func30 rfl gSS_ok (alt_ok Tryz.func29 rfl gSA_ok conCg_ok)
def conC2 : Con := alt 45 gPF conCg
theorem conC2_ok : ConOk conC2 := alt_ok Tryz.func45 rfl gPF_ok conCg_ok
/-- a pair of patterns -/
def pX (a b : Int) : Value := .agg #[.int .u64 a, .int .u64 b]
def gXY (k : Int → Int → Int → Int → Value) : Ans := fun vals s =>
  match vals with
  | [.agg ⟨[.int .u64 a, .int .u64 b]⟩, .agg ⟨[.int .u64 c, .int .u64 d]⟩] => some (k a b c d, s, [(decide (U a ∧ U b ∧ U c ∧ U d), true)])
  | _ => none
theorem gXY_ok {f : Nat} {k : Int → Int → Int → Int → Value} (hk : ∀ a b c d : Int, U a → U b → U c → U d → ∀ w, Calls Tryz.prog f #[pX a b, pX c d] w fun e w' => e = .returned (k a b c d) ∧ Tidy w w') : AnsOk f (gXY k) := by
  intro vals s v s' lg h hl w
  unfold gXY at h
  split at h
  · cases h
    obtain ⟨h1, h2, h3, h4⟩ := of_decide_eq_true (hl _ (List.mem_singleton.2 rfl))
    exact hk _ _ _ _ h1 h2 h3 h4 w
  · cases h
def gXB (k : Int → Int → Bool → Value) : Ans := fun vals s =>
  match vals with
  | [.agg ⟨[.int .u64 a, .int .u64 b]⟩, .bool t] => some (k a b t, s, [(decide (U a ∧ U b), true)])
  | _ => none
theorem gXB_ok {f : Nat} {k : Int → Int → Bool → Value} (hk : ∀ (a b : Int) (t : Bool), U a → U b → ∀ w, Calls Tryz.prog f #[pX a b, .bool t] w fun e w' => e = .returned (k a b t) ∧ Tidy w w') : AnsOk f (gXB k) := by
  intro vals s v s' lg h hl w
  unfold gXB at h
  split at h
  · cases h
    obtain ⟨h1, h2⟩ := of_decide_eq_true (hl _ (List.mem_singleton.2 rfl))
    exact hk _ _ _ h1 h2 w
  · cases h
def caV (a b c d : Int) : Value := cpB (suP 0 a c) (suP 0 b d) (orB (suF 0 a c) (suF 0 b d))
def csV (a b c d : Int) : Value := cpB (suP 0 a (ng c)) (suP 0 b (ng d)) (orB (suF 0 a (ng c)) (suF 0 b (ng d)))
def tnV (a b : Int) (t : Bool) : Value := bif t then pX b (ng a) else pX (ng b) a
theorem caFt (a b c d : Int) : Fits (reckon (tabOf Tryz.prog extY conC1 true) 300 20 [.agg #[.int .u64 a, .int .u64 b], .agg #[.int .u64 c, .int .u64 d]] []) (cpB (suP 0 a c) (suP 0 b d) (orB (suF 0 a c) (suF 0 b d))) [(decide (U b ∧ U d), true), (decide (U a ∧ U c), true)] := ⟨by kernel_rfl, by kernel_rfl, by kernel_rfl, by kernel_rfl⟩
theorem ca_calls (a b c d : Int) (ha : U a) (hb : U b) (hc : U c) (hd : U d) (w : World) : Calls Tryz.prog 20 #[pX a b, pX c d] w fun r w' => r = .returned (caV a b c d) ∧ Tidy w w' :=
  fits_calls (tabY_ok conC1_ok) (caFt a b c d) (okCons (decide_eq_true ⟨hb, hd⟩) (okL1 (decide_eq_true ⟨ha, hc⟩))) rfl (by rfl) w
theorem csFt (a b c d : Int) : Fits (reckon (tabOf Tryz.prog extY conC1 true) 300 21 [.agg #[.int .u64 a, .int .u64 b], .agg #[.int .u64 c, .int .u64 d]] []) (cpB (suP 0 a (ng c)) (suP 0 b (ng d)) (orB (suF 0 a (ng c)) (suF 0 b (ng d)))) [(decide (U b ∧ U d), true), (decide (U a ∧ U c), true)] := ⟨by kernel_rfl, by kernel_rfl, by kernel_rfl, by kernel_rfl⟩
theorem cs_calls (a b c d : Int) (ha : U a) (hb : U b) (hc : U c) (hd : U d) (w : World) : Calls Tryz.prog 21 #[pX a b, pX c d] w fun r w' => r = .returned (csV a b c d) ∧ Tidy w w' :=
  fits_calls (tabY_ok conC1_ok) (csFt a b c d) (okCons (decide_eq_true ⟨hb, hd⟩) (okL1 (decide_eq_true ⟨ha, hc⟩))) rfl (by rfl) w
theorem ctt (a b : Int) : Fits (reckon (tabOf Tryz.prog extY conC2 true) 300 22 [.agg #[.int .u64 a, .int .u64 b], .bool true] []) (.agg #[.int .u64 b, .int .u64 (ng a)]) [(decide (U a), true)] := ⟨by kernel_rfl, by kernel_rfl, by kernel_rfl, by kernel_rfl⟩
theorem ctf (a b : Int) : Fits (reckon (tabOf Tryz.prog extY conC2 true) 300 22 [.agg #[.int .u64 a, .int .u64 b], .bool false] []) (.agg #[.int .u64 (ng b), .int .u64 a]) [(decide (U b), true)] := ⟨by kernel_rfl, by kernel_rfl, by kernel_rfl, by kernel_rfl⟩
theorem ct_calls (a b : Int) (t : Bool) (ha : U a) (hb : U b) (w : World) : Calls Tryz.prog 22 #[pX a b, .bool t] w fun r w' => r = .returned (tnV a b t) ∧ Tidy w w' := by
  cases t
  · exact fits_calls (tabY_ok conC2_ok) (ctf a b) (okL1 (decide_eq_true hb)) rfl (by rfl) w
  · exact fits_calls (tabY_ok conC2_ok) (ctt a b) (okL1 (decide_eq_true ha)) rfl (by rfl) w
theorem suF_5 (m a b : Int) : fl5 (suF m a b) := by have := suF_bd m a b; unfold fl5; omega
theorem fmF_5 (m a b c : Int) : fl5 (fmF m a b c) := by have := fmF_bd m a b c; unfold fl5; omega
def gXP (k : Int → Int → Int → Value) : Ans := fun vals s =>
  match vals with
  | [.agg ⟨[.int .u64 a, .int .u64 b]⟩, .int .u64 p] => some (k a b p, s, [(decide (U a ∧ U b ∧ U p), true)])
  | _ => none
def gXPX (k : Int → Int → Int → Int → Int → Value) : Ans := fun vals s =>
  match vals with
  | [.agg ⟨[.int .u64 a, .int .u64 b]⟩, .int .u64 p, .agg ⟨[.int .u64 c, .int .u64 d]⟩] => some (k a b p c d, s, [(decide (U a ∧ U b ∧ U p ∧ U c ∧ U d), true)])
  | _ => none
theorem gXPX_ok {f : Nat} {k : Int → Int → Int → Int → Int → Value} (hk : ∀ a b p c d : Int, U a → U b → U p → U c → U d → ∀ w, Calls Tryz.prog f #[pX a b, .int .u64 p, pX c d] w fun e w' => e = .returned (k a b p c d) ∧ Tidy w w') : AnsOk f (gXPX k) := by
  intro vals s v s' lg h hl w
  unfold gXPX at h
  split at h
  · cases h
    obtain ⟨h1, h2, h3, h4, h5⟩ := of_decide_eq_true (hl _ (List.mem_singleton.2 rfl))
    exact hk _ _ _ _ _ h1 h2 h3 h4 h5 w
  · cases h
def coV17 (a b p c d : Int) : Value := cpB (fmP 0 a p c) (fmP 0 b p d) (orB (fmF 0 a p c) (fmF 0 b p d))
theorem mo17 (a b p c d : Int) : Fits (reckon (tabOf Tryz.prog extY conC2 true) 300 35 [pX a b, .int .u64 p, pX c d] []) (coV17 a b p c d) [(decide (U b ∧ U p ∧ U d), true), (decide (U a ∧ U p ∧ U c), true)] := ⟨by kernel_rfl, by kernel_rfl, by kernel_rfl, by kernel_rfl⟩
theorem mo17_calls (a b p c d : Int) (ha : U a) (hb : U b) (hp : U p) (hc : U c) (hd : U d) (w : World) : Calls Tryz.prog 35 #[pX a b, .int .u64 p, pX c d] w fun r w' => r = .returned (coV17 a b p c d) ∧ Tidy w w' :=
  fits_calls (tabY_ok conC2_ok) (mo17 a b p c d) (okCons (decide_eq_true ⟨hb, hp, hd⟩) (okL1 (decide_eq_true ⟨ha, hp, hc⟩))) rfl (by rfl) w
end Go.Proofs.YtjkgnbdeklploaaGreat
