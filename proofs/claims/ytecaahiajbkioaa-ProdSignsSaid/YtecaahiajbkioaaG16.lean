/-
  prod.Mul, as a call in every world.
-/
import Derived.Test.YtecaahiajbkioaaG15
namespace Go.Proofs.Ytecaahiajbkioaa
open Go.KRun Go.Wd Go.Pt Go.Rn
set_option maxRecDepth 100000

theorem ml_bad (a b m : Int) : Fits (reckon (tabOf Try.prog extY conP1 true) 300 8 [.int .u64 a, .int .u64 b, .int .i64 m] [cmp true]) (rdT 9221120237041090560 1) [(badB a b, true), (decide (U a ∧ U b), true)] := ⟨by kernel_rfl, by kernel_rfl, by kernel_rfl, by kernel_rfl⟩
theorem ml_n1 (a b m : Int) : Fits (reckon (tabOf Try.prog extY conP1 true) 300 8 [.int .u64 a, .int .u64 b, .int .i64 m] [cmp false, cmp true, cmp true, cmp true]) (rdT 9221120237041090560 1) [(cl a == 5, true), lU a, (decide ((0 : Int) < ((2 : Nat) : Int)), true), (decide (cl a > 3), true), lU a, (badB a b, false), (decide (U a ∧ U b), true)] := ⟨by kernel_rfl, by kernel_rfl, by kernel_rfl, by kernel_rfl⟩
theorem ml_n2 (a b m : Int) : Fits (reckon (tabOf Try.prog extY conP1 true) 300 8 [.int .u64 a, .int .u64 b, .int .i64 m] [cmp false, cmp true, cmp true, cmp false, cmp true, cmp true]) (rdT 9221120237041090560 1) [(cl b == 5, true), lU b, (decide (IntKind.i64.wrap (0 + 1) < ((2 : Nat) : Int)), true), (cl a == 5, false), lU a, (decide ((0 : Int) < ((2 : Nat) : Int)), true), (decide (cl a > 3), true), lU a, (badB a b, false), (decide (U a ∧ U b), true)] := ⟨by kernel_rfl, by kernel_rfl, by kernel_rfl, by kernel_rfl⟩
theorem ml_n3 (a b m : Int) : Fits (reckon (tabOf Try.prog extY conP1 true) 300 8 [.int .u64 a, .int .u64 b, .int .i64 m] [cmp false, cmp true, cmp true, cmp false, cmp true, cmp false, cmp false]) (rdT 9221120237041090560 0) [(decide (IntKind.i64.wrap (IntKind.i64.wrap (0 + 1) + 1) < ((2 : Nat) : Int)), false), (cl b == 5, false), lU b, (decide (IntKind.i64.wrap (0 + 1) < ((2 : Nat) : Int)), true), (cl a == 5, false), lU a, (decide ((0 : Int) < ((2 : Nat) : Int)), true), (decide (cl a > 3), true), lU a, (badB a b, false), (decide (U a ∧ U b), true)] := ⟨by kernel_rfl, by kernel_rfl, by kernel_rfl, by kernel_rfl⟩
theorem ml_m2 (a b m : Int) : Fits (reckon (tabOf Try.prog extY conP1 true) 300 8 [.int .u64 a, .int .u64 b, .int .i64 m] [cmp false, cmp false, cmp true, cmp true, cmp false, cmp true, cmp true]) (rdT 9221120237041090560 1) [(cl b == 5, true), lU b, (decide (IntKind.i64.wrap (0 + 1) < ((2 : Nat) : Int)), true), (cl a == 5, false), lU a, (decide ((0 : Int) < ((2 : Nat) : Int)), true), (decide (cl b > 3), true), lU b, (decide (cl a > 3), false), lU a, (badB a b, false), (decide (U a ∧ U b), true)] := ⟨by kernel_rfl, by kernel_rfl, by kernel_rfl, by kernel_rfl⟩
theorem ml_m3 (a b m : Int) : Fits (reckon (tabOf Try.prog extY conP1 true) 300 8 [.int .u64 a, .int .u64 b, .int .i64 m] [cmp false, cmp false, cmp true, cmp true, cmp false, cmp true, cmp false, cmp false]) (rdT 9221120237041090560 0) [(decide (IntKind.i64.wrap (IntKind.i64.wrap (0 + 1) + 1) < ((2 : Nat) : Int)), false), (cl b == 5, false), lU b, (decide (IntKind.i64.wrap (0 + 1) < ((2 : Nat) : Int)), true), (cl a == 5, false), lU a, (decide ((0 : Int) < ((2 : Nat) : Int)), true), (decide (cl b > 3), true), lU b, (decide (cl a > 3), false), lU a, (badB a b, false), (decide (U a ∧ U b), true)] := ⟨by kernel_rfl, by kernel_rfl, by kernel_rfl, by kernel_rfl⟩
theorem ml_ea (a b m : Int) : Fits (reckon (tabOf Try.prog extY conP1 true) 300 8 [.int .u64 a, .int .u64 b, .int .i64 m] [cmp false, cmp false, cmp false, cmp true]) (rdT (sS (prN a b) inf) 0) [(true, true), (decide (U a ∧ U b), true), (cl a == 3, true), lU a, (decide (cl b > 3), false), lU b, (decide (cl a > 3), false), lU a, (badB a b, false), (decide (U a ∧ U b), true)] := ⟨by kernel_rfl, by kernel_rfl, by kernel_rfl, by kernel_rfl⟩
theorem ml_eb (a b m : Int) : Fits (reckon (tabOf Try.prog extY conP1 true) 300 8 [.int .u64 a, .int .u64 b, .int .i64 m] [cmp false, cmp false, cmp false, cmp false, cmp true]) (rdT (sS (prN a b) inf) 0) [(true, true), (decide (U a ∧ U b), true), (cl b == 3, true), lU b, (cl a == 3, false), lU a, (decide (cl b > 3), false), lU b, (decide (cl a > 3), false), lU a, (badB a b, false), (decide (U a ∧ U b), true)] := ⟨by kernel_rfl, by kernel_rfl, by kernel_rfl, by kernel_rfl⟩
theorem ml_fin (a b m : Int) : Fits (reckon (tabOf Try.prog extY conP1 true) 300 8 [.int .u64 a, .int .u64 b, .int .i64 m] [cmp false, cmp false, cmp false, cmp false, cmp false]) (rdV m (prN a b) (tw (ofN (prV a b)) false) (clp (prE a b) - 1)) [(decide (ofN (prV a b)).ok, true), (finB a b, true), (decide (U a ∧ U b), true), (cl b == 3, false), lU b, (cl a == 3, false), lU a, (decide (cl b > 3), false), lU b, (decide (cl a > 3), false), lU a, (badB a b, false), (decide (U a ∧ U b), true)] := ⟨by kernel_rfl, by kernel_rfl, by kernel_rfl, by kernel_rfl⟩
/-- what Mul answers -/
def muP (m a b : Int) : Int := if badB a b = true then 9221120237041090560 else if 3 < cl a ∨ 3 < cl b then 9221120237041090560 else if cl a = 3 ∨ cl b = 3 then sS (prN a b) inf else sS (prN a b) (mlP m a b)
def muF (m a b : Int) : Int := if badB a b = true then 1 else if 3 < cl a ∨ 3 < cl b then (if cl a = 5 ∨ cl b = 5 then 1 else 0) else if cl a = 3 ∨ cl b = 3 then 0 else mlF m a b
theorem prV_256 (a b : Int) : prV a b < 2 ^ 256 := by
  have := prV_lt a b
  exact Nat.lt_trans this (by decide)
theorem px_round (m a b : Int) : rdV m (prN a b) (tw (ofN (prV a b)) false) (clp (prE a b) - 1) = rdT (sS (prN a b) (mlP m a b)) (mlF m a b) := by
  obtain ⟨c1, c2⟩ := clp_round m (prN a b) (ofN_ok (prV a b)) false (prE a b)
  have e := tw_of (prV_256 a b) false
  have e2 : 2 * prV a b + bN false = prV a b * 2 ^ 1 := by show 2 * prV a b + 0 = _; omega
  have p := rnP_scale m (prN a b) (prV a b) 1 (prE a b)
  have q := rnF_scale m (prN a b) (prV a b) 1 (prE a b)
  have e3 : prE a b - ((1 : Nat) : Int) = prE a b - 1 := rfl
  rw [e3] at p q
  unfold rdV mlP mlF
  rw [c1, c2, e, e2, p, q]
theorem pmul_calls (a b m : Int) (ha : U a) (hb : U b) (w : World) : Calls Try.prog 8 #[.int .u64 a, .int .u64 b, .int .i64 m] w fun r w' => r = .returned (rdT (muP m a b) (muF m a b)) ∧ Tidy w w' := by
  have hv : ([.int .u64 a, .int .u64 b, .int .i64 m].all (lt 0)) = true := rfl
  have T := tabY_ok conP1_ok
  have ka : decide (U a) = true := decide_eq_true ha
  have kb : decide (U b) = true := decide_eq_true hb
  have kab : decide (U a ∧ U b) = true := decide_eq_true ⟨ha, hb⟩
  have ba := cl_bd a
  have bb := cl_bd b
  unfold muP muF
  by_cases hbd : badB a b = true
  · rw [if_pos hbd, if_pos hbd]
    exact fits_calls T (ml_bad a b m) (okCons hbd (okL1 kab)) hv (by rfl) w
  · have hb0 : badB a b = false := by simpa using hbd
    rw [if_neg hbd, if_neg hbd]
    by_cases ha3 : 3 < cl a
    · rw [if_pos (.inl ha3), if_pos (.inl ha3)]
      by_cases a5 : cl a = 5
      · rw [if_pos (.inl a5)]
        exact fits_calls T (ml_n1 a b m) (okCons (beq_t a5) (okCons ka (okCons (by decide) (okCons (decide_eq_true ha3) (okCons ka (okCons hb0 (okL1 kab))))))) hv (by rfl) w
      · by_cases b5 : cl b = 5
        · rw [if_pos (.inr b5)]
          exact fits_calls T (ml_n2 a b m) (okCons (beq_t b5) (okCons kb (okCons (by decide) (okCons (beq_f (by omega)) (okCons ka (okCons (by decide) (okCons (decide_eq_true ha3) (okCons ka (okCons hb0 (okL1 kab)))))))))) hv (by rfl) w
        · rw [if_neg (by omega)]
          exact fits_calls T (ml_n3 a b m) (okCons (by decide) (okCons (beq_f (by omega)) (okCons kb (okCons (by decide) (okCons (beq_f (by omega)) (okCons ka (okCons (by decide) (okCons (decide_eq_true ha3) (okCons ka (okCons hb0 (okL1 kab))))))))))) hv (by rfl) w
    · by_cases hb3 : 3 < cl b
      · rw [if_pos (.inr hb3), if_pos (.inr hb3)]
        by_cases b5 : cl b = 5
        · rw [if_pos (.inr b5)]
          exact fits_calls T (ml_m2 a b m) (okCons (beq_t b5) (okCons kb (okCons (by decide) (okCons (beq_f (by omega)) (okCons ka (okCons (by decide) (okCons (decide_eq_true hb3) (okCons kb (okCons (decide_eq_false ha3) (okCons ka (okCons hb0 (okL1 kab)))))))))))) hv (by rfl) w
        · rw [if_neg (by omega)]
          exact fits_calls T (ml_m3 a b m) (okCons (by decide) (okCons (beq_f (by omega)) (okCons kb (okCons (by decide) (okCons (beq_f (by omega)) (okCons ka (okCons (by decide) (okCons (decide_eq_true hb3) (okCons kb (okCons (decide_eq_false ha3) (okCons ka (okCons hb0 (okL1 kab))))))))))))) hv (by rfl) w
      · have hno : ¬ (3 < cl a ∨ 3 < cl b) := by omega
        rw [if_neg hno, if_neg hno]
        by_cases ae : cl a = 3
        · rw [if_pos (.inl ae), if_pos (.inl ae)]
          exact fits_calls T (ml_ea a b m) (okCons rfl (okCons kab (okCons (beq_t ae) (okCons ka (okCons (decide_eq_false hb3) (okCons kb (okCons (decide_eq_false ha3) (okCons ka (okCons hb0 (okL1 kab)))))))))) hv (by rfl) w
        · by_cases be : cl b = 3
          · rw [if_pos (.inr be), if_pos (.inr be)]
            exact fits_calls T (ml_eb a b m) (okCons rfl (okCons kab (okCons (beq_t be) (okCons kb (okCons (beq_f ae) (okCons ka (okCons (decide_eq_false hb3) (okCons kb (okCons (decide_eq_false ha3) (okCons ka (okCons hb0 (okL1 kab)))))))))))) hv (by rfl) w
          · have hno2 : ¬ (cl a = 3 ∨ cl b = 3) := by omega
            rw [if_neg hno2, if_neg hno2]
            have hf := ml_fin a b m
            rw [px_round] at hf
            exact fits_calls T hf (okCons (decide_eq_true (ofN_ok _)) (okCons (decide_eq_true ⟨by omega, by omega⟩) (okCons kab (okCons (beq_f be) (okCons kb (okCons (beq_f ae) (okCons ka (okCons (decide_eq_false hb3) (okCons kb (okCons (decide_eq_false ha3) (okCons ka (okCons hb0 (okL1 kab))))))))))))) hv (by rfl) w
def gPM : Ans := fun vals s =>
  match vals with
  | [.int .u64 a, .int .u64 b, .int .i64 m] => some (rdT (muP m a b) (muF m a b), s, [(decide (U a ∧ U b), true)])
  | _ => none
theorem gPM_ok : AnsOk 8 gPM := by
  intro vals s v s' lg h hl w
  unfold gPM at h
  split at h
  · cases h
    obtain ⟨h1, h2⟩ := of_decide_eq_true (hl _ (List.mem_singleton.2 rfl))
    exact pmul_calls _ _ _ h1 h2 w
  · cases h
end Go.Proofs.Ytecaahiajbkioaa

/-
  prod.Fma, as a call in every world.
-/
namespace Go.Proofs.Ytecaahiajbkioaa
open Go.KRun Go.Wd Go.Pt Go.Rn
set_option maxRecDepth 100000

theorem fm_bad (a b c m : Int) : Fits (reckon (tabOf Try.prog extY conP1 true) 300 11 [.int .u64 a, .int .u64 b, .int .u64 c, .int .i64 m] [cmp true]) (rdT 9221120237041090560 1) [(badB a b, true), (decide (U a ∧ U b), true)] := ⟨by kernel_rfl, by kernel_rfl, by kernel_rfl, by kernel_rfl⟩
theorem fm_a1 (a b c m : Int) : Fits (reckon (tabOf Try.prog extY conP1 true) 300 11 [.int .u64 a, .int .u64 b, .int .u64 c, .int .i64 m] [cmp false, cmp true, cmp true, cmp true]) (rdT 9221120237041090560 1) [(cl a == 5, true), lU a, (decide ((0 : Int) < ((3 : Nat) : Int)), true), (decide (cl a > 3), true), lU a, (badB a b, false), (decide (U a ∧ U b), true)] := ⟨by kernel_rfl, by kernel_rfl, by kernel_rfl, by kernel_rfl⟩
theorem fm_a2 (a b c m : Int) : Fits (reckon (tabOf Try.prog extY conP1 true) 300 11 [.int .u64 a, .int .u64 b, .int .u64 c, .int .i64 m] [cmp false, cmp true, cmp true, cmp false, cmp true, cmp true]) (rdT 9221120237041090560 1) [(cl b == 5, true), lU b, (decide (IntKind.i64.wrap (0 + 1) < ((3 : Nat) : Int)), true), (cl a == 5, false), lU a, (decide ((0 : Int) < ((3 : Nat) : Int)), true), (decide (cl a > 3), true), lU a, (badB a b, false), (decide (U a ∧ U b), true)] := ⟨by kernel_rfl, by kernel_rfl, by kernel_rfl, by kernel_rfl⟩
theorem fm_a3 (a b c m : Int) : Fits (reckon (tabOf Try.prog extY conP1 true) 300 11 [.int .u64 a, .int .u64 b, .int .u64 c, .int .i64 m] [cmp false, cmp true, cmp true, cmp false, cmp true, cmp false, cmp true, cmp true]) (rdT 9221120237041090560 1) [(cl c == 5, true), lU c, (decide (IntKind.i64.wrap (IntKind.i64.wrap (0 + 1) + 1) < ((3 : Nat) : Int)), true), (cl b == 5, false), lU b, (decide (IntKind.i64.wrap (0 + 1) < ((3 : Nat) : Int)), true), (cl a == 5, false), lU a, (decide ((0 : Int) < ((3 : Nat) : Int)), true), (decide (cl a > 3), true), lU a, (badB a b, false), (decide (U a ∧ U b), true)] := ⟨by kernel_rfl, by kernel_rfl, by kernel_rfl, by kernel_rfl⟩
theorem fm_a0 (a b c m : Int) : Fits (reckon (tabOf Try.prog extY conP1 true) 300 11 [.int .u64 a, .int .u64 b, .int .u64 c, .int .i64 m] [cmp false, cmp true, cmp true, cmp false, cmp true, cmp false, cmp true, cmp false, cmp false]) (rdT 9221120237041090560 0) [(decide (IntKind.i64.wrap (IntKind.i64.wrap (IntKind.i64.wrap (0 + 1) + 1) + 1) < ((3 : Nat) : Int)), false), (cl c == 5, false), lU c, (decide (IntKind.i64.wrap (IntKind.i64.wrap (0 + 1) + 1) < ((3 : Nat) : Int)), true), (cl b == 5, false), lU b, (decide (IntKind.i64.wrap (0 + 1) < ((3 : Nat) : Int)), true), (cl a == 5, false), lU a, (decide ((0 : Int) < ((3 : Nat) : Int)), true), (decide (cl a > 3), true), lU a, (badB a b, false), (decide (U a ∧ U b), true)] := ⟨by kernel_rfl, by kernel_rfl, by kernel_rfl, by kernel_rfl⟩
theorem fm_b2 (a b c m : Int) : Fits (reckon (tabOf Try.prog extY conP1 true) 300 11 [.int .u64 a, .int .u64 b, .int .u64 c, .int .i64 m] [cmp false, cmp false, cmp true, cmp true, cmp false, cmp true, cmp true]) (rdT 9221120237041090560 1) [(cl b == 5, true), lU b, (decide (IntKind.i64.wrap (0 + 1) < ((3 : Nat) : Int)), true), (cl a == 5, false), lU a, (decide ((0 : Int) < ((3 : Nat) : Int)), true), (decide (cl b > 3), true), lU b, (decide (cl a > 3), false), lU a, (badB a b, false), (decide (U a ∧ U b), true)] := ⟨by kernel_rfl, by kernel_rfl, by kernel_rfl, by kernel_rfl⟩
theorem fm_b3 (a b c m : Int) : Fits (reckon (tabOf Try.prog extY conP1 true) 300 11 [.int .u64 a, .int .u64 b, .int .u64 c, .int .i64 m] [cmp false, cmp false, cmp true, cmp true, cmp false, cmp true, cmp false, cmp true, cmp true]) (rdT 9221120237041090560 1) [(cl c == 5, true), lU c, (decide (IntKind.i64.wrap (IntKind.i64.wrap (0 + 1) + 1) < ((3 : Nat) : Int)), true), (cl b == 5, false), lU b, (decide (IntKind.i64.wrap (0 + 1) < ((3 : Nat) : Int)), true), (cl a == 5, false), lU a, (decide ((0 : Int) < ((3 : Nat) : Int)), true), (decide (cl b > 3), true), lU b, (decide (cl a > 3), false), lU a, (badB a b, false), (decide (U a ∧ U b), true)] := ⟨by kernel_rfl, by kernel_rfl, by kernel_rfl, by kernel_rfl⟩
theorem fm_b0 (a b c m : Int) : Fits (reckon (tabOf Try.prog extY conP1 true) 300 11 [.int .u64 a, .int .u64 b, .int .u64 c, .int .i64 m] [cmp false, cmp false, cmp true, cmp true, cmp false, cmp true, cmp false, cmp true, cmp false, cmp false]) (rdT 9221120237041090560 0) [(decide (IntKind.i64.wrap (IntKind.i64.wrap (IntKind.i64.wrap (0 + 1) + 1) + 1) < ((3 : Nat) : Int)), false), (cl c == 5, false), lU c, (decide (IntKind.i64.wrap (IntKind.i64.wrap (0 + 1) + 1) < ((3 : Nat) : Int)), true), (cl b == 5, false), lU b, (decide (IntKind.i64.wrap (0 + 1) < ((3 : Nat) : Int)), true), (cl a == 5, false), lU a, (decide ((0 : Int) < ((3 : Nat) : Int)), true), (decide (cl b > 3), true), lU b, (decide (cl a > 3), false), lU a, (badB a b, false), (decide (U a ∧ U b), true)] := ⟨by kernel_rfl, by kernel_rfl, by kernel_rfl, by kernel_rfl⟩
theorem fm_c3 (a b c m : Int) : Fits (reckon (tabOf Try.prog extY conP1 true) 300 11 [.int .u64 a, .int .u64 b, .int .u64 c, .int .i64 m] [cmp false, cmp false, cmp false, cmp true, cmp true, cmp false, cmp true, cmp false, cmp true, cmp true]) (rdT 9221120237041090560 1) [(cl c == 5, true), lU c, (decide (IntKind.i64.wrap (IntKind.i64.wrap (0 + 1) + 1) < ((3 : Nat) : Int)), true), (cl b == 5, false), lU b, (decide (IntKind.i64.wrap (0 + 1) < ((3 : Nat) : Int)), true), (cl a == 5, false), lU a, (decide ((0 : Int) < ((3 : Nat) : Int)), true), (decide (cl c > 3), true), lU c, (decide (cl b > 3), false), lU b, (decide (cl a > 3), false), lU a, (badB a b, false), (decide (U a ∧ U b), true)] := ⟨by kernel_rfl, by kernel_rfl, by kernel_rfl, by kernel_rfl⟩
theorem fm_c0 (a b c m : Int) : Fits (reckon (tabOf Try.prog extY conP1 true) 300 11 [.int .u64 a, .int .u64 b, .int .u64 c, .int .i64 m] [cmp false, cmp false, cmp false, cmp true, cmp true, cmp false, cmp true, cmp false, cmp true, cmp false, cmp false]) (rdT 9221120237041090560 0) [(decide (IntKind.i64.wrap (IntKind.i64.wrap (IntKind.i64.wrap (0 + 1) + 1) + 1) < ((3 : Nat) : Int)), false), (cl c == 5, false), lU c, (decide (IntKind.i64.wrap (IntKind.i64.wrap (0 + 1) + 1) < ((3 : Nat) : Int)), true), (cl b == 5, false), lU b, (decide (IntKind.i64.wrap (0 + 1) < ((3 : Nat) : Int)), true), (cl a == 5, false), lU a, (decide ((0 : Int) < ((3 : Nat) : Int)), true), (decide (cl c > 3), true), lU c, (decide (cl b > 3), false), lU b, (decide (cl a > 3), false), lU a, (badB a b, false), (decide (U a ∧ U b), true)] := ⟨by kernel_rfl, by kernel_rfl, by kernel_rfl, by kernel_rfl⟩
theorem fm_ea (a b c m : Int) : Fits (reckon (tabOf Try.prog extY conP1 true) 300 11 [.int .u64 a, .int .u64 b, .int .u64 c, .int .i64 m] [cmp false, cmp false, cmp false, cmp false, cmp true]) (suV m (sS (prN a b) inf) c) [(decide (U (sS (prN a b) inf) ∧ U c), true), (true, true), (decide (U a ∧ U b), true), (cl a == 3, true), lU a, (decide (cl c > 3), false), lU c, (decide (cl b > 3), false), lU b, (decide (cl a > 3), false), lU a, (badB a b, false), (decide (U a ∧ U b), true)] := ⟨by kernel_rfl, by kernel_rfl, by kernel_rfl, by kernel_rfl⟩
theorem fm_eb (a b c m : Int) : Fits (reckon (tabOf Try.prog extY conP1 true) 300 11 [.int .u64 a, .int .u64 b, .int .u64 c, .int .i64 m] [cmp false, cmp false, cmp false, cmp false, cmp false, cmp true]) (suV m (sS (prN a b) inf) c) [(decide (U (sS (prN a b) inf) ∧ U c), true), (true, true), (decide (U a ∧ U b), true), (cl b == 3, true), lU b, (cl a == 3, false), lU a, (decide (cl c > 3), false), lU c, (decide (cl b > 3), false), lU b, (decide (cl a > 3), false), lU a, (badB a b, false), (decide (U a ∧ U b), true)] := ⟨by kernel_rfl, by kernel_rfl, by kernel_rfl, by kernel_rfl⟩
theorem fm_ec (a b c m : Int) : Fits (reckon (tabOf Try.prog extY conP1 true) 300 11 [.int .u64 a, .int .u64 b, .int .u64 c, .int .i64 m] [cmp false, cmp false, cmp false, cmp false, cmp false, cmp false, cmp true]) (rdT c 0) [(cl c == 3, true), lU c, (cl b == 3, false), lU b, (cl a == 3, false), lU a, (decide (cl c > 3), false), lU c, (decide (cl b > 3), false), lU b, (decide (cl a > 3), false), lU a, (badB a b, false), (decide (U a ∧ U b), true)] := ⟨by kernel_rfl, by kernel_rfl, by kernel_rfl, by kernel_rfl⟩
theorem fm_fin (a b c m : Int) : Fits (reckon (tabOf Try.prog extY conP1 true) 300 11 [.int .u64 a, .int .u64 b, .int .u64 c, .int .i64 m] [cmp false, cmp false, cmp false, cmp false, cmp false, cmp false, cmp false, cmp true]) (rdV m (xuN m (prN a b) (prE a b) (ofN (prV a b)).nat (sgn c) (xp c) (wSg c).nat) (tw (ofN (xuQ (prN a b) (prE a b) (ofN (prV a b)).nat (sgn c) (xp c) (wSg c).nat)) (xuB (prN a b) (prE a b) (ofN (prV a b)).nat (sgn c) (xp c) (wSg c).nat)) (clp (unN (prE a b) (ofN (prV a b)).nat (xp c) (wSg c).nat) - 1)) [(decide (ofN (xuQ (prN a b) (prE a b) (ofN (prV a b)).nat (sgn c) (xp c) (wSg c).nat)).ok, true), (okEx (prE a b) (ofN (prV a b)) false (xp c) (wSg c) false, true), (finB a b, true), (decide (U a ∧ U b), true), (okEx (prE a b) (ofN (prV a b)) false (xp c) (wSg c) false, true), (okEx (prE a b) (ofN (prV a b)) false (xp c) (wSg c) false, true), (finB a b, true), (decide (U a ∧ U b), true), lU c, (decide (cl c ≤ 2), true), lU c, (cl c == 3, false), lU c, (cl b == 3, false), lU b, (cl a == 3, false), lU a, (decide (cl c > 3), false), lU c, (decide (cl b > 3), false), lU b, (decide (cl a > 3), false), lU a, (badB a b, false), (decide (U a ∧ U b), true)] := ⟨by kernel_rfl, by kernel_rfl, by kernel_rfl, by kernel_rfl⟩
/-- what Fma answers -/
def fmP (m a b c : Int) : Int := if badB a b = true then 9221120237041090560 else if 3 < cl a ∨ 3 < cl b ∨ 3 < cl c then 9221120237041090560 else if cl a = 3 ∨ cl b = 3 then suP m (sS (prN a b) inf) c else if cl c = 3 then c else sS (fsN m a b c) (fsP m a b c)
def fmF (m a b c : Int) : Int := if badB a b = true then 1 else if 3 < cl a ∨ 3 < cl b ∨ 3 < cl c then (if cl a = 5 ∨ cl b = 5 ∨ cl c = 5 then 1 else 0) else if cl a = 3 ∨ cl b = 3 then suF m (sS (prN a b) inf) c else if cl c = 3 then 0 else fsF m a b c
theorem inf_U (n : Bool) : U (sS n inf) := by cases n <;> decide
theorem fx_round (m a b c : Int) : rdV m (xuN m (prN a b) (prE a b) (ofN (prV a b)).nat (sgn c) (xp c) (wSg c).nat) (tw (ofN (xuQ (prN a b) (prE a b) (ofN (prV a b)).nat (sgn c) (xp c) (wSg c).nat)) (xuB (prN a b) (prE a b) (ofN (prV a b)).nat (sgn c) (xp c) (wSg c).nat)) (clp (unN (prE a b) (ofN (prV a b)).nat (xp c) (wSg c).nat) - 1) = rdT (sS (fsN m a b c) (fsP m a b c)) (fsF m a b c) := by
  have hE := prE_bd a b
  have hc := xp_bd c
  rw [ofN_nat (prV_256 a b), wSg_nat]
  exact xu_rd m m (may_prod a b) (may_pat c) (G := -2148) (by omega) (by omega) (prN a b) (sgn c)
theorem kE_of (a b c : Int) : okEx (prE a b) (ofN (prV a b)) false (xp c) (wSg c) false = true := by
  have h1 := may_prod a b
  have h2 := may_pat c
  refine decide_eq_true ⟨ofN_ok _, wSg_ok c, rfl, rfl, (may_iff (ofN_ok _)).2 ?_, (may_iff (wSg_ok c)).2 ?_⟩
  · rw [ofN_nat (prV_256 a b)]; exact h1
  · rw [wSg_nat]; exact h2
theorem pfma_calls (a b c m : Int) (ha : U a) (hb : U b) (hc : U c) (w : World) : Calls Try.prog 11 #[.int .u64 a, .int .u64 b, .int .u64 c, .int .i64 m] w fun r w' => r = .returned (rdT (fmP m a b c) (fmF m a b c)) ∧ Tidy w w' := by
  have hv : ([.int .u64 a, .int .u64 b, .int .u64 c, .int .i64 m].all (lt 0)) = true := rfl
  have T := tabY_ok conP1_ok
  have ka : decide (U a) = true := decide_eq_true ha
  have kb : decide (U b) = true := decide_eq_true hb
  have kc : decide (U c) = true := decide_eq_true hc
  have kab : decide (U a ∧ U b) = true := decide_eq_true ⟨ha, hb⟩
  have kic : decide (U (sS (prN a b) inf) ∧ U c) = true := decide_eq_true ⟨inf_U _, hc⟩
  have kE := kE_of a b c
  have ba := cl_bd a
  have bb := cl_bd b
  have bc := cl_bd c
  unfold fmP fmF
  by_cases hbd : badB a b = true
  · rw [if_pos hbd, if_pos hbd]
    exact fits_calls T (fm_bad a b c m) (okCons hbd (okL1 kab)) hv (by rfl) w
  · have hb0 : badB a b = false := by simpa using hbd
    rw [if_neg hbd, if_neg hbd]
    by_cases ha3 : 3 < cl a
    · rw [if_pos (.inl ha3), if_pos (.inl ha3)]
      by_cases a5 : cl a = 5
      · rw [if_pos (.inl a5)]
        exact fits_calls T (fm_a1 a b c m) (okCons (beq_t a5) (okCons ka (okCons (by decide) (okCons (decide_eq_true ha3) (okCons ka (okCons hb0 (okL1 kab))))))) hv (by rfl) w
      · by_cases b5 : cl b = 5
        · rw [if_pos (.inr (.inl b5))]
          exact fits_calls T (fm_a2 a b c m) (okCons (beq_t b5) (okCons kb (okCons (by decide) (okCons (beq_f (by omega)) (okCons ka (okCons (by decide) (okCons (decide_eq_true ha3) (okCons ka (okCons hb0 (okL1 kab)))))))))) hv (by rfl) w
        · by_cases c5 : cl c = 5
          · rw [if_pos (.inr (.inr c5))]
            exact fits_calls T (fm_a3 a b c m) (okCons (beq_t c5) (okCons kc (okCons (by decide) (okCons (beq_f (by omega)) (okCons kb (okCons (by decide) (okCons (beq_f (by omega)) (okCons ka (okCons (by decide) (okCons (decide_eq_true ha3) (okCons ka (okCons hb0 (okL1 kab))))))))))))) hv (by rfl) w
          · rw [if_neg (by omega)]
            exact fits_calls T (fm_a0 a b c m) (okCons (by decide) (okCons (beq_f (by omega)) (okCons kc (okCons (by decide) (okCons (beq_f (by omega)) (okCons kb (okCons (by decide) (okCons (beq_f (by omega)) (okCons ka (okCons (by decide) (okCons (decide_eq_true ha3) (okCons ka (okCons hb0 (okL1 kab)))))))))))))) hv (by rfl) w
    · by_cases hb3 : 3 < cl b
      · rw [if_pos (.inr (.inl hb3)), if_pos (.inr (.inl hb3))]
        by_cases b5 : cl b = 5
        · rw [if_pos (.inr (.inl b5))]
          exact fits_calls T (fm_b2 a b c m) (okCons (beq_t b5) (okCons kb (okCons (by decide) (okCons (beq_f (by omega)) (okCons ka (okCons (by decide) (okCons (decide_eq_true hb3) (okCons kb (okCons (decide_eq_false ha3) (okCons ka (okCons hb0 (okL1 kab)))))))))))) hv (by rfl) w
        · by_cases c5 : cl c = 5
          · rw [if_pos (.inr (.inr c5))]
            exact fits_calls T (fm_b3 a b c m) (okCons (beq_t c5) (okCons kc (okCons (by decide) (okCons (beq_f (by omega)) (okCons kb (okCons (by decide) (okCons (beq_f (by omega)) (okCons ka (okCons (by decide) (okCons (decide_eq_true hb3) (okCons kb (okCons (decide_eq_false ha3) (okCons ka (okCons hb0 (okL1 kab))))))))))))))) hv (by rfl) w
          · rw [if_neg (by omega)]
            exact fits_calls T (fm_b0 a b c m) (okCons (by decide) (okCons (beq_f (by omega)) (okCons kc (okCons (by decide) (okCons (beq_f (by omega)) (okCons kb (okCons (by decide) (okCons (beq_f (by omega)) (okCons ka (okCons (by decide) (okCons (decide_eq_true hb3) (okCons kb (okCons (decide_eq_false ha3) (okCons ka (okCons hb0 (okL1 kab)))))))))))))))) hv (by rfl) w
      · by_cases hc3 : 3 < cl c
        · rw [if_pos (.inr (.inr hc3)), if_pos (.inr (.inr hc3))]
          by_cases c5 : cl c = 5
          · rw [if_pos (.inr (.inr c5))]
            exact fits_calls T (fm_c3 a b c m) (okCons (beq_t c5) (okCons kc (okCons (by decide) (okCons (beq_f (by omega)) (okCons kb (okCons (by decide) (okCons (beq_f (by omega)) (okCons ka (okCons (by decide) (okCons (decide_eq_true hc3) (okCons kc (okCons (decide_eq_false hb3) (okCons kb (okCons (decide_eq_false ha3) (okCons ka (okCons hb0 (okL1 kab))))))))))))))))) hv (by rfl) w
          · rw [if_neg (by omega)]
            exact fits_calls T (fm_c0 a b c m) (okCons (by decide) (okCons (beq_f (by omega)) (okCons kc (okCons (by decide) (okCons (beq_f (by omega)) (okCons kb (okCons (by decide) (okCons (beq_f (by omega)) (okCons ka (okCons (by decide) (okCons (decide_eq_true hc3) (okCons kc (okCons (decide_eq_false hb3) (okCons kb (okCons (decide_eq_false ha3) (okCons ka (okCons hb0 (okL1 kab)))))))))))))))))) hv (by rfl) w
        · have hno : ¬ (3 < cl a ∨ 3 < cl b ∨ 3 < cl c) := by omega
          rw [if_neg hno, if_neg hno]
          by_cases ae : cl a = 3
          · rw [if_pos (.inl ae), if_pos (.inl ae)]
            exact fits_calls T (fm_ea a b c m) (okCons kic (okCons rfl (okCons kab (okCons (beq_t ae) (okCons ka (okCons (decide_eq_false hc3) (okCons kc (okCons (decide_eq_false hb3) (okCons kb (okCons (decide_eq_false ha3) (okCons ka (okCons hb0 (okL1 kab))))))))))))) hv (by rfl) w
          · by_cases be : cl b = 3
            · rw [if_pos (.inr be), if_pos (.inr be)]
              exact fits_calls T (fm_eb a b c m) (okCons kic (okCons rfl (okCons kab (okCons (beq_t be) (okCons kb (okCons (beq_f ae) (okCons ka (okCons (decide_eq_false hc3) (okCons kc (okCons (decide_eq_false hb3) (okCons kb (okCons (decide_eq_false ha3) (okCons ka (okCons hb0 (okL1 kab))))))))))))))) hv (by rfl) w
            · have hno2 : ¬ (cl a = 3 ∨ cl b = 3) := by omega
              rw [if_neg hno2, if_neg hno2]
              by_cases ce : cl c = 3
              · rw [if_pos ce, if_pos ce]
                exact fits_calls T (fm_ec a b c m) (okCons (beq_t ce) (okCons kc (okCons (beq_f be) (okCons kb (okCons (beq_f ae) (okCons ka (okCons (decide_eq_false hc3) (okCons kc (okCons (decide_eq_false hb3) (okCons kb (okCons (decide_eq_false ha3) (okCons ka (okCons hb0 (okL1 kab)))))))))))))) hv (by rfl) w
              · rw [if_neg ce, if_neg ce]
                have hf := fm_fin a b c m
                rw [fx_round] at hf
                exact fits_calls T hf (okCons (decide_eq_true (ofN_ok _)) (okCons kE (okCons (decide_eq_true ⟨by omega, by omega⟩) (okCons kab (okCons kE (okCons kE (okCons (decide_eq_true ⟨by omega, by omega⟩) (okCons kab (okCons kc (okCons (decide_eq_true (by omega)) (okCons kc (okCons (beq_f ce) (okCons kc (okCons (beq_f be) (okCons kb (okCons (beq_f ae) (okCons ka (okCons (decide_eq_false hc3) (okCons kc (okCons (decide_eq_false hb3) (okCons kb (okCons (decide_eq_false ha3) (okCons ka (okCons hb0 (okL1 kab))))))))))))))))))))))))) hv (by rfl) w
def gPF : Ans := fun vals s =>
  match vals with
  | [.int .u64 a, .int .u64 b, .int .u64 c, .int .i64 m] => some (rdT (fmP m a b c) (fmF m a b c), s, [(decide (U a ∧ U b ∧ U c), true)])
  | _ => none
theorem gPF_ok : AnsOk 11 gPF := by
  intro vals s v s' lg h hl w
  unfold gPF at h
  split at h
  · cases h
    obtain ⟨h1, h2, h3⟩ := of_decide_eq_true (hl _ (List.mem_singleton.2 rfl))
    exact pfma_calls _ _ _ _ h1 h2 h3 w
  · cases h
def conP2 : Con := alt 8 gPM (alt 11 gPF conN)
theorem conP2_ok : ConOk conP2 := alt_ok Try.func8 rfl gPM_ok (alt_ok Try.func11 rfl gPF_ok conN_ok)
end Go.Proofs.Ytecaahiajbkioaa

/-
  Layer 6's own 'sure'; what is known of calls, for the laws of products.
-/
namespace Go.Proofs.Ytecaahiajbkioaa
open Go.KRun Go.Wd Go.Pt Go.Rn
set_option maxRecDepth 100000

theorem fm_s : fmP 0 4607182418800017409 4607182418800017406 13830554455654793216 = 13362180094408261632 ∧ fmF 0 4607182418800017409 4607182418800017406 13830554455654793216 = 0 := ⟨by kernel_rfl, by kernel_rfl⟩
theorem sure6 : Fits (reckon (tabOf Try.prog extY conP2 true) 300 10 [] [cmp true, cmp true]) (.bool true) [(fmF 0 4607182418800017409 4607182418800017406 13830554455654793216 == 0, true), (fmP 0 4607182418800017409 4607182418800017406 13830554455654793216 == 13362180094408261632, true), (decide (U 4607182418800017409 ∧ U 4607182418800017406 ∧ U 13830554455654793216), true)] := ⟨by kernel_rfl, by kernel_rfl, by kernel_rfl, by kernel_rfl⟩
def gSure6 : Ans := fun vals s => match vals with | [] => some (.bool true, s, []) | _ => none
theorem gSure6_ok : AnsOk 10 gSure6 := by
  intro vals s v s' lg h hl w
  unfold gSure6 at h
  split at h
  · cases h
    have hu : decide (U 4607182418800017409 ∧ U 4607182418800017406 ∧ U 13830554455654793216) = true := by decide
    exact fits_calls (tabY_ok conP2_ok) sure6 (okCons (beq_t fm_s.2) (okCons (beq_t fm_s.1) (okL1 hu))) (by rfl) (by rfl) w
  · cases h
def conS6 : Con := alt 10 gSure6 conP2
theorem conS6_ok : ConOk conS6 := alt_ok Try.func10 rfl gSure6_ok conP2_ok
end Go.Proofs.Ytecaahiajbkioaa
