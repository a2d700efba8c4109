/-
  The document's order (tillerref10): which of two patterns is less, and the order of all, as calls in every world.
-/
import Derived.Test.YtfmfcbnhmkkibaaG22
namespace Go.Proofs.Ytfmfcbnhmkkibaa
open Go.KRun Go.Nt Go.Pt Go.Rn
set_option maxRecDepth 100000

def vII (x y : Int) : Value := .tuple #[.int .i64 x, .int .i64 y]
theorem no_1 (a b : Int) : Fits (reckon (tabOf Try.prog extY conR1 true) 300 28 [.int .u64 a, .int .u64 b] [cmp true]) (.int .i64 1) [(cl a == 5, true), lU a] := ⟨by kernel_rfl, by kernel_rfl, by kernel_rfl, by kernel_rfl⟩
theorem no_2 (a b : Int) : Fits (reckon (tabOf Try.prog extY conR1 true) 300 28 [.int .u64 a, .int .u64 b] [cmp false, cmp true]) (.int .i64 1) [(cl b == 5, true), lU b, (cl a == 5, false), lU a] := ⟨by kernel_rfl, by kernel_rfl, by kernel_rfl, by kernel_rfl⟩
theorem no_3 (a b : Int) : Fits (reckon (tabOf Try.prog extY conR1 true) 300 28 [.int .u64 a, .int .u64 b] [cmp false, cmp false]) (.int .i64 0) [(cl b == 5, false), lU b, (cl a == 5, false), lU a] := ⟨by kernel_rfl, by kernel_rfl, by kernel_rfl, by kernel_rfl⟩
theorem ra_1 (p : Int) : Fits (reckon (tabOf Try.prog extY conR1 true) 300 31 [.int .u64 p] [cmp true]) (.int .u64 (p.tmod 9223372036854775808)) [(decide ((9223372036854775808 : Int) = 0), false)] := ⟨by kernel_rfl, by kernel_rfl, by kernel_rfl, by kernel_rfl⟩
theorem rk_1 (p k : Int) : Fits (reckon (tabOf Try.prog extY conR1 true) 300 45 [.int .u64 p] [at_, val (.int .i64 k)]) (.int .i64 k) [(cellIs [Value.int .i64 0, .int .i64 1, .int .i64 1, .int .i64 2, .int .i64 4, .int .i64 3][0 + (cl p).toNat * 1]? (.int .i64 k), true), (decide (0 ≤ cl p ∧ cl p < ((6 : Nat) : Int)), true), lU p] := ⟨by kernel_rfl, by kernel_rfl, by kernel_rfl, by kernel_rfl⟩
theorem none_calls (a b : Int) (ha : U a) (hb : U b) (w : World) : Calls Try.prog 28 #[.int .u64 a, .int .u64 b] w fun r w' => r = .returned (.int .i64 (ldF a b)) ∧ Tidy w w' := by
  have hv : ([.int .u64 a, .int .u64 b].all (lt 0)) = true := rfl
  have T := tabY_ok conR1_ok
  have ka : decide (U a) = true := decide_eq_true ha
  have kb : decide (U b) = true := decide_eq_true hb
  have kab : decide (U a ∧ U b) = true := decide_eq_true ⟨ha, hb⟩
  unfold ldF
  by_cases h1 : cl a = 5
  · rw [if_pos (.inl h1)]
    exact fits_calls T (no_1 a b) (okCons (beq_t (by omega)) (okL1 ka)) hv (by rfl) w
  · by_cases h2 : cl b = 5
    · rw [if_pos (.inr h2)]
      exact fits_calls T (no_2 a b) (okCons (beq_t (by omega)) (okCons kb (okCons (beq_f (by omega)) (okL1 ka)))) hv (by rfl) w
    · rw [if_neg (by omega)]
      exact fits_calls T (no_3 a b) (okCons (beq_f (by omega)) (okCons kb (okCons (beq_f (by omega)) (okL1 ka)))) hv (by rfl) w
theorem rabs_ok : AnsOk 31 (gU fun p => .int .u64 (mag p)) := gU_ok fun p hp w => by
  have hv : ([.int .u64 p].all (lt 0)) = true := rfl
  have T := tabY_ok conR1_ok
  have hf := ra_1 p
  rw [Int.tmod_eq_emod_of_nonneg hp.1] at hf
  exact fits_calls T hf (okL1 (by decide)) hv (by rfl) w
theorem rank_ok : AnsOk 45 (gU fun p => .int .i64 (rkC (cl p))) := gU_ok fun p hp w => by
  have hv : ([.int .u64 p].all (lt 0)) = true := rfl
  have T := tabY_ok conR1_ok
  have kp : decide (U p) = true := decide_eq_true hp
  have bd := cl_all p
  have hc : cellIs [Value.int .i64 0, .int .i64 1, .int .i64 1, .int .i64 2, .int .i64 4, .int .i64 3][0 + (cl p).toNat * 1]? (.int .i64 (rkC (cl p))) = true := by
    have h6 : cl p = 0 ∨ cl p = 1 ∨ cl p = 2 ∨ cl p = 3 ∨ cl p = 4 ∨ cl p = 5 := by omega
    rcases h6 with h | h | h | h | h | h <;> rw [h] <;> rfl
  exact fits_calls T (rk_1 p (rkC (cl p))) (okCons hc (okCons (decide_eq_true (by omega)) (okL1 kp))) hv (by rfl) w
def conR2 : Con := alt 28 (gUU (fun a b => .int .i64 (ldF a b)) fun _ _ => true) (alt 31 (gU fun p => .int .u64 (mag p)) (alt 45 (gU fun p => .int .i64 (rkC (cl p))) conR1))
theorem conR2_ok : ConOk conR2 := alt_ok Try.func28 rfl (gUU_ok fun a b ha hb _ w => none_calls a b ha hb w) (alt_ok Try.func31 rfl rabs_ok (alt_ok Try.func45 rfl rank_ok conR1_ok))
theorem ah_nt (a b : Int) : Fits (reckon (tabOf Try.prog extY conR2 true) 300 34 [.int .u64 a, .int .u64 b] [cmp true, cmp true]) (.bool true) [(decide (rkC (cl a) < rkC (cl b)), true), lU b, lU a, (rkC (cl a) != rkC (cl b), true), lU b, lU a] := ⟨by kernel_rfl, by kernel_rfl, by kernel_rfl, by kernel_rfl⟩
theorem ah_et (a b : Int) : Fits (reckon (tabOf Try.prog extY conR2 true) 300 34 [.int .u64 a, .int .u64 b] [cmp false, cmp true]) (.bool true) [(decide (a ≤ b), true), (rkC (cl a) != rkC (cl b), false), lU b, lU a] := ⟨by kernel_rfl, by kernel_rfl, by kernel_rfl, by kernel_rfl⟩
theorem ah_nf (a b : Int) : Fits (reckon (tabOf Try.prog extY conR2 true) 300 34 [.int .u64 a, .int .u64 b] [cmp true, cmp false]) (.bool false) [(decide (rkC (cl a) < rkC (cl b)), false), lU b, lU a, (rkC (cl a) != rkC (cl b), true), lU b, lU a] := ⟨by kernel_rfl, by kernel_rfl, by kernel_rfl, by kernel_rfl⟩
theorem ah_ef (a b : Int) : Fits (reckon (tabOf Try.prog extY conR2 true) 300 34 [.int .u64 a, .int .u64 b] [cmp false, cmp false]) (.bool false) [(decide (a ≤ b), false), (rkC (cl a) != rkC (cl b), false), lU b, lU a] := ⟨by kernel_rfl, by kernel_rfl, by kernel_rfl, by kernel_rfl⟩
theorem rc_1 (a b : Int) : Fits (reckon (tabOf Try.prog extY conR2 true) 300 10 [.int .u64 a, .int .u64 b] [cmp true]) (vII 2 (ldF a b)) [(true, true), (decide (U a ∧ U b), true), (decide (cl a > 3), true), lU a] := ⟨by kernel_rfl, by kernel_rfl, by kernel_rfl, by kernel_rfl⟩
theorem rc_2 (a b : Int) : Fits (reckon (tabOf Try.prog extY conR2 true) 300 10 [.int .u64 a, .int .u64 b] [cmp false, cmp true]) (vII 2 (ldF a b)) [(true, true), (decide (U a ∧ U b), true), (decide (cl b > 3), true), lU b, (decide (cl a > 3), false), lU a] := ⟨by kernel_rfl, by kernel_rfl, by kernel_rfl, by kernel_rfl⟩
theorem rc_v (a b : Int) : Fits (reckon (tabOf Try.prog extY conR2 true) 300 10 [.int .u64 a, .int .u64 b] [cmp false, cmp false, cmp true, cmp true]) (vII (coV a b) 0) [(decide (cl a ≤ 2 ∧ cl b ≤ 2), true), (decide (U a ∧ U b), true), (decide (cl b < 3), true), lU b, (decide (cl a < 3), true), lU a, (decide (cl b > 3), false), lU b, (decide (cl a > 3), false), lU a] := ⟨by kernel_rfl, by kernel_rfl, by kernel_rfl, by kernel_rfl⟩
theorem rc_x1 (a b : Int) : Fits (reckon (tabOf Try.prog extY conR2 true) 300 10 [.int .u64 a, .int .u64 b] [cmp false, cmp false, cmp false, cmp true]) (vII 0 0) [(a == b, true), (decide (cl a < 3), false), lU a, (decide (cl b > 3), false), lU b, (decide (cl a > 3), false), lU a] := ⟨by kernel_rfl, by kernel_rfl, by kernel_rfl, by kernel_rfl⟩
theorem rc_x2 (a b : Int) : Fits (reckon (tabOf Try.prog extY conR2 true) 300 10 [.int .u64 a, .int .u64 b] [cmp false, cmp false, cmp false, cmp false, cmp true]) (vII 1 0) [(a == 9218868437227405312, true), (a == b, false), (decide (cl a < 3), false), lU a, (decide (cl b > 3), false), lU b, (decide (cl a > 3), false), lU a] := ⟨by kernel_rfl, by kernel_rfl, by kernel_rfl, by kernel_rfl⟩
theorem rc_x3 (a b : Int) : Fits (reckon (tabOf Try.prog extY conR2 true) 300 10 [.int .u64 a, .int .u64 b] [cmp false, cmp false, cmp false, cmp false, cmp false, cmp true]) (vII 1 0) [(b == 18442240474082181120, true), (a == 9218868437227405312, false), (a == b, false), (decide (cl a < 3), false), lU a, (decide (cl b > 3), false), lU b, (decide (cl a > 3), false), lU a] := ⟨by kernel_rfl, by kernel_rfl, by kernel_rfl, by kernel_rfl⟩
theorem rc_x4 (a b : Int) : Fits (reckon (tabOf Try.prog extY conR2 true) 300 10 [.int .u64 a, .int .u64 b] [cmp false, cmp false, cmp false, cmp false, cmp false, cmp false]) (vII (-1) 0) [(b == 18442240474082181120, false), (a == 9218868437227405312, false), (a == b, false), (decide (cl a < 3), false), lU a, (decide (cl b > 3), false), lU b, (decide (cl a > 3), false), lU a] := ⟨by kernel_rfl, by kernel_rfl, by kernel_rfl, by kernel_rfl⟩
theorem rc_y1 (a b : Int) : Fits (reckon (tabOf Try.prog extY conR2 true) 300 10 [.int .u64 a, .int .u64 b] [cmp false, cmp false, cmp true, cmp false, cmp true]) (vII 0 0) [(a == b, true), (decide (cl b < 3), false), lU b, (decide (cl a < 3), true), lU a, (decide (cl b > 3), false), lU b, (decide (cl a > 3), false), lU a] := ⟨by kernel_rfl, by kernel_rfl, by kernel_rfl, by kernel_rfl⟩
theorem rc_y2 (a b : Int) : Fits (reckon (tabOf Try.prog extY conR2 true) 300 10 [.int .u64 a, .int .u64 b] [cmp false, cmp false, cmp true, cmp false, cmp false, cmp true]) (vII 1 0) [(a == 9218868437227405312, true), (a == b, false), (decide (cl b < 3), false), lU b, (decide (cl a < 3), true), lU a, (decide (cl b > 3), false), lU b, (decide (cl a > 3), false), lU a] := ⟨by kernel_rfl, by kernel_rfl, by kernel_rfl, by kernel_rfl⟩
theorem rc_y3 (a b : Int) : Fits (reckon (tabOf Try.prog extY conR2 true) 300 10 [.int .u64 a, .int .u64 b] [cmp false, cmp false, cmp true, cmp false, cmp false, cmp false, cmp true]) (vII 1 0) [(b == 18442240474082181120, true), (a == 9218868437227405312, false), (a == b, false), (decide (cl b < 3), false), lU b, (decide (cl a < 3), true), lU a, (decide (cl b > 3), false), lU b, (decide (cl a > 3), false), lU a] := ⟨by kernel_rfl, by kernel_rfl, by kernel_rfl, by kernel_rfl⟩
theorem rc_y4 (a b : Int) : Fits (reckon (tabOf Try.prog extY conR2 true) 300 10 [.int .u64 a, .int .u64 b] [cmp false, cmp false, cmp true, cmp false, cmp false, cmp false, cmp false]) (vII (-1) 0) [(b == 18442240474082181120, false), (a == 9218868437227405312, false), (a == b, false), (decide (cl b < 3), false), lU b, (decide (cl a < 3), true), lU a, (decide (cl b > 3), false), lU b, (decide (cl a > 3), false), lU a] := ⟨by kernel_rfl, by kernel_rfl, by kernel_rfl, by kernel_rfl⟩
theorem ahead_calls (a b : Int) (ha : U a) (hb : U b) (w : World) : Calls Try.prog 34 #[.int .u64 a, .int .u64 b] w fun r w' => r = .returned (.bool (ahK a b)) ∧ Tidy w w' := by
  have hv : ([.int .u64 a, .int .u64 b].all (lt 0)) = true := rfl
  have T := tabY_ok conR2_ok
  have ka : decide (U a) = true := decide_eq_true ha
  have kb : decide (U b) = true := decide_eq_true hb
  have kab : decide (U a ∧ U b) = true := decide_eq_true ⟨ha, hb⟩
  unfold ahK
  by_cases h : rkC (cl a) = rkC (cl b)
  · rw [if_neg (fun h' => h' h)]
    by_cases h2 : a ≤ b
    · rw [decide_eq_true h2]
      exact fits_calls T (ah_et a b) (okCons (decide_eq_true h2) (okCons (bne_f h) (okCons kb (okL1 ka)))) hv (by rfl) w
    · rw [decide_eq_false h2]
      exact fits_calls T (ah_ef a b) (okCons (decide_eq_false h2) (okCons (bne_f h) (okCons kb (okL1 ka)))) hv (by rfl) w
  · rw [if_pos h]
    by_cases h2 : rkC (cl a) < rkC (cl b)
    · rw [decide_eq_true h2]
      exact fits_calls T (ah_nt a b) (okCons (decide_eq_true h2) (okCons kb (okCons ka (okCons (bne_t h) (okCons kb (okL1 ka)))))) hv (by rfl) w
    · rw [decide_eq_false h2]
      exact fits_calls T (ah_nf a b) (okCons (decide_eq_false h2) (okCons kb (okCons ka (okCons (bne_t h) (okCons kb (okL1 ka)))))) hv (by rfl) w
theorem rcompare_calls (a b : Int) (ha : U a) (hb : U b) (w : World) : Calls Try.prog 10 #[.int .u64 a, .int .u64 b] w fun r w' => r = .returned (vII (coV a b) (coF a b)) ∧ Tidy w w' := by
  have hv : ([.int .u64 a, .int .u64 b].all (lt 0)) = true := rfl
  have T := tabY_ok conR2_ok
  have ka : decide (U a) = true := decide_eq_true ha
  have kb : decide (U b) = true := decide_eq_true hb
  have kab : decide (U a ∧ U b) = true := decide_eq_true ⟨ha, hb⟩
  by_cases hn : 3 < cl a ∨ 3 < cl b
  · rw [coV_nn.2 hn, show coF a b = ldF a b by unfold coF; rw [if_pos hn]]
    by_cases h1 : 3 < cl a
    · exact fits_calls T (rc_1 a b) (okCons rfl (okCons kab (okCons (decide_eq_true (by omega)) (okL1 ka)))) hv (by rfl) w
    · exact fits_calls T (rc_2 a b) (okCons rfl (okCons kab (okCons (decide_eq_true (by omega)) (okCons kb (okCons (decide_eq_false (by omega)) (okL1 ka)))))) hv (by rfl) w
  rw [show coF a b = 0 by unfold coF; rw [if_neg hn]]
  by_cases h1 : cl a < 3
  · by_cases h2 : cl b < 3
    · exact fits_calls T (rc_v a b) (okCons (decide_eq_true (by omega)) (okCons kab (okCons (decide_eq_true (by omega)) (okCons kb (okCons (decide_eq_true (by omega)) (okCons ka (okCons (decide_eq_false (by omega)) (okCons kb (okCons (decide_eq_false (by omega)) (okL1 ka)))))))))) hv (by rfl) w
    · rw [co_inf ha hb (by omega) (by omega) (by omega)]
      by_cases he : a = b
      · rw [if_pos he]
        exact fits_calls T (rc_y1 a b) (okCons (beq_t he) (okCons (decide_eq_false (by omega)) (okCons kb (okCons (decide_eq_true (by omega)) (okCons ka (okCons (decide_eq_false (by omega)) (okCons kb (okCons (decide_eq_false (by omega)) (okL1 ka))))))))) hv (by rfl) w
      rw [if_neg he]
      by_cases hi : a = 9218868437227405312
      · rw [if_pos (.inl hi)]
        exact fits_calls T (rc_y2 a b) (okCons (beq_t hi) (okCons (beq_f he) (okCons (decide_eq_false (by omega)) (okCons kb (okCons (decide_eq_true (by omega)) (okCons ka (okCons (decide_eq_false (by omega)) (okCons kb (okCons (decide_eq_false (by omega)) (okL1 ka)))))))))) hv (by rfl) w
      by_cases hj : b = 18442240474082181120
      · rw [if_pos (.inr hj)]
        exact fits_calls T (rc_y3 a b) (okCons (beq_t hj) (okCons (beq_f hi) (okCons (beq_f he) (okCons (decide_eq_false (by omega)) (okCons kb (okCons (decide_eq_true (by omega)) (okCons ka (okCons (decide_eq_false (by omega)) (okCons kb (okCons (decide_eq_false (by omega)) (okL1 ka))))))))))) hv (by rfl) w
      rw [if_neg (by omega)]
      exact fits_calls T (rc_y4 a b) (okCons (beq_f hj) (okCons (beq_f hi) (okCons (beq_f he) (okCons (decide_eq_false (by omega)) (okCons kb (okCons (decide_eq_true (by omega)) (okCons ka (okCons (decide_eq_false (by omega)) (okCons kb (okCons (decide_eq_false (by omega)) (okL1 ka))))))))))) hv (by rfl) w
  · rw [co_inf ha hb (by omega) (by omega) (by omega)]
    by_cases he : a = b
    · rw [if_pos he]
      exact fits_calls T (rc_x1 a b) (okCons (beq_t he) (okCons (decide_eq_false (by omega)) (okCons ka (okCons (decide_eq_false (by omega)) (okCons kb (okCons (decide_eq_false (by omega)) (okL1 ka))))))) hv (by rfl) w
    rw [if_neg he]
    by_cases hi : a = 9218868437227405312
    · rw [if_pos (.inl hi)]
      exact fits_calls T (rc_x2 a b) (okCons (beq_t hi) (okCons (beq_f he) (okCons (decide_eq_false (by omega)) (okCons ka (okCons (decide_eq_false (by omega)) (okCons kb (okCons (decide_eq_false (by omega)) (okL1 ka)))))))) hv (by rfl) w
    by_cases hj : b = 18442240474082181120
    · rw [if_pos (.inr hj)]
      exact fits_calls T (rc_x3 a b) (okCons (beq_t hj) (okCons (beq_f hi) (okCons (beq_f he) (okCons (decide_eq_false (by omega)) (okCons ka (okCons (decide_eq_false (by omega)) (okCons kb (okCons (decide_eq_false (by omega)) (okL1 ka))))))))) hv (by rfl) w
    rw [if_neg (by omega)]
    exact fits_calls T (rc_x4 a b) (okCons (beq_f hj) (okCons (beq_f hi) (okCons (beq_f he) (okCons (decide_eq_false (by omega)) (okCons ka (okCons (decide_eq_false (by omega)) (okCons kb (okCons (decide_eq_false (by omega)) (okL1 ka))))))))) hv (by rfl) w
def conR3 : Con := alt 34 (gUUb ahK) (alt 10 (gUU (fun a b => vII (coV a b) (coF a b)) fun _ _ => true) conR2)
theorem conR3_ok : ConOk conR3 := alt_ok Try.func34 rfl (gUUb_ok ahead_calls) (alt_ok Try.func10 rfl (gUU_ok fun a b ha hb _ w => rcompare_calls a b ha hb w) conR2_ok)
theorem to_1t (a b : Int) : Fits (reckon (tabOf Try.prog extY conR3 true) 300 21 [.int .u64 a, .int .u64 b] [cmp true, cmp true, cmp true]) (.bool true) [(ahK (mag b) (mag a), true), (decide (U (mag b) ∧ U (mag a)), true), lU a, lU b, (decide (b ≥ 9223372036854775808), true), (decide (a ≥ 9223372036854775808), true)] := ⟨by kernel_rfl, by kernel_rfl, by kernel_rfl, by kernel_rfl⟩
theorem to_4t (a b : Int) : Fits (reckon (tabOf Try.prog extY conR3 true) 300 21 [.int .u64 a, .int .u64 b] [cmp false, cmp false, cmp false, cmp true]) (.bool true) [(ahK a b, true), (decide (U a ∧ U b), true), (decide (b ≥ 9223372036854775808), false), (decide (a ≥ 9223372036854775808), false), (decide (a ≥ 9223372036854775808), false)] := ⟨by kernel_rfl, by kernel_rfl, by kernel_rfl, by kernel_rfl⟩
theorem to_1f (a b : Int) : Fits (reckon (tabOf Try.prog extY conR3 true) 300 21 [.int .u64 a, .int .u64 b] [cmp true, cmp true, cmp false]) (.bool false) [(ahK (mag b) (mag a), false), (decide (U (mag b) ∧ U (mag a)), true), lU a, lU b, (decide (b ≥ 9223372036854775808), true), (decide (a ≥ 9223372036854775808), true)] := ⟨by kernel_rfl, by kernel_rfl, by kernel_rfl, by kernel_rfl⟩
theorem to_4f (a b : Int) : Fits (reckon (tabOf Try.prog extY conR3 true) 300 21 [.int .u64 a, .int .u64 b] [cmp false, cmp false, cmp false, cmp false]) (.bool false) [(ahK a b, false), (decide (U a ∧ U b), true), (decide (b ≥ 9223372036854775808), false), (decide (a ≥ 9223372036854775808), false), (decide (a ≥ 9223372036854775808), false)] := ⟨by kernel_rfl, by kernel_rfl, by kernel_rfl, by kernel_rfl⟩
theorem to_2 (a b : Int) : Fits (reckon (tabOf Try.prog extY conR3 true) 300 21 [.int .u64 a, .int .u64 b] [cmp true, cmp false, cmp true, cmp true]) (.bool true) [(decide (a ≥ 9223372036854775808), true), (decide (a ≥ 9223372036854775808), true), (decide (b ≥ 9223372036854775808), false), (decide (a ≥ 9223372036854775808), true)] := ⟨by kernel_rfl, by kernel_rfl, by kernel_rfl, by kernel_rfl⟩
theorem to_3 (a b : Int) : Fits (reckon (tabOf Try.prog extY conR3 true) 300 21 [.int .u64 a, .int .u64 b] [cmp false, cmp false, cmp true, cmp false]) (.bool false) [(decide (a ≥ 9223372036854775808), false), (decide (b ≥ 9223372036854775808), true), (decide (a ≥ 9223372036854775808), false), (decide (a ≥ 9223372036854775808), false)] := ⟨by kernel_rfl, by kernel_rfl, by kernel_rfl, by kernel_rfl⟩
theorem rtotal_calls (a b : Int) (ha : U a) (hb : U b) (w : World) : Calls Try.prog 21 #[.int .u64 a, .int .u64 b] w fun r w' => r = .returned (.bool (tlB a b)) ∧ Tidy w w' := by
  have hv : ([.int .u64 a, .int .u64 b].all (lt 0)) = true := rfl
  have T := tabY_ok conR3_ok
  have ka : decide (U a) = true := decide_eq_true ha
  have kb : decide (U b) = true := decide_eq_true hb
  have kab : decide (U a ∧ U b) = true := decide_eq_true ⟨ha, hb⟩
  have km : decide (U (mag b) ∧ U (mag a)) = true := decide_eq_true ⟨U_mag b, U_mag a⟩
  have p1 : plc a = if a < 9223372036854775808 then a + 9223372036854775808 else 18446744073709551615 - a := rfl
  have p2 : plc b = if b < 9223372036854775808 then b + 9223372036854775808 else 18446744073709551615 - b := rfl
  have e1 : mag a = a % 9223372036854775808 := rfl
  have e2 : mag b = b % 9223372036854775808 := rfl
  have ua := ha
  have ub := hb
  unfold U at ua ub
  have km1 : ahK (mag b) (mag a) = decide (mag b ≤ mag a) := ah_le (mag_mag b) (mag_mag a)
  unfold tlB
  by_cases sa : a ≥ 9223372036854775808
  · rw [if_neg (show ¬ a < 9223372036854775808 by omega)] at p1
    by_cases sb : b ≥ 9223372036854775808
    · rw [if_neg (show ¬ b < 9223372036854775808 by omega)] at p2
      by_cases h : mag b ≤ mag a
      · have hk : ahK (mag b) (mag a) = true := by rw [km1]; exact decide_eq_true h
        rw [decide_eq_true (show plc a ≤ plc b by omega)]
        exact fits_calls T (to_1t a b) (okCons hk (okCons km (okCons ka (okCons kb (okCons (decide_eq_true sb) (okL1 (decide_eq_true sa))))))) hv (by rfl) w
      · have hk : ahK (mag b) (mag a) = false := by rw [km1]; exact decide_eq_false h
        rw [decide_eq_false (show ¬ plc a ≤ plc b by omega)]
        exact fits_calls T (to_1f a b) (okCons hk (okCons km (okCons ka (okCons kb (okCons (decide_eq_true sb) (okL1 (decide_eq_true sa))))))) hv (by rfl) w
    · rw [if_pos (show b < 9223372036854775808 by omega)] at p2
      rw [decide_eq_true (show plc a ≤ plc b by omega)]
      exact fits_calls T (to_2 a b) (okCons (decide_eq_true sa) (okCons (decide_eq_true sa) (okCons (decide_eq_false sb) (okL1 (decide_eq_true sa))))) hv (by rfl) w
  · rw [if_pos (show a < 9223372036854775808 by omega)] at p1
    by_cases sb : b ≥ 9223372036854775808
    · rw [if_neg (show ¬ b < 9223372036854775808 by omega)] at p2
      rw [decide_eq_false (show ¬ plc a ≤ plc b by omega)]
      exact fits_calls T (to_3 a b) (okCons (decide_eq_false sa) (okCons (decide_eq_true sb) (okCons (decide_eq_false sa) (okL1 (decide_eq_false sa))))) hv (by rfl) w
    · rw [if_pos (show b < 9223372036854775808 by omega)] at p2
      have km2 : ahK a b = decide (a ≤ b) := ah_le (by omega) (by omega)
      by_cases h : a ≤ b
      · have hk : ahK a b = true := by rw [km2]; exact decide_eq_true h
        rw [decide_eq_true (show plc a ≤ plc b by omega)]
        exact fits_calls T (to_4t a b) (okCons hk (okCons kab (okCons (decide_eq_false sb) (okCons (decide_eq_false sa) (okL1 (decide_eq_false sa)))))) hv (by rfl) w
      · have hk : ahK a b = false := by rw [km2]; exact decide_eq_false h
        rw [decide_eq_false (show ¬ plc a ≤ plc b by omega)]
        exact fits_calls T (to_4f a b) (okCons hk (okCons kab (okCons (decide_eq_false sb) (okCons (decide_eq_false sa) (okL1 (decide_eq_false sa)))))) hv (by rfl) w
end Go.Proofs.Ytfmfcbnhmkkibaa

/-
  The document's order (tillerref10): the less and the greater one of two patterns, in all ways, as a call in every world.
-/
namespace Go.Proofs.Ytfmfcbnhmkkibaa
open Go.KRun Go.Nt Go.Pt Go.Rn
set_option maxRecDepth 100000

def vUI (x y : Int) : Value := .tuple #[.int .u64 x, .int .i64 y]
theorem pn_tf (a b : Int) (l z : Bool) : Fits (reckon (tabOf Try.prog extY conR3 true) 300 14 [.int .u64 a, .int .u64 b, .bool l, .bool z, .bool true] [cmp true, cmp false, cmp true]) (vUI b (ldF a b)) [(true, true), (decide (U a ∧ U b), true), (decide (cl a > 3), true), lU a, (decide (cl b > 3), false), lU b, (decide (cl a > 3), true), lU a] := ⟨by kernel_rfl, by kernel_rfl, by kernel_rfl, by kernel_rfl⟩
theorem pn_ft (a b : Int) (l z : Bool) : Fits (reckon (tabOf Try.prog extY conR3 true) 300 14 [.int .u64 a, .int .u64 b, .bool l, .bool z, .bool true] [cmp false, cmp true, cmp false]) (vUI a (ldF a b)) [(true, true), (decide (U a ∧ U b), true), (decide (cl a > 3), false), lU a, (decide (cl b > 3), true), lU b, (decide (cl a > 3), false), lU a] := ⟨by kernel_rfl, by kernel_rfl, by kernel_rfl, by kernel_rfl⟩
theorem pn_tt (a b : Int) (l z : Bool) : Fits (reckon (tabOf Try.prog extY conR3 true) 300 14 [.int .u64 a, .int .u64 b, .bool l, .bool z, .bool true] [cmp true, cmp true, cmp true]) (vUI 9221120237041090560 (ldF a b)) [(true, true), (decide (U a ∧ U b), true), (decide (cl a > 3), true), lU a, (decide (cl b > 3), true), lU b, (decide (cl a > 3), true), lU a] := ⟨by kernel_rfl, by kernel_rfl, by kernel_rfl, by kernel_rfl⟩
theorem pf_t (a b : Int) (l z : Bool) : Fits (reckon (tabOf Try.prog extY conR3 true) 300 14 [.int .u64 a, .int .u64 b, .bool l, .bool z, .bool false] [cmp true]) (vUI 9221120237041090560 (ldF a b)) [(true, true), (decide (U a ∧ U b), true), (decide (cl a > 3), true), lU a] := ⟨by kernel_rfl, by kernel_rfl, by kernel_rfl, by kernel_rfl⟩
theorem pf_f (a b : Int) (l z : Bool) : Fits (reckon (tabOf Try.prog extY conR3 true) 300 14 [.int .u64 a, .int .u64 b, .bool l, .bool z, .bool false] [cmp false, cmp true]) (vUI 9221120237041090560 (ldF a b)) [(true, true), (decide (U a ∧ U b), true), (decide (cl b > 3), true), lU b, (decide (cl a > 3), false), lU a] := ⟨by kernel_rfl, by kernel_rfl, by kernel_rfl, by kernel_rfl⟩
theorem pk_t0tn (a b : Int) : Fits (reckon (tabOf Try.prog extY conR3 true) 300 14 [.int .u64 a, .int .u64 b, .bool true, .bool false, .bool true] [cmp false, cmp false, cmp false, cmp false, cmp false, cmp false, cmp true]) (vUI a 0) [(decide (coV a b < 0), true), (coV a b == 0, false), (coV a b == 0, false), (true, true), (decide (U a ∧ U b), true), (decide (cl b > 3), false), lU b, (decide (cl a > 3), false), lU a, (decide (cl b > 3), false), lU b, (decide (cl a > 3), false), lU a] := ⟨by kernel_rfl, by kernel_rfl, by kernel_rfl, by kernel_rfl⟩
theorem pk_t0tp (a b : Int) : Fits (reckon (tabOf Try.prog extY conR3 true) 300 14 [.int .u64 a, .int .u64 b, .bool true, .bool false, .bool true] [cmp false, cmp false, cmp false, cmp false, cmp false, cmp false, cmp false]) (vUI b 0) [(decide (coV a b < 0), false), (coV a b == 0, false), (coV a b == 0, false), (true, true), (decide (U a ∧ U b), true), (decide (cl b > 3), false), lU b, (decide (cl a > 3), false), lU a, (decide (cl b > 3), false), lU b, (decide (cl a > 3), false), lU a] := ⟨by kernel_rfl, by kernel_rfl, by kernel_rfl, by kernel_rfl⟩
theorem pk_t0tm (a b : Int) : Fits (reckon (tabOf Try.prog extY conR3 true) 300 14 [.int .u64 a, .int .u64 b, .bool true, .bool false, .bool true] [cmp false, cmp false, cmp false, cmp false, cmp true, cmp true, cmp true, cmp false, cmp true]) (vUI a 0) [(true, true), (false, false), (decide (b < 9223372036854775808), true), (decide (a ≥ 9223372036854775808), true), (coV a b == 0, true), (true, true), (decide (U a ∧ U b), true), (decide (cl b > 3), false), lU b, (decide (cl a > 3), false), lU a, (decide (cl b > 3), false), lU b, (decide (cl a > 3), false), lU a] := ⟨by kernel_rfl, by kernel_rfl, by kernel_rfl, by kernel_rfl⟩
theorem pk_t0tb (a b : Int) : Fits (reckon (tabOf Try.prog extY conR3 true) 300 14 [.int .u64 a, .int .u64 b, .bool true, .bool false, .bool true] [cmp false, cmp false, cmp false, cmp false, cmp true, cmp true, cmp false, cmp true, cmp false, cmp false]) (vUI b 0) [(decide (coV a b < 0), false), (decide (a < 9223372036854775808), false), (coV a b == 0, true), (decide (b < 9223372036854775808), false), (decide (a ≥ 9223372036854775808), true), (coV a b == 0, true), (true, true), (decide (U a ∧ U b), true), (decide (cl b > 3), false), lU b, (decide (cl a > 3), false), lU a, (decide (cl b > 3), false), lU b, (decide (cl a > 3), false), lU a] := ⟨by kernel_rfl, by kernel_rfl, by kernel_rfl, by kernel_rfl⟩
theorem pk_t0tq (a b : Int) : Fits (reckon (tabOf Try.prog extY conR3 true) 300 14 [.int .u64 a, .int .u64 b, .bool true, .bool false, .bool true] [cmp false, cmp false, cmp false, cmp false, cmp true, cmp false, cmp true, cmp true, cmp true, cmp false]) (vUI b 0) [(false, false), (decide (b ≥ 9223372036854775808), true), (decide (a < 9223372036854775808), true), (coV a b == 0, true), (decide (a ≥ 9223372036854775808), false), (coV a b == 0, true), (true, true), (decide (U a ∧ U b), true), (decide (cl b > 3), false), lU b, (decide (cl a > 3), false), lU a, (decide (cl b > 3), false), lU b, (decide (cl a > 3), false), lU a] := ⟨by kernel_rfl, by kernel_rfl, by kernel_rfl, by kernel_rfl⟩
theorem pk_t0ta (a b : Int) : Fits (reckon (tabOf Try.prog extY conR3 true) 300 14 [.int .u64 a, .int .u64 b, .bool true, .bool false, .bool true] [cmp false, cmp false, cmp false, cmp false, cmp true, cmp false, cmp true, cmp true, cmp false, cmp false]) (vUI b 0) [(decide (coV a b < 0), false), (decide (b ≥ 9223372036854775808), false), (decide (a < 9223372036854775808), true), (coV a b == 0, true), (decide (a ≥ 9223372036854775808), false), (coV a b == 0, true), (true, true), (decide (U a ∧ U b), true), (decide (cl b > 3), false), lU b, (decide (cl a > 3), false), lU a, (decide (cl b > 3), false), lU b, (decide (cl a > 3), false), lU a] := ⟨by kernel_rfl, by kernel_rfl, by kernel_rfl, by kernel_rfl⟩
theorem pk_t0fn (a b : Int) : Fits (reckon (tabOf Try.prog extY conR3 true) 300 14 [.int .u64 a, .int .u64 b, .bool false, .bool false, .bool true] [cmp false, cmp false, cmp false, cmp false, cmp false, cmp false, cmp true]) (vUI b 0) [(decide (coV a b < 0), true), (coV a b == 0, false), (coV a b == 0, false), (true, true), (decide (U a ∧ U b), true), (decide (cl b > 3), false), lU b, (decide (cl a > 3), false), lU a, (decide (cl b > 3), false), lU b, (decide (cl a > 3), false), lU a] := ⟨by kernel_rfl, by kernel_rfl, by kernel_rfl, by kernel_rfl⟩
theorem pk_t0fp (a b : Int) : Fits (reckon (tabOf Try.prog extY conR3 true) 300 14 [.int .u64 a, .int .u64 b, .bool false, .bool false, .bool true] [cmp false, cmp false, cmp false, cmp false, cmp false, cmp false, cmp false]) (vUI a 0) [(decide (coV a b < 0), false), (coV a b == 0, false), (coV a b == 0, false), (true, true), (decide (U a ∧ U b), true), (decide (cl b > 3), false), lU b, (decide (cl a > 3), false), lU a, (decide (cl b > 3), false), lU b, (decide (cl a > 3), false), lU a] := ⟨by kernel_rfl, by kernel_rfl, by kernel_rfl, by kernel_rfl⟩
theorem pk_t0fm (a b : Int) : Fits (reckon (tabOf Try.prog extY conR3 true) 300 14 [.int .u64 a, .int .u64 b, .bool false, .bool false, .bool true] [cmp false, cmp false, cmp false, cmp false, cmp true, cmp true, cmp true, cmp false, cmp true]) (vUI b 0) [(true, true), (false, false), (decide (b < 9223372036854775808), true), (decide (a ≥ 9223372036854775808), true), (coV a b == 0, true), (true, true), (decide (U a ∧ U b), true), (decide (cl b > 3), false), lU b, (decide (cl a > 3), false), lU a, (decide (cl b > 3), false), lU b, (decide (cl a > 3), false), lU a] := ⟨by kernel_rfl, by kernel_rfl, by kernel_rfl, by kernel_rfl⟩
theorem pk_t0fb (a b : Int) : Fits (reckon (tabOf Try.prog extY conR3 true) 300 14 [.int .u64 a, .int .u64 b, .bool false, .bool false, .bool true] [cmp false, cmp false, cmp false, cmp false, cmp true, cmp true, cmp false, cmp true, cmp false, cmp false]) (vUI a 0) [(decide (coV a b < 0), false), (decide (a < 9223372036854775808), false), (coV a b == 0, true), (decide (b < 9223372036854775808), false), (decide (a ≥ 9223372036854775808), true), (coV a b == 0, true), (true, true), (decide (U a ∧ U b), true), (decide (cl b > 3), false), lU b, (decide (cl a > 3), false), lU a, (decide (cl b > 3), false), lU b, (decide (cl a > 3), false), lU a] := ⟨by kernel_rfl, by kernel_rfl, by kernel_rfl, by kernel_rfl⟩
theorem pk_t0fq (a b : Int) : Fits (reckon (tabOf Try.prog extY conR3 true) 300 14 [.int .u64 a, .int .u64 b, .bool false, .bool false, .bool true] [cmp false, cmp false, cmp false, cmp false, cmp true, cmp false, cmp true, cmp true, cmp true, cmp false]) (vUI a 0) [(false, false), (decide (b ≥ 9223372036854775808), true), (decide (a < 9223372036854775808), true), (coV a b == 0, true), (decide (a ≥ 9223372036854775808), false), (coV a b == 0, true), (true, true), (decide (U a ∧ U b), true), (decide (cl b > 3), false), lU b, (decide (cl a > 3), false), lU a, (decide (cl b > 3), false), lU b, (decide (cl a > 3), false), lU a] := ⟨by kernel_rfl, by kernel_rfl, by kernel_rfl, by kernel_rfl⟩
theorem pk_t0fa (a b : Int) : Fits (reckon (tabOf Try.prog extY conR3 true) 300 14 [.int .u64 a, .int .u64 b, .bool false, .bool false, .bool true] [cmp false, cmp false, cmp false, cmp false, cmp true, cmp false, cmp true, cmp true, cmp false, cmp false]) (vUI a 0) [(decide (coV a b < 0), false), (decide (b ≥ 9223372036854775808), false), (decide (a < 9223372036854775808), true), (coV a b == 0, true), (decide (a ≥ 9223372036854775808), false), (coV a b == 0, true), (true, true), (decide (U a ∧ U b), true), (decide (cl b > 3), false), lU b, (decide (cl a > 3), false), lU a, (decide (cl b > 3), false), lU b, (decide (cl a > 3), false), lU a] := ⟨by kernel_rfl, by kernel_rfl, by kernel_rfl, by kernel_rfl⟩
theorem pk_t1tn (a b : Int) : Fits (reckon (tabOf Try.prog extY conR3 true) 300 14 [.int .u64 a, .int .u64 b, .bool true, .bool true, .bool true] [cmp false, cmp false, cmp false, cmp false, cmp true, cmp false, cmp false, cmp true]) (vUI a 0) [(decide (coV (mag a) (mag b) < 0), true), (coV (mag a) (mag b) == 0, false), (coV (mag a) (mag b) == 0, false), (coV (mag a) (mag b) != 0, true), (true, true), (decide (U (mag a) ∧ U (mag b)), true), lU b, lU a, (true, true), (decide (U a ∧ U b), true), (decide (cl b > 3), false), lU b, (decide (cl a > 3), false), lU a, (decide (cl b > 3), false), lU b, (decide (cl a > 3), false), lU a] := ⟨by kernel_rfl, by kernel_rfl, by kernel_rfl, by kernel_rfl⟩
theorem pk_t1tp (a b : Int) : Fits (reckon (tabOf Try.prog extY conR3 true) 300 14 [.int .u64 a, .int .u64 b, .bool true, .bool true, .bool true] [cmp false, cmp false, cmp false, cmp false, cmp true, cmp false, cmp false, cmp false]) (vUI b 0) [(decide (coV (mag a) (mag b) < 0), false), (coV (mag a) (mag b) == 0, false), (coV (mag a) (mag b) == 0, false), (coV (mag a) (mag b) != 0, true), (true, true), (decide (U (mag a) ∧ U (mag b)), true), lU b, lU a, (true, true), (decide (U a ∧ U b), true), (decide (cl b > 3), false), lU b, (decide (cl a > 3), false), lU a, (decide (cl b > 3), false), lU b, (decide (cl a > 3), false), lU a] := ⟨by kernel_rfl, by kernel_rfl, by kernel_rfl, by kernel_rfl⟩
theorem pk_t1tm (a b : Int) : Fits (reckon (tabOf Try.prog extY conR3 true) 300 14 [.int .u64 a, .int .u64 b, .bool true, .bool true, .bool true] [cmp false, cmp false, cmp false, cmp false, cmp true, cmp true, cmp true, cmp true, cmp false, cmp true]) (vUI a 0) [(true, true), (false, false), (decide (b < 9223372036854775808), true), (decide (a ≥ 9223372036854775808), true), (coV (mag a) (mag b) == 0, true), (coV (mag a) (mag b) != 0, true), (true, true), (decide (U (mag a) ∧ U (mag b)), true), lU b, lU a, (true, true), (decide (U a ∧ U b), true), (decide (cl b > 3), false), lU b, (decide (cl a > 3), false), lU a, (decide (cl b > 3), false), lU b, (decide (cl a > 3), false), lU a] := ⟨by kernel_rfl, by kernel_rfl, by kernel_rfl, by kernel_rfl⟩
theorem pk_t1tb (a b : Int) : Fits (reckon (tabOf Try.prog extY conR3 true) 300 14 [.int .u64 a, .int .u64 b, .bool true, .bool true, .bool true] [cmp false, cmp false, cmp false, cmp false, cmp true, cmp true, cmp true, cmp false, cmp true, cmp false, cmp false]) (vUI b 0) [(decide (coV (mag a) (mag b) < 0), false), (decide (a < 9223372036854775808), false), (coV (mag a) (mag b) == 0, true), (decide (b < 9223372036854775808), false), (decide (a ≥ 9223372036854775808), true), (coV (mag a) (mag b) == 0, true), (coV (mag a) (mag b) != 0, true), (true, true), (decide (U (mag a) ∧ U (mag b)), true), lU b, lU a, (true, true), (decide (U a ∧ U b), true), (decide (cl b > 3), false), lU b, (decide (cl a > 3), false), lU a, (decide (cl b > 3), false), lU b, (decide (cl a > 3), false), lU a] := ⟨by kernel_rfl, by kernel_rfl, by kernel_rfl, by kernel_rfl⟩
theorem pk_t1tq (a b : Int) : Fits (reckon (tabOf Try.prog extY conR3 true) 300 14 [.int .u64 a, .int .u64 b, .bool true, .bool true, .bool true] [cmp false, cmp false, cmp false, cmp false, cmp true, cmp true, cmp false, cmp true, cmp true, cmp true, cmp false]) (vUI b 0) [(false, false), (decide (b ≥ 9223372036854775808), true), (decide (a < 9223372036854775808), true), (coV (mag a) (mag b) == 0, true), (decide (a ≥ 9223372036854775808), false), (coV (mag a) (mag b) == 0, true), (coV (mag a) (mag b) != 0, true), (true, true), (decide (U (mag a) ∧ U (mag b)), true), lU b, lU a, (true, true), (decide (U a ∧ U b), true), (decide (cl b > 3), false), lU b, (decide (cl a > 3), false), lU a, (decide (cl b > 3), false), lU b, (decide (cl a > 3), false), lU a] := ⟨by kernel_rfl, by kernel_rfl, by kernel_rfl, by kernel_rfl⟩
theorem pk_t1ta (a b : Int) : Fits (reckon (tabOf Try.prog extY conR3 true) 300 14 [.int .u64 a, .int .u64 b, .bool true, .bool true, .bool true] [cmp false, cmp false, cmp false, cmp false, cmp true, cmp true, cmp false, cmp true, cmp true, cmp false, cmp false]) (vUI b 0) [(decide (coV (mag a) (mag b) < 0), false), (decide (b ≥ 9223372036854775808), false), (decide (a < 9223372036854775808), true), (coV (mag a) (mag b) == 0, true), (decide (a ≥ 9223372036854775808), false), (coV (mag a) (mag b) == 0, true), (coV (mag a) (mag b) != 0, true), (true, true), (decide (U (mag a) ∧ U (mag b)), true), lU b, lU a, (true, true), (decide (U a ∧ U b), true), (decide (cl b > 3), false), lU b, (decide (cl a > 3), false), lU a, (decide (cl b > 3), false), lU b, (decide (cl a > 3), false), lU a] := ⟨by kernel_rfl, by kernel_rfl, by kernel_rfl, by kernel_rfl⟩
theorem pk_t1fn (a b : Int) : Fits (reckon (tabOf Try.prog extY conR3 true) 300 14 [.int .u64 a, .int .u64 b, .bool false, .bool true, .bool true] [cmp false, cmp false, cmp false, cmp false, cmp true, cmp false, cmp false, cmp true]) (vUI b 0) [(decide (coV (mag a) (mag b) < 0), true), (coV (mag a) (mag b) == 0, false), (coV (mag a) (mag b) == 0, false), (coV (mag a) (mag b) != 0, true), (true, true), (decide (U (mag a) ∧ U (mag b)), true), lU b, lU a, (true, true), (decide (U a ∧ U b), true), (decide (cl b > 3), false), lU b, (decide (cl a > 3), false), lU a, (decide (cl b > 3), false), lU b, (decide (cl a > 3), false), lU a] := ⟨by kernel_rfl, by kernel_rfl, by kernel_rfl, by kernel_rfl⟩
theorem pk_t1fp (a b : Int) : Fits (reckon (tabOf Try.prog extY conR3 true) 300 14 [.int .u64 a, .int .u64 b, .bool false, .bool true, .bool true] [cmp false, cmp false, cmp false, cmp false, cmp true, cmp false, cmp false, cmp false]) (vUI a 0) [(decide (coV (mag a) (mag b) < 0), false), (coV (mag a) (mag b) == 0, false), (coV (mag a) (mag b) == 0, false), (coV (mag a) (mag b) != 0, true), (true, true), (decide (U (mag a) ∧ U (mag b)), true), lU b, lU a, (true, true), (decide (U a ∧ U b), true), (decide (cl b > 3), false), lU b, (decide (cl a > 3), false), lU a, (decide (cl b > 3), false), lU b, (decide (cl a > 3), false), lU a] := ⟨by kernel_rfl, by kernel_rfl, by kernel_rfl, by kernel_rfl⟩
theorem pk_t1fm (a b : Int) : Fits (reckon (tabOf Try.prog extY conR3 true) 300 14 [.int .u64 a, .int .u64 b, .bool false, .bool true, .bool true] [cmp false, cmp false, cmp false, cmp false, cmp true, cmp true, cmp true, cmp true, cmp false, cmp true]) (vUI b 0) [(true, true), (false, false), (decide (b < 9223372036854775808), true), (decide (a ≥ 9223372036854775808), true), (coV (mag a) (mag b) == 0, true), (coV (mag a) (mag b) != 0, true), (true, true), (decide (U (mag a) ∧ U (mag b)), true), lU b, lU a, (true, true), (decide (U a ∧ U b), true), (decide (cl b > 3), false), lU b, (decide (cl a > 3), false), lU a, (decide (cl b > 3), false), lU b, (decide (cl a > 3), false), lU a] := ⟨by kernel_rfl, by kernel_rfl, by kernel_rfl, by kernel_rfl⟩
theorem pk_t1fb (a b : Int) : Fits (reckon (tabOf Try.prog extY conR3 true) 300 14 [.int .u64 a, .int .u64 b, .bool false, .bool true, .bool true] [cmp false, cmp false, cmp false, cmp false, cmp true, cmp true, cmp true, cmp false, cmp true, cmp false, cmp false]) (vUI a 0) [(decide (coV (mag a) (mag b) < 0), false), (decide (a < 9223372036854775808), false), (coV (mag a) (mag b) == 0, true), (decide (b < 9223372036854775808), false), (decide (a ≥ 9223372036854775808), true), (coV (mag a) (mag b) == 0, true), (coV (mag a) (mag b) != 0, true), (true, true), (decide (U (mag a) ∧ U (mag b)), true), lU b, lU a, (true, true), (decide (U a ∧ U b), true), (decide (cl b > 3), false), lU b, (decide (cl a > 3), false), lU a, (decide (cl b > 3), false), lU b, (decide (cl a > 3), false), lU a] := ⟨by kernel_rfl, by kernel_rfl, by kernel_rfl, by kernel_rfl⟩
theorem pk_t1fq (a b : Int) : Fits (reckon (tabOf Try.prog extY conR3 true) 300 14 [.int .u64 a, .int .u64 b, .bool false, .bool true, .bool true] [cmp false, cmp false, cmp false, cmp false, cmp true, cmp true, cmp false, cmp true, cmp true, cmp true, cmp false]) (vUI a 0) [(false, false), (decide (b ≥ 9223372036854775808), true), (decide (a < 9223372036854775808), true), (coV (mag a) (mag b) == 0, true), (decide (a ≥ 9223372036854775808), false), (coV (mag a) (mag b) == 0, true), (coV (mag a) (mag b) != 0, true), (true, true), (decide (U (mag a) ∧ U (mag b)), true), lU b, lU a, (true, true), (decide (U a ∧ U b), true), (decide (cl b > 3), false), lU b, (decide (cl a > 3), false), lU a, (decide (cl b > 3), false), lU b, (decide (cl a > 3), false), lU a] := ⟨by kernel_rfl, by kernel_rfl, by kernel_rfl, by kernel_rfl⟩
theorem pk_t1fa (a b : Int) : Fits (reckon (tabOf Try.prog extY conR3 true) 300 14 [.int .u64 a, .int .u64 b, .bool false, .bool true, .bool true] [cmp false, cmp false, cmp false, cmp false, cmp true, cmp true, cmp false, cmp true, cmp true, cmp false, cmp false]) (vUI a 0) [(decide (coV (mag a) (mag b) < 0), false), (decide (b ≥ 9223372036854775808), false), (decide (a < 9223372036854775808), true), (coV (mag a) (mag b) == 0, true), (decide (a ≥ 9223372036854775808), false), (coV (mag a) (mag b) == 0, true), (coV (mag a) (mag b) != 0, true), (true, true), (decide (U (mag a) ∧ U (mag b)), true), lU b, lU a, (true, true), (decide (U a ∧ U b), true), (decide (cl b > 3), false), lU b, (decide (cl a > 3), false), lU a, (decide (cl b > 3), false), lU b, (decide (cl a > 3), false), lU a] := ⟨by kernel_rfl, by kernel_rfl, by kernel_rfl, by kernel_rfl⟩
theorem pk_t2tn (a b : Int) : Fits (reckon (tabOf Try.prog extY conR3 true) 300 14 [.int .u64 a, .int .u64 b, .bool true, .bool true, .bool true] [cmp false, cmp false, cmp false, cmp false, cmp false, cmp false, cmp false, cmp true]) (vUI a 0) [(decide (coV a b < 0), true), (coV a b == 0, false), (coV a b == 0, false), (coV (mag a) (mag b) != 0, false), (true, true), (decide (U (mag a) ∧ U (mag b)), true), lU b, lU a, (true, true), (decide (U a ∧ U b), true), (decide (cl b > 3), false), lU b, (decide (cl a > 3), false), lU a, (decide (cl b > 3), false), lU b, (decide (cl a > 3), false), lU a] := ⟨by kernel_rfl, by kernel_rfl, by kernel_rfl, by kernel_rfl⟩
theorem pk_t2tp (a b : Int) : Fits (reckon (tabOf Try.prog extY conR3 true) 300 14 [.int .u64 a, .int .u64 b, .bool true, .bool true, .bool true] [cmp false, cmp false, cmp false, cmp false, cmp false, cmp false, cmp false, cmp false]) (vUI b 0) [(decide (coV a b < 0), false), (coV a b == 0, false), (coV a b == 0, false), (coV (mag a) (mag b) != 0, false), (true, true), (decide (U (mag a) ∧ U (mag b)), true), lU b, lU a, (true, true), (decide (U a ∧ U b), true), (decide (cl b > 3), false), lU b, (decide (cl a > 3), false), lU a, (decide (cl b > 3), false), lU b, (decide (cl a > 3), false), lU a] := ⟨by kernel_rfl, by kernel_rfl, by kernel_rfl, by kernel_rfl⟩
theorem pk_t2tm (a b : Int) : Fits (reckon (tabOf Try.prog extY conR3 true) 300 14 [.int .u64 a, .int .u64 b, .bool true, .bool true, .bool true] [cmp false, cmp false, cmp false, cmp false, cmp false, cmp true, cmp true, cmp true, cmp false, cmp true]) (vUI a 0) [(true, true), (false, false), (decide (b < 9223372036854775808), true), (decide (a ≥ 9223372036854775808), true), (coV a b == 0, true), (coV (mag a) (mag b) != 0, false), (true, true), (decide (U (mag a) ∧ U (mag b)), true), lU b, lU a, (true, true), (decide (U a ∧ U b), true), (decide (cl b > 3), false), lU b, (decide (cl a > 3), false), lU a, (decide (cl b > 3), false), lU b, (decide (cl a > 3), false), lU a] := ⟨by kernel_rfl, by kernel_rfl, by kernel_rfl, by kernel_rfl⟩
theorem pk_t2tb (a b : Int) : Fits (reckon (tabOf Try.prog extY conR3 true) 300 14 [.int .u64 a, .int .u64 b, .bool true, .bool true, .bool true] [cmp false, cmp false, cmp false, cmp false, cmp false, cmp true, cmp true, cmp false, cmp true, cmp false, cmp false]) (vUI b 0) [(decide (coV a b < 0), false), (decide (a < 9223372036854775808), false), (coV a b == 0, true), (decide (b < 9223372036854775808), false), (decide (a ≥ 9223372036854775808), true), (coV a b == 0, true), (coV (mag a) (mag b) != 0, false), (true, true), (decide (U (mag a) ∧ U (mag b)), true), lU b, lU a, (true, true), (decide (U a ∧ U b), true), (decide (cl b > 3), false), lU b, (decide (cl a > 3), false), lU a, (decide (cl b > 3), false), lU b, (decide (cl a > 3), false), lU a] := ⟨by kernel_rfl, by kernel_rfl, by kernel_rfl, by kernel_rfl⟩
theorem pk_t2tq (a b : Int) : Fits (reckon (tabOf Try.prog extY conR3 true) 300 14 [.int .u64 a, .int .u64 b, .bool true, .bool true, .bool true] [cmp false, cmp false, cmp false, cmp false, cmp false, cmp true, cmp false, cmp true, cmp true, cmp true, cmp false]) (vUI b 0) [(false, false), (decide (b ≥ 9223372036854775808), true), (decide (a < 9223372036854775808), true), (coV a b == 0, true), (decide (a ≥ 9223372036854775808), false), (coV a b == 0, true), (coV (mag a) (mag b) != 0, false), (true, true), (decide (U (mag a) ∧ U (mag b)), true), lU b, lU a, (true, true), (decide (U a ∧ U b), true), (decide (cl b > 3), false), lU b, (decide (cl a > 3), false), lU a, (decide (cl b > 3), false), lU b, (decide (cl a > 3), false), lU a] := ⟨by kernel_rfl, by kernel_rfl, by kernel_rfl, by kernel_rfl⟩
theorem pk_t2ta (a b : Int) : Fits (reckon (tabOf Try.prog extY conR3 true) 300 14 [.int .u64 a, .int .u64 b, .bool true, .bool true, .bool true] [cmp false, cmp false, cmp false, cmp false, cmp false, cmp true, cmp false, cmp true, cmp true, cmp false, cmp false]) (vUI b 0) [(decide (coV a b < 0), false), (decide (b ≥ 9223372036854775808), false), (decide (a < 9223372036854775808), true), (coV a b == 0, true), (decide (a ≥ 9223372036854775808), false), (coV a b == 0, true), (coV (mag a) (mag b) != 0, false), (true, true), (decide (U (mag a) ∧ U (mag b)), true), lU b, lU a, (true, true), (decide (U a ∧ U b), true), (decide (cl b > 3), false), lU b, (decide (cl a > 3), false), lU a, (decide (cl b > 3), false), lU b, (decide (cl a > 3), false), lU a] := ⟨by kernel_rfl, by kernel_rfl, by kernel_rfl, by kernel_rfl⟩
theorem pk_t2fn (a b : Int) : Fits (reckon (tabOf Try.prog extY conR3 true) 300 14 [.int .u64 a, .int .u64 b, .bool false, .bool true, .bool true] [cmp false, cmp false, cmp false, cmp false, cmp false, cmp false, cmp false, cmp true]) (vUI b 0) [(decide (coV a b < 0), true), (coV a b == 0, false), (coV a b == 0, false), (coV (mag a) (mag b) != 0, false), (true, true), (decide (U (mag a) ∧ U (mag b)), true), lU b, lU a, (true, true), (decide (U a ∧ U b), true), (decide (cl b > 3), false), lU b, (decide (cl a > 3), false), lU a, (decide (cl b > 3), false), lU b, (decide (cl a > 3), false), lU a] := ⟨by kernel_rfl, by kernel_rfl, by kernel_rfl, by kernel_rfl⟩
theorem pk_t2fp (a b : Int) : Fits (reckon (tabOf Try.prog extY conR3 true) 300 14 [.int .u64 a, .int .u64 b, .bool false, .bool true, .bool true] [cmp false, cmp false, cmp false, cmp false, cmp false, cmp false, cmp false, cmp false]) (vUI a 0) [(decide (coV a b < 0), false), (coV a b == 0, false), (coV a b == 0, false), (coV (mag a) (mag b) != 0, false), (true, true), (decide (U (mag a) ∧ U (mag b)), true), lU b, lU a, (true, true), (decide (U a ∧ U b), true), (decide (cl b > 3), false), lU b, (decide (cl a > 3), false), lU a, (decide (cl b > 3), false), lU b, (decide (cl a > 3), false), lU a] := ⟨by kernel_rfl, by kernel_rfl, by kernel_rfl, by kernel_rfl⟩
theorem pk_t2fm (a b : Int) : Fits (reckon (tabOf Try.prog extY conR3 true) 300 14 [.int .u64 a, .int .u64 b, .bool false, .bool true, .bool true] [cmp false, cmp false, cmp false, cmp false, cmp false, cmp true, cmp true, cmp true, cmp false, cmp true]) (vUI b 0) [(true, true), (false, false), (decide (b < 9223372036854775808), true), (decide (a ≥ 9223372036854775808), true), (coV a b == 0, true), (coV (mag a) (mag b) != 0, false), (true, true), (decide (U (mag a) ∧ U (mag b)), true), lU b, lU a, (true, true), (decide (U a ∧ U b), true), (decide (cl b > 3), false), lU b, (decide (cl a > 3), false), lU a, (decide (cl b > 3), false), lU b, (decide (cl a > 3), false), lU a] := ⟨by kernel_rfl, by kernel_rfl, by kernel_rfl, by kernel_rfl⟩
theorem pk_t2fb (a b : Int) : Fits (reckon (tabOf Try.prog extY conR3 true) 300 14 [.int .u64 a, .int .u64 b, .bool false, .bool true, .bool true] [cmp false, cmp false, cmp false, cmp false, cmp false, cmp true, cmp true, cmp false, cmp true, cmp false, cmp false]) (vUI a 0) [(decide (coV a b < 0), false), (decide (a < 9223372036854775808), false), (coV a b == 0, true), (decide (b < 9223372036854775808), false), (decide (a ≥ 9223372036854775808), true), (coV a b == 0, true), (coV (mag a) (mag b) != 0, false), (true, true), (decide (U (mag a) ∧ U (mag b)), true), lU b, lU a, (true, true), (decide (U a ∧ U b), true), (decide (cl b > 3), false), lU b, (decide (cl a > 3), false), lU a, (decide (cl b > 3), false), lU b, (decide (cl a > 3), false), lU a] := ⟨by kernel_rfl, by kernel_rfl, by kernel_rfl, by kernel_rfl⟩
theorem pk_t2fq (a b : Int) : Fits (reckon (tabOf Try.prog extY conR3 true) 300 14 [.int .u64 a, .int .u64 b, .bool false, .bool true, .bool true] [cmp false, cmp false, cmp false, cmp false, cmp false, cmp true, cmp false, cmp true, cmp true, cmp true, cmp false]) (vUI a 0) [(false, false), (decide (b ≥ 9223372036854775808), true), (decide (a < 9223372036854775808), true), (coV a b == 0, true), (decide (a ≥ 9223372036854775808), false), (coV a b == 0, true), (coV (mag a) (mag b) != 0, false), (true, true), (decide (U (mag a) ∧ U (mag b)), true), lU b, lU a, (true, true), (decide (U a ∧ U b), true), (decide (cl b > 3), false), lU b, (decide (cl a > 3), false), lU a, (decide (cl b > 3), false), lU b, (decide (cl a > 3), false), lU a] := ⟨by kernel_rfl, by kernel_rfl, by kernel_rfl, by kernel_rfl⟩
theorem pk_t2fa (a b : Int) : Fits (reckon (tabOf Try.prog extY conR3 true) 300 14 [.int .u64 a, .int .u64 b, .bool false, .bool true, .bool true] [cmp false, cmp false, cmp false, cmp false, cmp false, cmp true, cmp false, cmp true, cmp true, cmp false, cmp false]) (vUI a 0) [(decide (coV a b < 0), false), (decide (b ≥ 9223372036854775808), false), (decide (a < 9223372036854775808), true), (coV a b == 0, true), (decide (a ≥ 9223372036854775808), false), (coV a b == 0, true), (coV (mag a) (mag b) != 0, false), (true, true), (decide (U (mag a) ∧ U (mag b)), true), lU b, lU a, (true, true), (decide (U a ∧ U b), true), (decide (cl b > 3), false), lU b, (decide (cl a > 3), false), lU a, (decide (cl b > 3), false), lU b, (decide (cl a > 3), false), lU a] := ⟨by kernel_rfl, by kernel_rfl, by kernel_rfl, by kernel_rfl⟩
theorem pk_f0tn (a b : Int) : Fits (reckon (tabOf Try.prog extY conR3 true) 300 14 [.int .u64 a, .int .u64 b, .bool true, .bool false, .bool false] [cmp false, cmp false, cmp false, cmp false, cmp true]) (vUI a 0) [(decide (coV a b < 0), true), (coV a b == 0, false), (coV a b == 0, false), (true, true), (decide (U a ∧ U b), true), (decide (cl b > 3), false), lU b, (decide (cl a > 3), false), lU a] := ⟨by kernel_rfl, by kernel_rfl, by kernel_rfl, by kernel_rfl⟩
theorem pk_f0tp (a b : Int) : Fits (reckon (tabOf Try.prog extY conR3 true) 300 14 [.int .u64 a, .int .u64 b, .bool true, .bool false, .bool false] [cmp false, cmp false, cmp false, cmp false, cmp false]) (vUI b 0) [(decide (coV a b < 0), false), (coV a b == 0, false), (coV a b == 0, false), (true, true), (decide (U a ∧ U b), true), (decide (cl b > 3), false), lU b, (decide (cl a > 3), false), lU a] := ⟨by kernel_rfl, by kernel_rfl, by kernel_rfl, by kernel_rfl⟩
theorem pk_f0tm (a b : Int) : Fits (reckon (tabOf Try.prog extY conR3 true) 300 14 [.int .u64 a, .int .u64 b, .bool true, .bool false, .bool false] [cmp false, cmp false, cmp true, cmp true, cmp true, cmp false, cmp true]) (vUI a 0) [(true, true), (false, false), (decide (b < 9223372036854775808), true), (decide (a ≥ 9223372036854775808), true), (coV a b == 0, true), (true, true), (decide (U a ∧ U b), true), (decide (cl b > 3), false), lU b, (decide (cl a > 3), false), lU a] := ⟨by kernel_rfl, by kernel_rfl, by kernel_rfl, by kernel_rfl⟩
theorem pk_f0tb (a b : Int) : Fits (reckon (tabOf Try.prog extY conR3 true) 300 14 [.int .u64 a, .int .u64 b, .bool true, .bool false, .bool false] [cmp false, cmp false, cmp true, cmp true, cmp false, cmp true, cmp false, cmp false]) (vUI b 0) [(decide (coV a b < 0), false), (decide (a < 9223372036854775808), false), (coV a b == 0, true), (decide (b < 9223372036854775808), false), (decide (a ≥ 9223372036854775808), true), (coV a b == 0, true), (true, true), (decide (U a ∧ U b), true), (decide (cl b > 3), false), lU b, (decide (cl a > 3), false), lU a] := ⟨by kernel_rfl, by kernel_rfl, by kernel_rfl, by kernel_rfl⟩
theorem pk_f0tq (a b : Int) : Fits (reckon (tabOf Try.prog extY conR3 true) 300 14 [.int .u64 a, .int .u64 b, .bool true, .bool false, .bool false] [cmp false, cmp false, cmp true, cmp false, cmp true, cmp true, cmp true, cmp false]) (vUI b 0) [(false, false), (decide (b ≥ 9223372036854775808), true), (decide (a < 9223372036854775808), true), (coV a b == 0, true), (decide (a ≥ 9223372036854775808), false), (coV a b == 0, true), (true, true), (decide (U a ∧ U b), true), (decide (cl b > 3), false), lU b, (decide (cl a > 3), false), lU a] := ⟨by kernel_rfl, by kernel_rfl, by kernel_rfl, by kernel_rfl⟩
theorem pk_f0ta (a b : Int) : Fits (reckon (tabOf Try.prog extY conR3 true) 300 14 [.int .u64 a, .int .u64 b, .bool true, .bool false, .bool false] [cmp false, cmp false, cmp true, cmp false, cmp true, cmp true, cmp false, cmp false]) (vUI b 0) [(decide (coV a b < 0), false), (decide (b ≥ 9223372036854775808), false), (decide (a < 9223372036854775808), true), (coV a b == 0, true), (decide (a ≥ 9223372036854775808), false), (coV a b == 0, true), (true, true), (decide (U a ∧ U b), true), (decide (cl b > 3), false), lU b, (decide (cl a > 3), false), lU a] := ⟨by kernel_rfl, by kernel_rfl, by kernel_rfl, by kernel_rfl⟩
theorem pk_f0fn (a b : Int) : Fits (reckon (tabOf Try.prog extY conR3 true) 300 14 [.int .u64 a, .int .u64 b, .bool false, .bool false, .bool false] [cmp false, cmp false, cmp false, cmp false, cmp true]) (vUI b 0) [(decide (coV a b < 0), true), (coV a b == 0, false), (coV a b == 0, false), (true, true), (decide (U a ∧ U b), true), (decide (cl b > 3), false), lU b, (decide (cl a > 3), false), lU a] := ⟨by kernel_rfl, by kernel_rfl, by kernel_rfl, by kernel_rfl⟩
theorem pk_f0fp (a b : Int) : Fits (reckon (tabOf Try.prog extY conR3 true) 300 14 [.int .u64 a, .int .u64 b, .bool false, .bool false, .bool false] [cmp false, cmp false, cmp false, cmp false, cmp false]) (vUI a 0) [(decide (coV a b < 0), false), (coV a b == 0, false), (coV a b == 0, false), (true, true), (decide (U a ∧ U b), true), (decide (cl b > 3), false), lU b, (decide (cl a > 3), false), lU a] := ⟨by kernel_rfl, by kernel_rfl, by kernel_rfl, by kernel_rfl⟩
theorem pk_f0fm (a b : Int) : Fits (reckon (tabOf Try.prog extY conR3 true) 300 14 [.int .u64 a, .int .u64 b, .bool false, .bool false, .bool false] [cmp false, cmp false, cmp true, cmp true, cmp true, cmp false, cmp true]) (vUI b 0) [(true, true), (false, false), (decide (b < 9223372036854775808), true), (decide (a ≥ 9223372036854775808), true), (coV a b == 0, true), (true, true), (decide (U a ∧ U b), true), (decide (cl b > 3), false), lU b, (decide (cl a > 3), false), lU a] := ⟨by kernel_rfl, by kernel_rfl, by kernel_rfl, by kernel_rfl⟩
theorem pk_f0fb (a b : Int) : Fits (reckon (tabOf Try.prog extY conR3 true) 300 14 [.int .u64 a, .int .u64 b, .bool false, .bool false, .bool false] [cmp false, cmp false, cmp true, cmp true, cmp false, cmp true, cmp false, cmp false]) (vUI a 0) [(decide (coV a b < 0), false), (decide (a < 9223372036854775808), false), (coV a b == 0, true), (decide (b < 9223372036854775808), false), (decide (a ≥ 9223372036854775808), true), (coV a b == 0, true), (true, true), (decide (U a ∧ U b), true), (decide (cl b > 3), false), lU b, (decide (cl a > 3), false), lU a] := ⟨by kernel_rfl, by kernel_rfl, by kernel_rfl, by kernel_rfl⟩
theorem pk_f0fq (a b : Int) : Fits (reckon (tabOf Try.prog extY conR3 true) 300 14 [.int .u64 a, .int .u64 b, .bool false, .bool false, .bool false] [cmp false, cmp false, cmp true, cmp false, cmp true, cmp true, cmp true, cmp false]) (vUI a 0) [(false, false), (decide (b ≥ 9223372036854775808), true), (decide (a < 9223372036854775808), true), (coV a b == 0, true), (decide (a ≥ 9223372036854775808), false), (coV a b == 0, true), (true, true), (decide (U a ∧ U b), true), (decide (cl b > 3), false), lU b, (decide (cl a > 3), false), lU a] := ⟨by kernel_rfl, by kernel_rfl, by kernel_rfl, by kernel_rfl⟩
theorem pk_f0fa (a b : Int) : Fits (reckon (tabOf Try.prog extY conR3 true) 300 14 [.int .u64 a, .int .u64 b, .bool false, .bool false, .bool false] [cmp false, cmp false, cmp true, cmp false, cmp true, cmp true, cmp false, cmp false]) (vUI a 0) [(decide (coV a b < 0), false), (decide (b ≥ 9223372036854775808), false), (decide (a < 9223372036854775808), true), (coV a b == 0, true), (decide (a ≥ 9223372036854775808), false), (coV a b == 0, true), (true, true), (decide (U a ∧ U b), true), (decide (cl b > 3), false), lU b, (decide (cl a > 3), false), lU a] := ⟨by kernel_rfl, by kernel_rfl, by kernel_rfl, by kernel_rfl⟩
theorem pk_f1tn (a b : Int) : Fits (reckon (tabOf Try.prog extY conR3 true) 300 14 [.int .u64 a, .int .u64 b, .bool true, .bool true, .bool false] [cmp false, cmp false, cmp true, cmp false, cmp false, cmp true]) (vUI a 0) [(decide (coV (mag a) (mag b) < 0), true), (coV (mag a) (mag b) == 0, false), (coV (mag a) (mag b) == 0, false), (coV (mag a) (mag b) != 0, true), (true, true), (decide (U (mag a) ∧ U (mag b)), true), lU b, lU a, (true, true), (decide (U a ∧ U b), true), (decide (cl b > 3), false), lU b, (decide (cl a > 3), false), lU a] := ⟨by kernel_rfl, by kernel_rfl, by kernel_rfl, by kernel_rfl⟩
theorem pk_f1tp (a b : Int) : Fits (reckon (tabOf Try.prog extY conR3 true) 300 14 [.int .u64 a, .int .u64 b, .bool true, .bool true, .bool false] [cmp false, cmp false, cmp true, cmp false, cmp false, cmp false]) (vUI b 0) [(decide (coV (mag a) (mag b) < 0), false), (coV (mag a) (mag b) == 0, false), (coV (mag a) (mag b) == 0, false), (coV (mag a) (mag b) != 0, true), (true, true), (decide (U (mag a) ∧ U (mag b)), true), lU b, lU a, (true, true), (decide (U a ∧ U b), true), (decide (cl b > 3), false), lU b, (decide (cl a > 3), false), lU a] := ⟨by kernel_rfl, by kernel_rfl, by kernel_rfl, by kernel_rfl⟩
theorem pk_f1tm (a b : Int) : Fits (reckon (tabOf Try.prog extY conR3 true) 300 14 [.int .u64 a, .int .u64 b, .bool true, .bool true, .bool false] [cmp false, cmp false, cmp true, cmp true, cmp true, cmp true, cmp false, cmp true]) (vUI a 0) [(true, true), (false, false), (decide (b < 9223372036854775808), true), (decide (a ≥ 9223372036854775808), true), (coV (mag a) (mag b) == 0, true), (coV (mag a) (mag b) != 0, true), (true, true), (decide (U (mag a) ∧ U (mag b)), true), lU b, lU a, (true, true), (decide (U a ∧ U b), true), (decide (cl b > 3), false), lU b, (decide (cl a > 3), false), lU a] := ⟨by kernel_rfl, by kernel_rfl, by kernel_rfl, by kernel_rfl⟩
theorem pk_f1tb (a b : Int) : Fits (reckon (tabOf Try.prog extY conR3 true) 300 14 [.int .u64 a, .int .u64 b, .bool true, .bool true, .bool false] [cmp false, cmp false, cmp true, cmp true, cmp true, cmp false, cmp true, cmp false, cmp false]) (vUI b 0) [(decide (coV (mag a) (mag b) < 0), false), (decide (a < 9223372036854775808), false), (coV (mag a) (mag b) == 0, true), (decide (b < 9223372036854775808), false), (decide (a ≥ 9223372036854775808), true), (coV (mag a) (mag b) == 0, true), (coV (mag a) (mag b) != 0, true), (true, true), (decide (U (mag a) ∧ U (mag b)), true), lU b, lU a, (true, true), (decide (U a ∧ U b), true), (decide (cl b > 3), false), lU b, (decide (cl a > 3), false), lU a] := ⟨by kernel_rfl, by kernel_rfl, by kernel_rfl, by kernel_rfl⟩
theorem pk_f1tq (a b : Int) : Fits (reckon (tabOf Try.prog extY conR3 true) 300 14 [.int .u64 a, .int .u64 b, .bool true, .bool true, .bool false] [cmp false, cmp false, cmp true, cmp true, cmp false, cmp true, cmp true, cmp true, cmp false]) (vUI b 0) [(false, false), (decide (b ≥ 9223372036854775808), true), (decide (a < 9223372036854775808), true), (coV (mag a) (mag b) == 0, true), (decide (a ≥ 9223372036854775808), false), (coV (mag a) (mag b) == 0, true), (coV (mag a) (mag b) != 0, true), (true, true), (decide (U (mag a) ∧ U (mag b)), true), lU b, lU a, (true, true), (decide (U a ∧ U b), true), (decide (cl b > 3), false), lU b, (decide (cl a > 3), false), lU a] := ⟨by kernel_rfl, by kernel_rfl, by kernel_rfl, by kernel_rfl⟩
theorem pk_f1ta (a b : Int) : Fits (reckon (tabOf Try.prog extY conR3 true) 300 14 [.int .u64 a, .int .u64 b, .bool true, .bool true, .bool false] [cmp false, cmp false, cmp true, cmp true, cmp false, cmp true, cmp true, cmp false, cmp false]) (vUI b 0) [(decide (coV (mag a) (mag b) < 0), false), (decide (b ≥ 9223372036854775808), false), (decide (a < 9223372036854775808), true), (coV (mag a) (mag b) == 0, true), (decide (a ≥ 9223372036854775808), false), (coV (mag a) (mag b) == 0, true), (coV (mag a) (mag b) != 0, true), (true, true), (decide (U (mag a) ∧ U (mag b)), true), lU b, lU a, (true, true), (decide (U a ∧ U b), true), (decide (cl b > 3), false), lU b, (decide (cl a > 3), false), lU a] := ⟨by kernel_rfl, by kernel_rfl, by kernel_rfl, by kernel_rfl⟩
theorem pk_f1fn (a b : Int) : Fits (reckon (tabOf Try.prog extY conR3 true) 300 14 [.int .u64 a, .int .u64 b, .bool false, .bool true, .bool false] [cmp false, cmp false, cmp true, cmp false, cmp false, cmp true]) (vUI b 0) [(decide (coV (mag a) (mag b) < 0), true), (coV (mag a) (mag b) == 0, false), (coV (mag a) (mag b) == 0, false), (coV (mag a) (mag b) != 0, true), (true, true), (decide (U (mag a) ∧ U (mag b)), true), lU b, lU a, (true, true), (decide (U a ∧ U b), true), (decide (cl b > 3), false), lU b, (decide (cl a > 3), false), lU a] := ⟨by kernel_rfl, by kernel_rfl, by kernel_rfl, by kernel_rfl⟩
theorem pk_f1fp (a b : Int) : Fits (reckon (tabOf Try.prog extY conR3 true) 300 14 [.int .u64 a, .int .u64 b, .bool false, .bool true, .bool false] [cmp false, cmp false, cmp true, cmp false, cmp false, cmp false]) (vUI a 0) [(decide (coV (mag a) (mag b) < 0), false), (coV (mag a) (mag b) == 0, false), (coV (mag a) (mag b) == 0, false), (coV (mag a) (mag b) != 0, true), (true, true), (decide (U (mag a) ∧ U (mag b)), true), lU b, lU a, (true, true), (decide (U a ∧ U b), true), (decide (cl b > 3), false), lU b, (decide (cl a > 3), false), lU a] := ⟨by kernel_rfl, by kernel_rfl, by kernel_rfl, by kernel_rfl⟩
theorem pk_f1fm (a b : Int) : Fits (reckon (tabOf Try.prog extY conR3 true) 300 14 [.int .u64 a, .int .u64 b, .bool false, .bool true, .bool false] [cmp false, cmp false, cmp true, cmp true, cmp true, cmp true, cmp false, cmp true]) (vUI b 0) [(true, true), (false, false), (decide (b < 9223372036854775808), true), (decide (a ≥ 9223372036854775808), true), (coV (mag a) (mag b) == 0, true), (coV (mag a) (mag b) != 0, true), (true, true), (decide (U (mag a) ∧ U (mag b)), true), lU b, lU a, (true, true), (decide (U a ∧ U b), true), (decide (cl b > 3), false), lU b, (decide (cl a > 3), false), lU a] := ⟨by kernel_rfl, by kernel_rfl, by kernel_rfl, by kernel_rfl⟩
theorem pk_f1fb (a b : Int) : Fits (reckon (tabOf Try.prog extY conR3 true) 300 14 [.int .u64 a, .int .u64 b, .bool false, .bool true, .bool false] [cmp false, cmp false, cmp true, cmp true, cmp true, cmp false, cmp true, cmp false, cmp false]) (vUI a 0) [(decide (coV (mag a) (mag b) < 0), false), (decide (a < 9223372036854775808), false), (coV (mag a) (mag b) == 0, true), (decide (b < 9223372036854775808), false), (decide (a ≥ 9223372036854775808), true), (coV (mag a) (mag b) == 0, true), (coV (mag a) (mag b) != 0, true), (true, true), (decide (U (mag a) ∧ U (mag b)), true), lU b, lU a, (true, true), (decide (U a ∧ U b), true), (decide (cl b > 3), false), lU b, (decide (cl a > 3), false), lU a] := ⟨by kernel_rfl, by kernel_rfl, by kernel_rfl, by kernel_rfl⟩
theorem pk_f1fq (a b : Int) : Fits (reckon (tabOf Try.prog extY conR3 true) 300 14 [.int .u64 a, .int .u64 b, .bool false, .bool true, .bool false] [cmp false, cmp false, cmp true, cmp true, cmp false, cmp true, cmp true, cmp true, cmp false]) (vUI a 0) [(false, false), (decide (b ≥ 9223372036854775808), true), (decide (a < 9223372036854775808), true), (coV (mag a) (mag b) == 0, true), (decide (a ≥ 9223372036854775808), false), (coV (mag a) (mag b) == 0, true), (coV (mag a) (mag b) != 0, true), (true, true), (decide (U (mag a) ∧ U (mag b)), true), lU b, lU a, (true, true), (decide (U a ∧ U b), true), (decide (cl b > 3), false), lU b, (decide (cl a > 3), false), lU a] := ⟨by kernel_rfl, by kernel_rfl, by kernel_rfl, by kernel_rfl⟩
theorem pk_f1fa (a b : Int) : Fits (reckon (tabOf Try.prog extY conR3 true) 300 14 [.int .u64 a, .int .u64 b, .bool false, .bool true, .bool false] [cmp false, cmp false, cmp true, cmp true, cmp false, cmp true, cmp true, cmp false, cmp false]) (vUI a 0) [(decide (coV (mag a) (mag b) < 0), false), (decide (b ≥ 9223372036854775808), false), (decide (a < 9223372036854775808), true), (coV (mag a) (mag b) == 0, true), (decide (a ≥ 9223372036854775808), false), (coV (mag a) (mag b) == 0, true), (coV (mag a) (mag b) != 0, true), (true, true), (decide (U (mag a) ∧ U (mag b)), true), lU b, lU a, (true, true), (decide (U a ∧ U b), true), (decide (cl b > 3), false), lU b, (decide (cl a > 3), false), lU a] := ⟨by kernel_rfl, by kernel_rfl, by kernel_rfl, by kernel_rfl⟩
theorem pk_f2tn (a b : Int) : Fits (reckon (tabOf Try.prog extY conR3 true) 300 14 [.int .u64 a, .int .u64 b, .bool true, .bool true, .bool false] [cmp false, cmp false, cmp false, cmp false, cmp false, cmp true]) (vUI a 0) [(decide (coV a b < 0), true), (coV a b == 0, false), (coV a b == 0, false), (coV (mag a) (mag b) != 0, false), (true, true), (decide (U (mag a) ∧ U (mag b)), true), lU b, lU a, (true, true), (decide (U a ∧ U b), true), (decide (cl b > 3), false), lU b, (decide (cl a > 3), false), lU a] := ⟨by kernel_rfl, by kernel_rfl, by kernel_rfl, by kernel_rfl⟩
theorem pk_f2tp (a b : Int) : Fits (reckon (tabOf Try.prog extY conR3 true) 300 14 [.int .u64 a, .int .u64 b, .bool true, .bool true, .bool false] [cmp false, cmp false, cmp false, cmp false, cmp false, cmp false]) (vUI b 0) [(decide (coV a b < 0), false), (coV a b == 0, false), (coV a b == 0, false), (coV (mag a) (mag b) != 0, false), (true, true), (decide (U (mag a) ∧ U (mag b)), true), lU b, lU a, (true, true), (decide (U a ∧ U b), true), (decide (cl b > 3), false), lU b, (decide (cl a > 3), false), lU a] := ⟨by kernel_rfl, by kernel_rfl, by kernel_rfl, by kernel_rfl⟩
theorem pk_f2tm (a b : Int) : Fits (reckon (tabOf Try.prog extY conR3 true) 300 14 [.int .u64 a, .int .u64 b, .bool true, .bool true, .bool false] [cmp false, cmp false, cmp false, cmp true, cmp true, cmp true, cmp false, cmp true]) (vUI a 0) [(true, true), (false, false), (decide (b < 9223372036854775808), true), (decide (a ≥ 9223372036854775808), true), (coV a b == 0, true), (coV (mag a) (mag b) != 0, false), (true, true), (decide (U (mag a) ∧ U (mag b)), true), lU b, lU a, (true, true), (decide (U a ∧ U b), true), (decide (cl b > 3), false), lU b, (decide (cl a > 3), false), lU a] := ⟨by kernel_rfl, by kernel_rfl, by kernel_rfl, by kernel_rfl⟩
theorem pk_f2tb (a b : Int) : Fits (reckon (tabOf Try.prog extY conR3 true) 300 14 [.int .u64 a, .int .u64 b, .bool true, .bool true, .bool false] [cmp false, cmp false, cmp false, cmp true, cmp true, cmp false, cmp true, cmp false, cmp false]) (vUI b 0) [(decide (coV a b < 0), false), (decide (a < 9223372036854775808), false), (coV a b == 0, true), (decide (b < 9223372036854775808), false), (decide (a ≥ 9223372036854775808), true), (coV a b == 0, true), (coV (mag a) (mag b) != 0, false), (true, true), (decide (U (mag a) ∧ U (mag b)), true), lU b, lU a, (true, true), (decide (U a ∧ U b), true), (decide (cl b > 3), false), lU b, (decide (cl a > 3), false), lU a] := ⟨by kernel_rfl, by kernel_rfl, by kernel_rfl, by kernel_rfl⟩
theorem pk_f2tq (a b : Int) : Fits (reckon (tabOf Try.prog extY conR3 true) 300 14 [.int .u64 a, .int .u64 b, .bool true, .bool true, .bool false] [cmp false, cmp false, cmp false, cmp true, cmp false, cmp true, cmp true, cmp true, cmp false]) (vUI b 0) [(false, false), (decide (b ≥ 9223372036854775808), true), (decide (a < 9223372036854775808), true), (coV a b == 0, true), (decide (a ≥ 9223372036854775808), false), (coV a b == 0, true), (coV (mag a) (mag b) != 0, false), (true, true), (decide (U (mag a) ∧ U (mag b)), true), lU b, lU a, (true, true), (decide (U a ∧ U b), true), (decide (cl b > 3), false), lU b, (decide (cl a > 3), false), lU a] := ⟨by kernel_rfl, by kernel_rfl, by kernel_rfl, by kernel_rfl⟩
theorem pk_f2ta (a b : Int) : Fits (reckon (tabOf Try.prog extY conR3 true) 300 14 [.int .u64 a, .int .u64 b, .bool true, .bool true, .bool false] [cmp false, cmp false, cmp false, cmp true, cmp false, cmp true, cmp true, cmp false, cmp false]) (vUI b 0) [(decide (coV a b < 0), false), (decide (b ≥ 9223372036854775808), false), (decide (a < 9223372036854775808), true), (coV a b == 0, true), (decide (a ≥ 9223372036854775808), false), (coV a b == 0, true), (coV (mag a) (mag b) != 0, false), (true, true), (decide (U (mag a) ∧ U (mag b)), true), lU b, lU a, (true, true), (decide (U a ∧ U b), true), (decide (cl b > 3), false), lU b, (decide (cl a > 3), false), lU a] := ⟨by kernel_rfl, by kernel_rfl, by kernel_rfl, by kernel_rfl⟩
theorem pk_f2fn (a b : Int) : Fits (reckon (tabOf Try.prog extY conR3 true) 300 14 [.int .u64 a, .int .u64 b, .bool false, .bool true, .bool false] [cmp false, cmp false, cmp false, cmp false, cmp false, cmp true]) (vUI b 0) [(decide (coV a b < 0), true), (coV a b == 0, false), (coV a b == 0, false), (coV (mag a) (mag b) != 0, false), (true, true), (decide (U (mag a) ∧ U (mag b)), true), lU b, lU a, (true, true), (decide (U a ∧ U b), true), (decide (cl b > 3), false), lU b, (decide (cl a > 3), false), lU a] := ⟨by kernel_rfl, by kernel_rfl, by kernel_rfl, by kernel_rfl⟩
theorem pk_f2fp (a b : Int) : Fits (reckon (tabOf Try.prog extY conR3 true) 300 14 [.int .u64 a, .int .u64 b, .bool false, .bool true, .bool false] [cmp false, cmp false, cmp false, cmp false, cmp false, cmp false]) (vUI a 0) [(decide (coV a b < 0), false), (coV a b == 0, false), (coV a b == 0, false), (coV (mag a) (mag b) != 0, false), (true, true), (decide (U (mag a) ∧ U (mag b)), true), lU b, lU a, (true, true), (decide (U a ∧ U b), true), (decide (cl b > 3), false), lU b, (decide (cl a > 3), false), lU a] := ⟨by kernel_rfl, by kernel_rfl, by kernel_rfl, by kernel_rfl⟩
theorem pk_f2fm (a b : Int) : Fits (reckon (tabOf Try.prog extY conR3 true) 300 14 [.int .u64 a, .int .u64 b, .bool false, .bool true, .bool false] [cmp false, cmp false, cmp false, cmp true, cmp true, cmp true, cmp false, cmp true]) (vUI b 0) [(true, true), (false, false), (decide (b < 9223372036854775808), true), (decide (a ≥ 9223372036854775808), true), (coV a b == 0, true), (coV (mag a) (mag b) != 0, false), (true, true), (decide (U (mag a) ∧ U (mag b)), true), lU b, lU a, (true, true), (decide (U a ∧ U b), true), (decide (cl b > 3), false), lU b, (decide (cl a > 3), false), lU a] := ⟨by kernel_rfl, by kernel_rfl, by kernel_rfl, by kernel_rfl⟩
theorem pk_f2fb (a b : Int) : Fits (reckon (tabOf Try.prog extY conR3 true) 300 14 [.int .u64 a, .int .u64 b, .bool false, .bool true, .bool false] [cmp false, cmp false, cmp false, cmp true, cmp true, cmp false, cmp true, cmp false, cmp false]) (vUI a 0) [(decide (coV a b < 0), false), (decide (a < 9223372036854775808), false), (coV a b == 0, true), (decide (b < 9223372036854775808), false), (decide (a ≥ 9223372036854775808), true), (coV a b == 0, true), (coV (mag a) (mag b) != 0, false), (true, true), (decide (U (mag a) ∧ U (mag b)), true), lU b, lU a, (true, true), (decide (U a ∧ U b), true), (decide (cl b > 3), false), lU b, (decide (cl a > 3), false), lU a] := ⟨by kernel_rfl, by kernel_rfl, by kernel_rfl, by kernel_rfl⟩
theorem pk_f2fq (a b : Int) : Fits (reckon (tabOf Try.prog extY conR3 true) 300 14 [.int .u64 a, .int .u64 b, .bool false, .bool true, .bool false] [cmp false, cmp false, cmp false, cmp true, cmp false, cmp true, cmp true, cmp true, cmp false]) (vUI a 0) [(false, false), (decide (b ≥ 9223372036854775808), true), (decide (a < 9223372036854775808), true), (coV a b == 0, true), (decide (a ≥ 9223372036854775808), false), (coV a b == 0, true), (coV (mag a) (mag b) != 0, false), (true, true), (decide (U (mag a) ∧ U (mag b)), true), lU b, lU a, (true, true), (decide (U a ∧ U b), true), (decide (cl b > 3), false), lU b, (decide (cl a > 3), false), lU a] := ⟨by kernel_rfl, by kernel_rfl, by kernel_rfl, by kernel_rfl⟩
theorem pk_f2fa (a b : Int) : Fits (reckon (tabOf Try.prog extY conR3 true) 300 14 [.int .u64 a, .int .u64 b, .bool false, .bool true, .bool false] [cmp false, cmp false, cmp false, cmp true, cmp false, cmp true, cmp true, cmp false, cmp false]) (vUI a 0) [(decide (coV a b < 0), false), (decide (b ≥ 9223372036854775808), false), (decide (a < 9223372036854775808), true), (coV a b == 0, true), (decide (a ≥ 9223372036854775808), false), (coV a b == 0, true), (coV (mag a) (mag b) != 0, false), (true, true), (decide (U (mag a) ∧ U (mag b)), true), lU b, lU a, (true, true), (decide (U a ∧ U b), true), (decide (cl b > 3), false), lU b, (decide (cl a > 3), false), lU a] := ⟨by kernel_rfl, by kernel_rfl, by kernel_rfl, by kernel_rfl⟩
/-- what is picked of two numbers -/
theorem pk_res {a b : Int} {l z n neg : Bool} (hn : ¬ (3 < cl a ∨ 3 < cl b)) (h : decide (pdV a b z < 0) = neg) : pkP a b l z n = if neg = l then a else b := by
  cases n
  · rw [pk_no, if_neg hn, h]
  · rw [pk_yes _ _ hn, h]
theorem pd_n {a b c : Int} {z : Bool} (h : pcV a b z = c) (hc : c ≠ 0) : pdV a b z = c := by
  unfold pdV
  rw [h, if_neg (fun h => hc h.1), if_neg (fun h => hc h.1)]
theorem pd_z {a b : Int} {z : Bool} (h : pcV a b z = 0) : pdV a b z = if 9223372036854775808 ≤ a ∧ b < 9223372036854775808 then -1 else if a < 9223372036854775808 ∧ 9223372036854775808 ≤ b then 1 else 0 := by
  unfold pdV
  rw [h]
  simp only [true_and]
theorem pw_t0t (a b : Int) (ha : U a) (hb : U b) (hn : ¬ (3 < cl a ∨ 3 < cl b)) (w : World) : Calls Try.prog 14 #[.int .u64 a, .int .u64 b, .bool true, .bool false, .bool true] w fun r w' => r = .returned (vUI (pkP a b true false true) 0) ∧ Tidy w w' := by
  have hv : ([.int .u64 a, .int .u64 b, .bool true, .bool false, .bool true].all (lt 0)) = true := rfl
  have T := tabY_ok conR3_ok
  have ka : decide (U a) = true := decide_eq_true ha
  have kb : decide (U b) = true := decide_eq_true hb
  have kab : decide (U a ∧ U b) = true := decide_eq_true ⟨ha, hb⟩
  have ec : pcV a b false = coV a b := by unfold pcV; rw [if_neg (fun h => Bool.noConfusion h.1)]
  by_cases hc : coV a b = 0
  · have ep := pd_z (ec.trans hc)
    by_cases sa : 9223372036854775808 ≤ a
    · by_cases sb : b < 9223372036854775808
      · rw [(pk_res hn (decide_eq_true (by rw [ep]; rw [if_pos ⟨sa, sb⟩]; decide))).trans (if_pos rfl)]
        exact fits_calls T (pk_t0tm a b) (okCons rfl (okCons rfl (okCons (decide_eq_true (by omega)) (okCons (decide_eq_true (by omega)) (okCons (beq_t hc) (okCons rfl (okCons kab (okCons (decide_eq_false (by omega)) (okCons kb (okCons (decide_eq_false (by omega)) (okCons ka (okCons (decide_eq_false (by omega)) (okCons kb (okCons (decide_eq_false (by omega)) (okL1 ka))))))))))))))) hv (by rfl) w
      · rw [(pk_res hn (decide_eq_false (by rw [ep]; rw [if_neg (fun h => sb h.2), if_neg (by omega)]; decide))).trans (if_neg (by decide))]
        exact fits_calls T (pk_t0tb a b) (okCons (decide_eq_false (by omega)) (okCons (decide_eq_false (by omega)) (okCons (beq_t hc) (okCons (decide_eq_false (by omega)) (okCons (decide_eq_true (by omega)) (okCons (beq_t hc) (okCons rfl (okCons kab (okCons (decide_eq_false (by omega)) (okCons kb (okCons (decide_eq_false (by omega)) (okCons ka (okCons (decide_eq_false (by omega)) (okCons kb (okCons (decide_eq_false (by omega)) (okL1 ka)))))))))))))))) hv (by rfl) w
    · by_cases sb : 9223372036854775808 ≤ b
      · rw [(pk_res hn (decide_eq_false (by rw [ep]; rw [if_neg (fun h => sa h.1), if_pos (by omega)]; decide))).trans (if_neg (by decide))]
        exact fits_calls T (pk_t0tq a b) (okCons rfl (okCons (decide_eq_true (by omega)) (okCons (decide_eq_true (by omega)) (okCons (beq_t hc) (okCons (decide_eq_false (by omega)) (okCons (beq_t hc) (okCons rfl (okCons kab (okCons (decide_eq_false (by omega)) (okCons kb (okCons (decide_eq_false (by omega)) (okCons ka (okCons (decide_eq_false (by omega)) (okCons kb (okCons (decide_eq_false (by omega)) (okL1 ka)))))))))))))))) hv (by rfl) w
      · rw [(pk_res hn (decide_eq_false (by rw [ep]; rw [if_neg (fun h => sa h.1), if_neg (fun h => sb h.2)]; decide))).trans (if_neg (by decide))]
        exact fits_calls T (pk_t0ta a b) (okCons (decide_eq_false (by omega)) (okCons (decide_eq_false (by omega)) (okCons (decide_eq_true (by omega)) (okCons (beq_t hc) (okCons (decide_eq_false (by omega)) (okCons (beq_t hc) (okCons rfl (okCons kab (okCons (decide_eq_false (by omega)) (okCons kb (okCons (decide_eq_false (by omega)) (okCons ka (okCons (decide_eq_false (by omega)) (okCons kb (okCons (decide_eq_false (by omega)) (okL1 ka)))))))))))))))) hv (by rfl) w
  · have ep := pd_n ec hc
    by_cases h : coV a b < 0
    · rw [(pk_res hn (decide_eq_true (by rw [ep]; exact h))).trans (if_pos rfl)]
      exact fits_calls T (pk_t0tn a b) (okCons (decide_eq_true (by omega)) (okCons (beq_f hc) (okCons (beq_f hc) (okCons rfl (okCons kab (okCons (decide_eq_false (by omega)) (okCons kb (okCons (decide_eq_false (by omega)) (okCons ka (okCons (decide_eq_false (by omega)) (okCons kb (okCons (decide_eq_false (by omega)) (okL1 ka))))))))))))) hv (by rfl) w
    · rw [(pk_res hn (decide_eq_false (by rw [ep]; exact h))).trans (if_neg (by decide))]
      exact fits_calls T (pk_t0tp a b) (okCons (decide_eq_false (by omega)) (okCons (beq_f hc) (okCons (beq_f hc) (okCons rfl (okCons kab (okCons (decide_eq_false (by omega)) (okCons kb (okCons (decide_eq_false (by omega)) (okCons ka (okCons (decide_eq_false (by omega)) (okCons kb (okCons (decide_eq_false (by omega)) (okL1 ka))))))))))))) hv (by rfl) w
theorem pw_t0f (a b : Int) (ha : U a) (hb : U b) (hn : ¬ (3 < cl a ∨ 3 < cl b)) (w : World) : Calls Try.prog 14 #[.int .u64 a, .int .u64 b, .bool false, .bool false, .bool true] w fun r w' => r = .returned (vUI (pkP a b false false true) 0) ∧ Tidy w w' := by
  have hv : ([.int .u64 a, .int .u64 b, .bool false, .bool false, .bool true].all (lt 0)) = true := rfl
  have T := tabY_ok conR3_ok
  have ka : decide (U a) = true := decide_eq_true ha
  have kb : decide (U b) = true := decide_eq_true hb
  have kab : decide (U a ∧ U b) = true := decide_eq_true ⟨ha, hb⟩
  have ec : pcV a b false = coV a b := by unfold pcV; rw [if_neg (fun h => Bool.noConfusion h.1)]
  by_cases hc : coV a b = 0
  · have ep := pd_z (ec.trans hc)
    by_cases sa : 9223372036854775808 ≤ a
    · by_cases sb : b < 9223372036854775808
      · rw [(pk_res hn (decide_eq_true (by rw [ep]; rw [if_pos ⟨sa, sb⟩]; decide))).trans (if_neg (by decide))]
        exact fits_calls T (pk_t0fm a b) (okCons rfl (okCons rfl (okCons (decide_eq_true (by omega)) (okCons (decide_eq_true (by omega)) (okCons (beq_t hc) (okCons rfl (okCons kab (okCons (decide_eq_false (by omega)) (okCons kb (okCons (decide_eq_false (by omega)) (okCons ka (okCons (decide_eq_false (by omega)) (okCons kb (okCons (decide_eq_false (by omega)) (okL1 ka))))))))))))))) hv (by rfl) w
      · rw [(pk_res hn (decide_eq_false (by rw [ep]; rw [if_neg (fun h => sb h.2), if_neg (by omega)]; decide))).trans (if_pos rfl)]
        exact fits_calls T (pk_t0fb a b) (okCons (decide_eq_false (by omega)) (okCons (decide_eq_false (by omega)) (okCons (beq_t hc) (okCons (decide_eq_false (by omega)) (okCons (decide_eq_true (by omega)) (okCons (beq_t hc) (okCons rfl (okCons kab (okCons (decide_eq_false (by omega)) (okCons kb (okCons (decide_eq_false (by omega)) (okCons ka (okCons (decide_eq_false (by omega)) (okCons kb (okCons (decide_eq_false (by omega)) (okL1 ka)))))))))))))))) hv (by rfl) w
    · by_cases sb : 9223372036854775808 ≤ b
      · rw [(pk_res hn (decide_eq_false (by rw [ep]; rw [if_neg (fun h => sa h.1), if_pos (by omega)]; decide))).trans (if_pos rfl)]
        exact fits_calls T (pk_t0fq a b) (okCons rfl (okCons (decide_eq_true (by omega)) (okCons (decide_eq_true (by omega)) (okCons (beq_t hc) (okCons (decide_eq_false (by omega)) (okCons (beq_t hc) (okCons rfl (okCons kab (okCons (decide_eq_false (by omega)) (okCons kb (okCons (decide_eq_false (by omega)) (okCons ka (okCons (decide_eq_false (by omega)) (okCons kb (okCons (decide_eq_false (by omega)) (okL1 ka)))))))))))))))) hv (by rfl) w
      · rw [(pk_res hn (decide_eq_false (by rw [ep]; rw [if_neg (fun h => sa h.1), if_neg (fun h => sb h.2)]; decide))).trans (if_pos rfl)]
        exact fits_calls T (pk_t0fa a b) (okCons (decide_eq_false (by omega)) (okCons (decide_eq_false (by omega)) (okCons (decide_eq_true (by omega)) (okCons (beq_t hc) (okCons (decide_eq_false (by omega)) (okCons (beq_t hc) (okCons rfl (okCons kab (okCons (decide_eq_false (by omega)) (okCons kb (okCons (decide_eq_false (by omega)) (okCons ka (okCons (decide_eq_false (by omega)) (okCons kb (okCons (decide_eq_false (by omega)) (okL1 ka)))))))))))))))) hv (by rfl) w
  · have ep := pd_n ec hc
    by_cases h : coV a b < 0
    · rw [(pk_res hn (decide_eq_true (by rw [ep]; exact h))).trans (if_neg (by decide))]
      exact fits_calls T (pk_t0fn a b) (okCons (decide_eq_true (by omega)) (okCons (beq_f hc) (okCons (beq_f hc) (okCons rfl (okCons kab (okCons (decide_eq_false (by omega)) (okCons kb (okCons (decide_eq_false (by omega)) (okCons ka (okCons (decide_eq_false (by omega)) (okCons kb (okCons (decide_eq_false (by omega)) (okL1 ka))))))))))))) hv (by rfl) w
    · rw [(pk_res hn (decide_eq_false (by rw [ep]; exact h))).trans (if_pos rfl)]
      exact fits_calls T (pk_t0fp a b) (okCons (decide_eq_false (by omega)) (okCons (beq_f hc) (okCons (beq_f hc) (okCons rfl (okCons kab (okCons (decide_eq_false (by omega)) (okCons kb (okCons (decide_eq_false (by omega)) (okCons ka (okCons (decide_eq_false (by omega)) (okCons kb (okCons (decide_eq_false (by omega)) (okL1 ka))))))))))))) hv (by rfl) w
theorem pw_t1t (a b : Int) (ha : U a) (hb : U b) (hn : ¬ (3 < cl a ∨ 3 < cl b)) (hd : coV (mag a) (mag b) ≠ 0) (w : World) : Calls Try.prog 14 #[.int .u64 a, .int .u64 b, .bool true, .bool true, .bool true] w fun r w' => r = .returned (vUI (pkP a b true true true) 0) ∧ Tidy w w' := by
  have hv : ([.int .u64 a, .int .u64 b, .bool true, .bool true, .bool true].all (lt 0)) = true := rfl
  have T := tabY_ok conR3_ok
  have ka : decide (U a) = true := decide_eq_true ha
  have kb : decide (U b) = true := decide_eq_true hb
  have kab : decide (U a ∧ U b) = true := decide_eq_true ⟨ha, hb⟩
  have km : decide (U (mag a) ∧ U (mag b)) = true := decide_eq_true ⟨U_mag a, U_mag b⟩
  have ec : pcV a b true = coV (mag a) (mag b) := by unfold pcV; rw [if_pos ⟨rfl, hd⟩]
  by_cases hc : coV (mag a) (mag b) = 0
  · have ep := pd_z (ec.trans hc)
    by_cases sa : 9223372036854775808 ≤ a
    · by_cases sb : b < 9223372036854775808
      · rw [(pk_res hn (decide_eq_true (by rw [ep]; rw [if_pos ⟨sa, sb⟩]; decide))).trans (if_pos rfl)]
        exact fits_calls T (pk_t1tm a b) (okCons rfl (okCons rfl (okCons (decide_eq_true (by omega)) (okCons (decide_eq_true (by omega)) (okCons (beq_t hc) (okCons (bne_t hd) (okCons rfl (okCons km (okCons kb (okCons ka (okCons rfl (okCons kab (okCons (decide_eq_false (by omega)) (okCons kb (okCons (decide_eq_false (by omega)) (okCons ka (okCons (decide_eq_false (by omega)) (okCons kb (okCons (decide_eq_false (by omega)) (okL1 ka)))))))))))))))))))) hv (by rfl) w
      · rw [(pk_res hn (decide_eq_false (by rw [ep]; rw [if_neg (fun h => sb h.2), if_neg (by omega)]; decide))).trans (if_neg (by decide))]
        exact fits_calls T (pk_t1tb a b) (okCons (decide_eq_false (by omega)) (okCons (decide_eq_false (by omega)) (okCons (beq_t hc) (okCons (decide_eq_false (by omega)) (okCons (decide_eq_true (by omega)) (okCons (beq_t hc) (okCons (bne_t hd) (okCons rfl (okCons km (okCons kb (okCons ka (okCons rfl (okCons kab (okCons (decide_eq_false (by omega)) (okCons kb (okCons (decide_eq_false (by omega)) (okCons ka (okCons (decide_eq_false (by omega)) (okCons kb (okCons (decide_eq_false (by omega)) (okL1 ka))))))))))))))))))))) hv (by rfl) w
    · by_cases sb : 9223372036854775808 ≤ b
      · rw [(pk_res hn (decide_eq_false (by rw [ep]; rw [if_neg (fun h => sa h.1), if_pos (by omega)]; decide))).trans (if_neg (by decide))]
        exact fits_calls T (pk_t1tq a b) (okCons rfl (okCons (decide_eq_true (by omega)) (okCons (decide_eq_true (by omega)) (okCons (beq_t hc) (okCons (decide_eq_false (by omega)) (okCons (beq_t hc) (okCons (bne_t hd) (okCons rfl (okCons km (okCons kb (okCons ka (okCons rfl (okCons kab (okCons (decide_eq_false (by omega)) (okCons kb (okCons (decide_eq_false (by omega)) (okCons ka (okCons (decide_eq_false (by omega)) (okCons kb (okCons (decide_eq_false (by omega)) (okL1 ka))))))))))))))))))))) hv (by rfl) w
      · rw [(pk_res hn (decide_eq_false (by rw [ep]; rw [if_neg (fun h => sa h.1), if_neg (fun h => sb h.2)]; decide))).trans (if_neg (by decide))]
        exact fits_calls T (pk_t1ta a b) (okCons (decide_eq_false (by omega)) (okCons (decide_eq_false (by omega)) (okCons (decide_eq_true (by omega)) (okCons (beq_t hc) (okCons (decide_eq_false (by omega)) (okCons (beq_t hc) (okCons (bne_t hd) (okCons rfl (okCons km (okCons kb (okCons ka (okCons rfl (okCons kab (okCons (decide_eq_false (by omega)) (okCons kb (okCons (decide_eq_false (by omega)) (okCons ka (okCons (decide_eq_false (by omega)) (okCons kb (okCons (decide_eq_false (by omega)) (okL1 ka))))))))))))))))))))) hv (by rfl) w
  · have ep := pd_n ec hc
    by_cases h : coV (mag a) (mag b) < 0
    · rw [(pk_res hn (decide_eq_true (by rw [ep]; exact h))).trans (if_pos rfl)]
      exact fits_calls T (pk_t1tn a b) (okCons (decide_eq_true (by omega)) (okCons (beq_f hc) (okCons (beq_f hc) (okCons (bne_t hd) (okCons rfl (okCons km (okCons kb (okCons ka (okCons rfl (okCons kab (okCons (decide_eq_false (by omega)) (okCons kb (okCons (decide_eq_false (by omega)) (okCons ka (okCons (decide_eq_false (by omega)) (okCons kb (okCons (decide_eq_false (by omega)) (okL1 ka)))))))))))))))))) hv (by rfl) w
    · rw [(pk_res hn (decide_eq_false (by rw [ep]; exact h))).trans (if_neg (by decide))]
      exact fits_calls T (pk_t1tp a b) (okCons (decide_eq_false (by omega)) (okCons (beq_f hc) (okCons (beq_f hc) (okCons (bne_t hd) (okCons rfl (okCons km (okCons kb (okCons ka (okCons rfl (okCons kab (okCons (decide_eq_false (by omega)) (okCons kb (okCons (decide_eq_false (by omega)) (okCons ka (okCons (decide_eq_false (by omega)) (okCons kb (okCons (decide_eq_false (by omega)) (okL1 ka)))))))))))))))))) hv (by rfl) w
theorem pw_t1f (a b : Int) (ha : U a) (hb : U b) (hn : ¬ (3 < cl a ∨ 3 < cl b)) (hd : coV (mag a) (mag b) ≠ 0) (w : World) : Calls Try.prog 14 #[.int .u64 a, .int .u64 b, .bool false, .bool true, .bool true] w fun r w' => r = .returned (vUI (pkP a b false true true) 0) ∧ Tidy w w' := by
  have hv : ([.int .u64 a, .int .u64 b, .bool false, .bool true, .bool true].all (lt 0)) = true := rfl
  have T := tabY_ok conR3_ok
  have ka : decide (U a) = true := decide_eq_true ha
  have kb : decide (U b) = true := decide_eq_true hb
  have kab : decide (U a ∧ U b) = true := decide_eq_true ⟨ha, hb⟩
  have km : decide (U (mag a) ∧ U (mag b)) = true := decide_eq_true ⟨U_mag a, U_mag b⟩
  have ec : pcV a b true = coV (mag a) (mag b) := by unfold pcV; rw [if_pos ⟨rfl, hd⟩]
  by_cases hc : coV (mag a) (mag b) = 0
  · have ep := pd_z (ec.trans hc)
    by_cases sa : 9223372036854775808 ≤ a
    · by_cases sb : b < 9223372036854775808
      · rw [(pk_res hn (decide_eq_true (by rw [ep]; rw [if_pos ⟨sa, sb⟩]; decide))).trans (if_neg (by decide))]
        exact fits_calls T (pk_t1fm a b) (okCons rfl (okCons rfl (okCons (decide_eq_true (by omega)) (okCons (decide_eq_true (by omega)) (okCons (beq_t hc) (okCons (bne_t hd) (okCons rfl (okCons km (okCons kb (okCons ka (okCons rfl (okCons kab (okCons (decide_eq_false (by omega)) (okCons kb (okCons (decide_eq_false (by omega)) (okCons ka (okCons (decide_eq_false (by omega)) (okCons kb (okCons (decide_eq_false (by omega)) (okL1 ka)))))))))))))))))))) hv (by rfl) w
      · rw [(pk_res hn (decide_eq_false (by rw [ep]; rw [if_neg (fun h => sb h.2), if_neg (by omega)]; decide))).trans (if_pos rfl)]
        exact fits_calls T (pk_t1fb a b) (okCons (decide_eq_false (by omega)) (okCons (decide_eq_false (by omega)) (okCons (beq_t hc) (okCons (decide_eq_false (by omega)) (okCons (decide_eq_true (by omega)) (okCons (beq_t hc) (okCons (bne_t hd) (okCons rfl (okCons km (okCons kb (okCons ka (okCons rfl (okCons kab (okCons (decide_eq_false (by omega)) (okCons kb (okCons (decide_eq_false (by omega)) (okCons ka (okCons (decide_eq_false (by omega)) (okCons kb (okCons (decide_eq_false (by omega)) (okL1 ka))))))))))))))))))))) hv (by rfl) w
    · by_cases sb : 9223372036854775808 ≤ b
      · rw [(pk_res hn (decide_eq_false (by rw [ep]; rw [if_neg (fun h => sa h.1), if_pos (by omega)]; decide))).trans (if_pos rfl)]
        exact fits_calls T (pk_t1fq a b) (okCons rfl (okCons (decide_eq_true (by omega)) (okCons (decide_eq_true (by omega)) (okCons (beq_t hc) (okCons (decide_eq_false (by omega)) (okCons (beq_t hc) (okCons (bne_t hd) (okCons rfl (okCons km (okCons kb (okCons ka (okCons rfl (okCons kab (okCons (decide_eq_false (by omega)) (okCons kb (okCons (decide_eq_false (by omega)) (okCons ka (okCons (decide_eq_false (by omega)) (okCons kb (okCons (decide_eq_false (by omega)) (okL1 ka))))))))))))))))))))) hv (by rfl) w
      · rw [(pk_res hn (decide_eq_false (by rw [ep]; rw [if_neg (fun h => sa h.1), if_neg (fun h => sb h.2)]; decide))).trans (if_pos rfl)]
        exact fits_calls T (pk_t1fa a b) (okCons (decide_eq_false (by omega)) (okCons (decide_eq_false (by omega)) (okCons (decide_eq_true (by omega)) (okCons (beq_t hc) (okCons (decide_eq_false (by omega)) (okCons (beq_t hc) (okCons (bne_t hd) (okCons rfl (okCons km (okCons kb (okCons ka (okCons rfl (okCons kab (okCons (decide_eq_false (by omega)) (okCons kb (okCons (decide_eq_false (by omega)) (okCons ka (okCons (decide_eq_false (by omega)) (okCons kb (okCons (decide_eq_false (by omega)) (okL1 ka))))))))))))))))))))) hv (by rfl) w
  · have ep := pd_n ec hc
    by_cases h : coV (mag a) (mag b) < 0
    · rw [(pk_res hn (decide_eq_true (by rw [ep]; exact h))).trans (if_neg (by decide))]
      exact fits_calls T (pk_t1fn a b) (okCons (decide_eq_true (by omega)) (okCons (beq_f hc) (okCons (beq_f hc) (okCons (bne_t hd) (okCons rfl (okCons km (okCons kb (okCons ka (okCons rfl (okCons kab (okCons (decide_eq_false (by omega)) (okCons kb (okCons (decide_eq_false (by omega)) (okCons ka (okCons (decide_eq_false (by omega)) (okCons kb (okCons (decide_eq_false (by omega)) (okL1 ka)))))))))))))))))) hv (by rfl) w
    · rw [(pk_res hn (decide_eq_false (by rw [ep]; exact h))).trans (if_pos rfl)]
      exact fits_calls T (pk_t1fp a b) (okCons (decide_eq_false (by omega)) (okCons (beq_f hc) (okCons (beq_f hc) (okCons (bne_t hd) (okCons rfl (okCons km (okCons kb (okCons ka (okCons rfl (okCons kab (okCons (decide_eq_false (by omega)) (okCons kb (okCons (decide_eq_false (by omega)) (okCons ka (okCons (decide_eq_false (by omega)) (okCons kb (okCons (decide_eq_false (by omega)) (okL1 ka)))))))))))))))))) hv (by rfl) w
theorem pw_t2t (a b : Int) (ha : U a) (hb : U b) (hn : ¬ (3 < cl a ∨ 3 < cl b)) (hd : coV (mag a) (mag b) = 0) (w : World) : Calls Try.prog 14 #[.int .u64 a, .int .u64 b, .bool true, .bool true, .bool true] w fun r w' => r = .returned (vUI (pkP a b true true true) 0) ∧ Tidy w w' := by
  have hv : ([.int .u64 a, .int .u64 b, .bool true, .bool true, .bool true].all (lt 0)) = true := rfl
  have T := tabY_ok conR3_ok
  have ka : decide (U a) = true := decide_eq_true ha
  have kb : decide (U b) = true := decide_eq_true hb
  have kab : decide (U a ∧ U b) = true := decide_eq_true ⟨ha, hb⟩
  have km : decide (U (mag a) ∧ U (mag b)) = true := decide_eq_true ⟨U_mag a, U_mag b⟩
  have ec : pcV a b true = coV a b := by unfold pcV; rw [if_neg (fun h => h.2 hd)]
  by_cases hc : coV a b = 0
  · have ep := pd_z (ec.trans hc)
    by_cases sa : 9223372036854775808 ≤ a
    · by_cases sb : b < 9223372036854775808
      · rw [(pk_res hn (decide_eq_true (by rw [ep]; rw [if_pos ⟨sa, sb⟩]; decide))).trans (if_pos rfl)]
        exact fits_calls T (pk_t2tm a b) (okCons rfl (okCons rfl (okCons (decide_eq_true (by omega)) (okCons (decide_eq_true (by omega)) (okCons (beq_t hc) (okCons (bne_f hd) (okCons rfl (okCons km (okCons kb (okCons ka (okCons rfl (okCons kab (okCons (decide_eq_false (by omega)) (okCons kb (okCons (decide_eq_false (by omega)) (okCons ka (okCons (decide_eq_false (by omega)) (okCons kb (okCons (decide_eq_false (by omega)) (okL1 ka)))))))))))))))))))) hv (by rfl) w
      · rw [(pk_res hn (decide_eq_false (by rw [ep]; rw [if_neg (fun h => sb h.2), if_neg (by omega)]; decide))).trans (if_neg (by decide))]
        exact fits_calls T (pk_t2tb a b) (okCons (decide_eq_false (by omega)) (okCons (decide_eq_false (by omega)) (okCons (beq_t hc) (okCons (decide_eq_false (by omega)) (okCons (decide_eq_true (by omega)) (okCons (beq_t hc) (okCons (bne_f hd) (okCons rfl (okCons km (okCons kb (okCons ka (okCons rfl (okCons kab (okCons (decide_eq_false (by omega)) (okCons kb (okCons (decide_eq_false (by omega)) (okCons ka (okCons (decide_eq_false (by omega)) (okCons kb (okCons (decide_eq_false (by omega)) (okL1 ka))))))))))))))))))))) hv (by rfl) w
    · by_cases sb : 9223372036854775808 ≤ b
      · rw [(pk_res hn (decide_eq_false (by rw [ep]; rw [if_neg (fun h => sa h.1), if_pos (by omega)]; decide))).trans (if_neg (by decide))]
        exact fits_calls T (pk_t2tq a b) (okCons rfl (okCons (decide_eq_true (by omega)) (okCons (decide_eq_true (by omega)) (okCons (beq_t hc) (okCons (decide_eq_false (by omega)) (okCons (beq_t hc) (okCons (bne_f hd) (okCons rfl (okCons km (okCons kb (okCons ka (okCons rfl (okCons kab (okCons (decide_eq_false (by omega)) (okCons kb (okCons (decide_eq_false (by omega)) (okCons ka (okCons (decide_eq_false (by omega)) (okCons kb (okCons (decide_eq_false (by omega)) (okL1 ka))))))))))))))))))))) hv (by rfl) w
      · rw [(pk_res hn (decide_eq_false (by rw [ep]; rw [if_neg (fun h => sa h.1), if_neg (fun h => sb h.2)]; decide))).trans (if_neg (by decide))]
        exact fits_calls T (pk_t2ta a b) (okCons (decide_eq_false (by omega)) (okCons (decide_eq_false (by omega)) (okCons (decide_eq_true (by omega)) (okCons (beq_t hc) (okCons (decide_eq_false (by omega)) (okCons (beq_t hc) (okCons (bne_f hd) (okCons rfl (okCons km (okCons kb (okCons ka (okCons rfl (okCons kab (okCons (decide_eq_false (by omega)) (okCons kb (okCons (decide_eq_false (by omega)) (okCons ka (okCons (decide_eq_false (by omega)) (okCons kb (okCons (decide_eq_false (by omega)) (okL1 ka))))))))))))))))))))) hv (by rfl) w
  · have ep := pd_n ec hc
    by_cases h : coV a b < 0
    · rw [(pk_res hn (decide_eq_true (by rw [ep]; exact h))).trans (if_pos rfl)]
      exact fits_calls T (pk_t2tn a b) (okCons (decide_eq_true (by omega)) (okCons (beq_f hc) (okCons (beq_f hc) (okCons (bne_f hd) (okCons rfl (okCons km (okCons kb (okCons ka (okCons rfl (okCons kab (okCons (decide_eq_false (by omega)) (okCons kb (okCons (decide_eq_false (by omega)) (okCons ka (okCons (decide_eq_false (by omega)) (okCons kb (okCons (decide_eq_false (by omega)) (okL1 ka)))))))))))))))))) hv (by rfl) w
    · rw [(pk_res hn (decide_eq_false (by rw [ep]; exact h))).trans (if_neg (by decide))]
      exact fits_calls T (pk_t2tp a b) (okCons (decide_eq_false (by omega)) (okCons (beq_f hc) (okCons (beq_f hc) (okCons (bne_f hd) (okCons rfl (okCons km (okCons kb (okCons ka (okCons rfl (okCons kab (okCons (decide_eq_false (by omega)) (okCons kb (okCons (decide_eq_false (by omega)) (okCons ka (okCons (decide_eq_false (by omega)) (okCons kb (okCons (decide_eq_false (by omega)) (okL1 ka)))))))))))))))))) hv (by rfl) w
theorem pw_t2f (a b : Int) (ha : U a) (hb : U b) (hn : ¬ (3 < cl a ∨ 3 < cl b)) (hd : coV (mag a) (mag b) = 0) (w : World) : Calls Try.prog 14 #[.int .u64 a, .int .u64 b, .bool false, .bool true, .bool true] w fun r w' => r = .returned (vUI (pkP a b false true true) 0) ∧ Tidy w w' := by
  have hv : ([.int .u64 a, .int .u64 b, .bool false, .bool true, .bool true].all (lt 0)) = true := rfl
  have T := tabY_ok conR3_ok
  have ka : decide (U a) = true := decide_eq_true ha
  have kb : decide (U b) = true := decide_eq_true hb
  have kab : decide (U a ∧ U b) = true := decide_eq_true ⟨ha, hb⟩
  have km : decide (U (mag a) ∧ U (mag b)) = true := decide_eq_true ⟨U_mag a, U_mag b⟩
  have ec : pcV a b true = coV a b := by unfold pcV; rw [if_neg (fun h => h.2 hd)]
  by_cases hc : coV a b = 0
  · have ep := pd_z (ec.trans hc)
    by_cases sa : 9223372036854775808 ≤ a
    · by_cases sb : b < 9223372036854775808
      · rw [(pk_res hn (decide_eq_true (by rw [ep]; rw [if_pos ⟨sa, sb⟩]; decide))).trans (if_neg (by decide))]
        exact fits_calls T (pk_t2fm a b) (okCons rfl (okCons rfl (okCons (decide_eq_true (by omega)) (okCons (decide_eq_true (by omega)) (okCons (beq_t hc) (okCons (bne_f hd) (okCons rfl (okCons km (okCons kb (okCons ka (okCons rfl (okCons kab (okCons (decide_eq_false (by omega)) (okCons kb (okCons (decide_eq_false (by omega)) (okCons ka (okCons (decide_eq_false (by omega)) (okCons kb (okCons (decide_eq_false (by omega)) (okL1 ka)))))))))))))))))))) hv (by rfl) w
      · rw [(pk_res hn (decide_eq_false (by rw [ep]; rw [if_neg (fun h => sb h.2), if_neg (by omega)]; decide))).trans (if_pos rfl)]
        exact fits_calls T (pk_t2fb a b) (okCons (decide_eq_false (by omega)) (okCons (decide_eq_false (by omega)) (okCons (beq_t hc) (okCons (decide_eq_false (by omega)) (okCons (decide_eq_true (by omega)) (okCons (beq_t hc) (okCons (bne_f hd) (okCons rfl (okCons km (okCons kb (okCons ka (okCons rfl (okCons kab (okCons (decide_eq_false (by omega)) (okCons kb (okCons (decide_eq_false (by omega)) (okCons ka (okCons (decide_eq_false (by omega)) (okCons kb (okCons (decide_eq_false (by omega)) (okL1 ka))))))))))))))))))))) hv (by rfl) w
    · by_cases sb : 9223372036854775808 ≤ b
      · rw [(pk_res hn (decide_eq_false (by rw [ep]; rw [if_neg (fun h => sa h.1), if_pos (by omega)]; decide))).trans (if_pos rfl)]
        exact fits_calls T (pk_t2fq a b) (okCons rfl (okCons (decide_eq_true (by omega)) (okCons (decide_eq_true (by omega)) (okCons (beq_t hc) (okCons (decide_eq_false (by omega)) (okCons (beq_t hc) (okCons (bne_f hd) (okCons rfl (okCons km (okCons kb (okCons ka (okCons rfl (okCons kab (okCons (decide_eq_false (by omega)) (okCons kb (okCons (decide_eq_false (by omega)) (okCons ka (okCons (decide_eq_false (by omega)) (okCons kb (okCons (decide_eq_false (by omega)) (okL1 ka))))))))))))))))))))) hv (by rfl) w
      · rw [(pk_res hn (decide_eq_false (by rw [ep]; rw [if_neg (fun h => sa h.1), if_neg (fun h => sb h.2)]; decide))).trans (if_pos rfl)]
        exact fits_calls T (pk_t2fa a b) (okCons (decide_eq_false (by omega)) (okCons (decide_eq_false (by omega)) (okCons (decide_eq_true (by omega)) (okCons (beq_t hc) (okCons (decide_eq_false (by omega)) (okCons (beq_t hc) (okCons (bne_f hd) (okCons rfl (okCons km (okCons kb (okCons ka (okCons rfl (okCons kab (okCons (decide_eq_false (by omega)) (okCons kb (okCons (decide_eq_false (by omega)) (okCons ka (okCons (decide_eq_false (by omega)) (okCons kb (okCons (decide_eq_false (by omega)) (okL1 ka))))))))))))))))))))) hv (by rfl) w
  · have ep := pd_n ec hc
    by_cases h : coV a b < 0
    · rw [(pk_res hn (decide_eq_true (by rw [ep]; exact h))).trans (if_neg (by decide))]
      exact fits_calls T (pk_t2fn a b) (okCons (decide_eq_true (by omega)) (okCons (beq_f hc) (okCons (beq_f hc) (okCons (bne_f hd) (okCons rfl (okCons km (okCons kb (okCons ka (okCons rfl (okCons kab (okCons (decide_eq_false (by omega)) (okCons kb (okCons (decide_eq_false (by omega)) (okCons ka (okCons (decide_eq_false (by omega)) (okCons kb (okCons (decide_eq_false (by omega)) (okL1 ka)))))))))))))))))) hv (by rfl) w
    · rw [(pk_res hn (decide_eq_false (by rw [ep]; exact h))).trans (if_pos rfl)]
      exact fits_calls T (pk_t2fp a b) (okCons (decide_eq_false (by omega)) (okCons (beq_f hc) (okCons (beq_f hc) (okCons (bne_f hd) (okCons rfl (okCons km (okCons kb (okCons ka (okCons rfl (okCons kab (okCons (decide_eq_false (by omega)) (okCons kb (okCons (decide_eq_false (by omega)) (okCons ka (okCons (decide_eq_false (by omega)) (okCons kb (okCons (decide_eq_false (by omega)) (okL1 ka)))))))))))))))))) hv (by rfl) w
theorem pw_f0t (a b : Int) (ha : U a) (hb : U b) (hn : ¬ (3 < cl a ∨ 3 < cl b)) (w : World) : Calls Try.prog 14 #[.int .u64 a, .int .u64 b, .bool true, .bool false, .bool false] w fun r w' => r = .returned (vUI (pkP a b true false false) 0) ∧ Tidy w w' := by
  have hv : ([.int .u64 a, .int .u64 b, .bool true, .bool false, .bool false].all (lt 0)) = true := rfl
  have T := tabY_ok conR3_ok
  have ka : decide (U a) = true := decide_eq_true ha
  have kb : decide (U b) = true := decide_eq_true hb
  have kab : decide (U a ∧ U b) = true := decide_eq_true ⟨ha, hb⟩
  have ec : pcV a b false = coV a b := by unfold pcV; rw [if_neg (fun h => Bool.noConfusion h.1)]
  by_cases hc : coV a b = 0
  · have ep := pd_z (ec.trans hc)
    by_cases sa : 9223372036854775808 ≤ a
    · by_cases sb : b < 9223372036854775808
      · rw [(pk_res hn (decide_eq_true (by rw [ep]; rw [if_pos ⟨sa, sb⟩]; decide))).trans (if_pos rfl)]
        exact fits_calls T (pk_f0tm a b) (okCons rfl (okCons rfl (okCons (decide_eq_true (by omega)) (okCons (decide_eq_true (by omega)) (okCons (beq_t hc) (okCons rfl (okCons kab (okCons (decide_eq_false (by omega)) (okCons kb (okCons (decide_eq_false (by omega)) (okL1 ka))))))))))) hv (by rfl) w
      · rw [(pk_res hn (decide_eq_false (by rw [ep]; rw [if_neg (fun h => sb h.2), if_neg (by omega)]; decide))).trans (if_neg (by decide))]
        exact fits_calls T (pk_f0tb a b) (okCons (decide_eq_false (by omega)) (okCons (decide_eq_false (by omega)) (okCons (beq_t hc) (okCons (decide_eq_false (by omega)) (okCons (decide_eq_true (by omega)) (okCons (beq_t hc) (okCons rfl (okCons kab (okCons (decide_eq_false (by omega)) (okCons kb (okCons (decide_eq_false (by omega)) (okL1 ka)))))))))))) hv (by rfl) w
    · by_cases sb : 9223372036854775808 ≤ b
      · rw [(pk_res hn (decide_eq_false (by rw [ep]; rw [if_neg (fun h => sa h.1), if_pos (by omega)]; decide))).trans (if_neg (by decide))]
        exact fits_calls T (pk_f0tq a b) (okCons rfl (okCons (decide_eq_true (by omega)) (okCons (decide_eq_true (by omega)) (okCons (beq_t hc) (okCons (decide_eq_false (by omega)) (okCons (beq_t hc) (okCons rfl (okCons kab (okCons (decide_eq_false (by omega)) (okCons kb (okCons (decide_eq_false (by omega)) (okL1 ka)))))))))))) hv (by rfl) w
      · rw [(pk_res hn (decide_eq_false (by rw [ep]; rw [if_neg (fun h => sa h.1), if_neg (fun h => sb h.2)]; decide))).trans (if_neg (by decide))]
        exact fits_calls T (pk_f0ta a b) (okCons (decide_eq_false (by omega)) (okCons (decide_eq_false (by omega)) (okCons (decide_eq_true (by omega)) (okCons (beq_t hc) (okCons (decide_eq_false (by omega)) (okCons (beq_t hc) (okCons rfl (okCons kab (okCons (decide_eq_false (by omega)) (okCons kb (okCons (decide_eq_false (by omega)) (okL1 ka)))))))))))) hv (by rfl) w
  · have ep := pd_n ec hc
    by_cases h : coV a b < 0
    · rw [(pk_res hn (decide_eq_true (by rw [ep]; exact h))).trans (if_pos rfl)]
      exact fits_calls T (pk_f0tn a b) (okCons (decide_eq_true (by omega)) (okCons (beq_f hc) (okCons (beq_f hc) (okCons rfl (okCons kab (okCons (decide_eq_false (by omega)) (okCons kb (okCons (decide_eq_false (by omega)) (okL1 ka))))))))) hv (by rfl) w
    · rw [(pk_res hn (decide_eq_false (by rw [ep]; exact h))).trans (if_neg (by decide))]
      exact fits_calls T (pk_f0tp a b) (okCons (decide_eq_false (by omega)) (okCons (beq_f hc) (okCons (beq_f hc) (okCons rfl (okCons kab (okCons (decide_eq_false (by omega)) (okCons kb (okCons (decide_eq_false (by omega)) (okL1 ka))))))))) hv (by rfl) w
theorem pw_f0f (a b : Int) (ha : U a) (hb : U b) (hn : ¬ (3 < cl a ∨ 3 < cl b)) (w : World) : Calls Try.prog 14 #[.int .u64 a, .int .u64 b, .bool false, .bool false, .bool false] w fun r w' => r = .returned (vUI (pkP a b false false false) 0) ∧ Tidy w w' := by
  have hv : ([.int .u64 a, .int .u64 b, .bool false, .bool false, .bool false].all (lt 0)) = true := rfl
  have T := tabY_ok conR3_ok
  have ka : decide (U a) = true := decide_eq_true ha
  have kb : decide (U b) = true := decide_eq_true hb
  have kab : decide (U a ∧ U b) = true := decide_eq_true ⟨ha, hb⟩
  have ec : pcV a b false = coV a b := by unfold pcV; rw [if_neg (fun h => Bool.noConfusion h.1)]
  by_cases hc : coV a b = 0
  · have ep := pd_z (ec.trans hc)
    by_cases sa : 9223372036854775808 ≤ a
    · by_cases sb : b < 9223372036854775808
      · rw [(pk_res hn (decide_eq_true (by rw [ep]; rw [if_pos ⟨sa, sb⟩]; decide))).trans (if_neg (by decide))]
        exact fits_calls T (pk_f0fm a b) (okCons rfl (okCons rfl (okCons (decide_eq_true (by omega)) (okCons (decide_eq_true (by omega)) (okCons (beq_t hc) (okCons rfl (okCons kab (okCons (decide_eq_false (by omega)) (okCons kb (okCons (decide_eq_false (by omega)) (okL1 ka))))))))))) hv (by rfl) w
      · rw [(pk_res hn (decide_eq_false (by rw [ep]; rw [if_neg (fun h => sb h.2), if_neg (by omega)]; decide))).trans (if_pos rfl)]
        exact fits_calls T (pk_f0fb a b) (okCons (decide_eq_false (by omega)) (okCons (decide_eq_false (by omega)) (okCons (beq_t hc) (okCons (decide_eq_false (by omega)) (okCons (decide_eq_true (by omega)) (okCons (beq_t hc) (okCons rfl (okCons kab (okCons (decide_eq_false (by omega)) (okCons kb (okCons (decide_eq_false (by omega)) (okL1 ka)))))))))))) hv (by rfl) w
    · by_cases sb : 9223372036854775808 ≤ b
      · rw [(pk_res hn (decide_eq_false (by rw [ep]; rw [if_neg (fun h => sa h.1), if_pos (by omega)]; decide))).trans (if_pos rfl)]
        exact fits_calls T (pk_f0fq a b) (okCons rfl (okCons (decide_eq_true (by omega)) (okCons (decide_eq_true (by omega)) (okCons (beq_t hc) (okCons (decide_eq_false (by omega)) (okCons (beq_t hc) (okCons rfl (okCons kab (okCons (decide_eq_false (by omega)) (okCons kb (okCons (decide_eq_false (by omega)) (okL1 ka)))))))))))) hv (by rfl) w
      · rw [(pk_res hn (decide_eq_false (by rw [ep]; rw [if_neg (fun h => sa h.1), if_neg (fun h => sb h.2)]; decide))).trans (if_pos rfl)]
        exact fits_calls T (pk_f0fa a b) (okCons (decide_eq_false (by omega)) (okCons (decide_eq_false (by omega)) (okCons (decide_eq_true (by omega)) (okCons (beq_t hc) (okCons (decide_eq_false (by omega)) (okCons (beq_t hc) (okCons rfl (okCons kab (okCons (decide_eq_false (by omega)) (okCons kb (okCons (decide_eq_false (by omega)) (okL1 ka)))))))))))) hv (by rfl) w
  · have ep := pd_n ec hc
    by_cases h : coV a b < 0
    · rw [(pk_res hn (decide_eq_true (by rw [ep]; exact h))).trans (if_neg (by decide))]
      exact fits_calls T (pk_f0fn a b) (okCons (decide_eq_true (by omega)) (okCons (beq_f hc) (okCons (beq_f hc) (okCons rfl (okCons kab (okCons (decide_eq_false (by omega)) (okCons kb (okCons (decide_eq_false (by omega)) (okL1 ka))))))))) hv (by rfl) w
    · rw [(pk_res hn (decide_eq_false (by rw [ep]; exact h))).trans (if_pos rfl)]
      exact fits_calls T (pk_f0fp a b) (okCons (decide_eq_false (by omega)) (okCons (beq_f hc) (okCons (beq_f hc) (okCons rfl (okCons kab (okCons (decide_eq_false (by omega)) (okCons kb (okCons (decide_eq_false (by omega)) (okL1 ka))))))))) hv (by rfl) w
theorem pw_f1t (a b : Int) (ha : U a) (hb : U b) (hn : ¬ (3 < cl a ∨ 3 < cl b)) (hd : coV (mag a) (mag b) ≠ 0) (w : World) : Calls Try.prog 14 #[.int .u64 a, .int .u64 b, .bool true, .bool true, .bool false] w fun r w' => r = .returned (vUI (pkP a b true true false) 0) ∧ Tidy w w' := by
  have hv : ([.int .u64 a, .int .u64 b, .bool true, .bool true, .bool false].all (lt 0)) = true := rfl
  have T := tabY_ok conR3_ok
  have ka : decide (U a) = true := decide_eq_true ha
  have kb : decide (U b) = true := decide_eq_true hb
  have kab : decide (U a ∧ U b) = true := decide_eq_true ⟨ha, hb⟩
  have km : decide (U (mag a) ∧ U (mag b)) = true := decide_eq_true ⟨U_mag a, U_mag b⟩
  have ec : pcV a b true = coV (mag a) (mag b) := by unfold pcV; rw [if_pos ⟨rfl, hd⟩]
  by_cases hc : coV (mag a) (mag b) = 0
  · have ep := pd_z (ec.trans hc)
    by_cases sa : 9223372036854775808 ≤ a
    · by_cases sb : b < 9223372036854775808
      · rw [(pk_res hn (decide_eq_true (by rw [ep]; rw [if_pos ⟨sa, sb⟩]; decide))).trans (if_pos rfl)]
        exact fits_calls T (pk_f1tm a b) (okCons rfl (okCons rfl (okCons (decide_eq_true (by omega)) (okCons (decide_eq_true (by omega)) (okCons (beq_t hc) (okCons (bne_t hd) (okCons rfl (okCons km (okCons kb (okCons ka (okCons rfl (okCons kab (okCons (decide_eq_false (by omega)) (okCons kb (okCons (decide_eq_false (by omega)) (okL1 ka)))))))))))))))) hv (by rfl) w
      · rw [(pk_res hn (decide_eq_false (by rw [ep]; rw [if_neg (fun h => sb h.2), if_neg (by omega)]; decide))).trans (if_neg (by decide))]
        exact fits_calls T (pk_f1tb a b) (okCons (decide_eq_false (by omega)) (okCons (decide_eq_false (by omega)) (okCons (beq_t hc) (okCons (decide_eq_false (by omega)) (okCons (decide_eq_true (by omega)) (okCons (beq_t hc) (okCons (bne_t hd) (okCons rfl (okCons km (okCons kb (okCons ka (okCons rfl (okCons kab (okCons (decide_eq_false (by omega)) (okCons kb (okCons (decide_eq_false (by omega)) (okL1 ka))))))))))))))))) hv (by rfl) w
    · by_cases sb : 9223372036854775808 ≤ b
      · rw [(pk_res hn (decide_eq_false (by rw [ep]; rw [if_neg (fun h => sa h.1), if_pos (by omega)]; decide))).trans (if_neg (by decide))]
        exact fits_calls T (pk_f1tq a b) (okCons rfl (okCons (decide_eq_true (by omega)) (okCons (decide_eq_true (by omega)) (okCons (beq_t hc) (okCons (decide_eq_false (by omega)) (okCons (beq_t hc) (okCons (bne_t hd) (okCons rfl (okCons km (okCons kb (okCons ka (okCons rfl (okCons kab (okCons (decide_eq_false (by omega)) (okCons kb (okCons (decide_eq_false (by omega)) (okL1 ka))))))))))))))))) hv (by rfl) w
      · rw [(pk_res hn (decide_eq_false (by rw [ep]; rw [if_neg (fun h => sa h.1), if_neg (fun h => sb h.2)]; decide))).trans (if_neg (by decide))]
        exact fits_calls T (pk_f1ta a b) (okCons (decide_eq_false (by omega)) (okCons (decide_eq_false (by omega)) (okCons (decide_eq_true (by omega)) (okCons (beq_t hc) (okCons (decide_eq_false (by omega)) (okCons (beq_t hc) (okCons (bne_t hd) (okCons rfl (okCons km (okCons kb (okCons ka (okCons rfl (okCons kab (okCons (decide_eq_false (by omega)) (okCons kb (okCons (decide_eq_false (by omega)) (okL1 ka))))))))))))))))) hv (by rfl) w
  · have ep := pd_n ec hc
    by_cases h : coV (mag a) (mag b) < 0
    · rw [(pk_res hn (decide_eq_true (by rw [ep]; exact h))).trans (if_pos rfl)]
      exact fits_calls T (pk_f1tn a b) (okCons (decide_eq_true (by omega)) (okCons (beq_f hc) (okCons (beq_f hc) (okCons (bne_t hd) (okCons rfl (okCons km (okCons kb (okCons ka (okCons rfl (okCons kab (okCons (decide_eq_false (by omega)) (okCons kb (okCons (decide_eq_false (by omega)) (okL1 ka)))))))))))))) hv (by rfl) w
    · rw [(pk_res hn (decide_eq_false (by rw [ep]; exact h))).trans (if_neg (by decide))]
      exact fits_calls T (pk_f1tp a b) (okCons (decide_eq_false (by omega)) (okCons (beq_f hc) (okCons (beq_f hc) (okCons (bne_t hd) (okCons rfl (okCons km (okCons kb (okCons ka (okCons rfl (okCons kab (okCons (decide_eq_false (by omega)) (okCons kb (okCons (decide_eq_false (by omega)) (okL1 ka)))))))))))))) hv (by rfl) w
theorem pw_f1f (a b : Int) (ha : U a) (hb : U b) (hn : ¬ (3 < cl a ∨ 3 < cl b)) (hd : coV (mag a) (mag b) ≠ 0) (w : World) : Calls Try.prog 14 #[.int .u64 a, .int .u64 b, .bool false, .bool true, .bool false] w fun r w' => r = .returned (vUI (pkP a b false true false) 0) ∧ Tidy w w' := by
  have hv : ([.int .u64 a, .int .u64 b, .bool false, .bool true, .bool false].all (lt 0)) = true := rfl
  have T := tabY_ok conR3_ok
  have ka : decide (U a) = true := decide_eq_true ha
  have kb : decide (U b) = true := decide_eq_true hb
  have kab : decide (U a ∧ U b) = true := decide_eq_true ⟨ha, hb⟩
  have km : decide (U (mag a) ∧ U (mag b)) = true := decide_eq_true ⟨U_mag a, U_mag b⟩
  have ec : pcV a b true = coV (mag a) (mag b) := by unfold pcV; rw [if_pos ⟨rfl, hd⟩]
  by_cases hc : coV (mag a) (mag b) = 0
  · have ep := pd_z (ec.trans hc)
    by_cases sa : 9223372036854775808 ≤ a
    · by_cases sb : b < 9223372036854775808
      · rw [(pk_res hn (decide_eq_true (by rw [ep]; rw [if_pos ⟨sa, sb⟩]; decide))).trans (if_neg (by decide))]
        exact fits_calls T (pk_f1fm a b) (okCons rfl (okCons rfl (okCons (decide_eq_true (by omega)) (okCons (decide_eq_true (by omega)) (okCons (beq_t hc) (okCons (bne_t hd) (okCons rfl (okCons km (okCons kb (okCons ka (okCons rfl (okCons kab (okCons (decide_eq_false (by omega)) (okCons kb (okCons (decide_eq_false (by omega)) (okL1 ka)))))))))))))))) hv (by rfl) w
      · rw [(pk_res hn (decide_eq_false (by rw [ep]; rw [if_neg (fun h => sb h.2), if_neg (by omega)]; decide))).trans (if_pos rfl)]
        exact fits_calls T (pk_f1fb a b) (okCons (decide_eq_false (by omega)) (okCons (decide_eq_false (by omega)) (okCons (beq_t hc) (okCons (decide_eq_false (by omega)) (okCons (decide_eq_true (by omega)) (okCons (beq_t hc) (okCons (bne_t hd) (okCons rfl (okCons km (okCons kb (okCons ka (okCons rfl (okCons kab (okCons (decide_eq_false (by omega)) (okCons kb (okCons (decide_eq_false (by omega)) (okL1 ka))))))))))))))))) hv (by rfl) w
    · by_cases sb : 9223372036854775808 ≤ b
      · rw [(pk_res hn (decide_eq_false (by rw [ep]; rw [if_neg (fun h => sa h.1), if_pos (by omega)]; decide))).trans (if_pos rfl)]
        exact fits_calls T (pk_f1fq a b) (okCons rfl (okCons (decide_eq_true (by omega)) (okCons (decide_eq_true (by omega)) (okCons (beq_t hc) (okCons (decide_eq_false (by omega)) (okCons (beq_t hc) (okCons (bne_t hd) (okCons rfl (okCons km (okCons kb (okCons ka (okCons rfl (okCons kab (okCons (decide_eq_false (by omega)) (okCons kb (okCons (decide_eq_false (by omega)) (okL1 ka))))))))))))))))) hv (by rfl) w
      · rw [(pk_res hn (decide_eq_false (by rw [ep]; rw [if_neg (fun h => sa h.1), if_neg (fun h => sb h.2)]; decide))).trans (if_pos rfl)]
        exact fits_calls T (pk_f1fa a b) (okCons (decide_eq_false (by omega)) (okCons (decide_eq_false (by omega)) (okCons (decide_eq_true (by omega)) (okCons (beq_t hc) (okCons (decide_eq_false (by omega)) (okCons (beq_t hc) (okCons (bne_t hd) (okCons rfl (okCons km (okCons kb (okCons ka (okCons rfl (okCons kab (okCons (decide_eq_false (by omega)) (okCons kb (okCons (decide_eq_false (by omega)) (okL1 ka))))))))))))))))) hv (by rfl) w
  · have ep := pd_n ec hc
    by_cases h : coV (mag a) (mag b) < 0
    · rw [(pk_res hn (decide_eq_true (by rw [ep]; exact h))).trans (if_neg (by decide))]
      exact fits_calls T (pk_f1fn a b) (okCons (decide_eq_true (by omega)) (okCons (beq_f hc) (okCons (beq_f hc) (okCons (bne_t hd) (okCons rfl (okCons km (okCons kb (okCons ka (okCons rfl (okCons kab (okCons (decide_eq_false (by omega)) (okCons kb (okCons (decide_eq_false (by omega)) (okL1 ka)))))))))))))) hv (by rfl) w
    · rw [(pk_res hn (decide_eq_false (by rw [ep]; exact h))).trans (if_pos rfl)]
      exact fits_calls T (pk_f1fp a b) (okCons (decide_eq_false (by omega)) (okCons (beq_f hc) (okCons (beq_f hc) (okCons (bne_t hd) (okCons rfl (okCons km (okCons kb (okCons ka (okCons rfl (okCons kab (okCons (decide_eq_false (by omega)) (okCons kb (okCons (decide_eq_false (by omega)) (okL1 ka)))))))))))))) hv (by rfl) w
theorem pw_f2t (a b : Int) (ha : U a) (hb : U b) (hn : ¬ (3 < cl a ∨ 3 < cl b)) (hd : coV (mag a) (mag b) = 0) (w : World) : Calls Try.prog 14 #[.int .u64 a, .int .u64 b, .bool true, .bool true, .bool false] w fun r w' => r = .returned (vUI (pkP a b true true false) 0) ∧ Tidy w w' := by
  have hv : ([.int .u64 a, .int .u64 b, .bool true, .bool true, .bool false].all (lt 0)) = true := rfl
  have T := tabY_ok conR3_ok
  have ka : decide (U a) = true := decide_eq_true ha
  have kb : decide (U b) = true := decide_eq_true hb
  have kab : decide (U a ∧ U b) = true := decide_eq_true ⟨ha, hb⟩
  have km : decide (U (mag a) ∧ U (mag b)) = true := decide_eq_true ⟨U_mag a, U_mag b⟩
  have ec : pcV a b true = coV a b := by unfold pcV; rw [if_neg (fun h => h.2 hd)]
  by_cases hc : coV a b = 0
  · have ep := pd_z (ec.trans hc)
    by_cases sa : 9223372036854775808 ≤ a
    · by_cases sb : b < 9223372036854775808
      · rw [(pk_res hn (decide_eq_true (by rw [ep]; rw [if_pos ⟨sa, sb⟩]; decide))).trans (if_pos rfl)]
        exact fits_calls T (pk_f2tm a b) (okCons rfl (okCons rfl (okCons (decide_eq_true (by omega)) (okCons (decide_eq_true (by omega)) (okCons (beq_t hc) (okCons (bne_f hd) (okCons rfl (okCons km (okCons kb (okCons ka (okCons rfl (okCons kab (okCons (decide_eq_false (by omega)) (okCons kb (okCons (decide_eq_false (by omega)) (okL1 ka)))))))))))))))) hv (by rfl) w
      · rw [(pk_res hn (decide_eq_false (by rw [ep]; rw [if_neg (fun h => sb h.2), if_neg (by omega)]; decide))).trans (if_neg (by decide))]
        exact fits_calls T (pk_f2tb a b) (okCons (decide_eq_false (by omega)) (okCons (decide_eq_false (by omega)) (okCons (beq_t hc) (okCons (decide_eq_false (by omega)) (okCons (decide_eq_true (by omega)) (okCons (beq_t hc) (okCons (bne_f hd) (okCons rfl (okCons km (okCons kb (okCons ka (okCons rfl (okCons kab (okCons (decide_eq_false (by omega)) (okCons kb (okCons (decide_eq_false (by omega)) (okL1 ka))))))))))))))))) hv (by rfl) w
    · by_cases sb : 9223372036854775808 ≤ b
      · rw [(pk_res hn (decide_eq_false (by rw [ep]; rw [if_neg (fun h => sa h.1), if_pos (by omega)]; decide))).trans (if_neg (by decide))]
        exact fits_calls T (pk_f2tq a b) (okCons rfl (okCons (decide_eq_true (by omega)) (okCons (decide_eq_true (by omega)) (okCons (beq_t hc) (okCons (decide_eq_false (by omega)) (okCons (beq_t hc) (okCons (bne_f hd) (okCons rfl (okCons km (okCons kb (okCons ka (okCons rfl (okCons kab (okCons (decide_eq_false (by omega)) (okCons kb (okCons (decide_eq_false (by omega)) (okL1 ka))))))))))))))))) hv (by rfl) w
      · rw [(pk_res hn (decide_eq_false (by rw [ep]; rw [if_neg (fun h => sa h.1), if_neg (fun h => sb h.2)]; decide))).trans (if_neg (by decide))]
        exact fits_calls T (pk_f2ta a b) (okCons (decide_eq_false (by omega)) (okCons (decide_eq_false (by omega)) (okCons (decide_eq_true (by omega)) (okCons (beq_t hc) (okCons (decide_eq_false (by omega)) (okCons (beq_t hc) (okCons (bne_f hd) (okCons rfl (okCons km (okCons kb (okCons ka (okCons rfl (okCons kab (okCons (decide_eq_false (by omega)) (okCons kb (okCons (decide_eq_false (by omega)) (okL1 ka))))))))))))))))) hv (by rfl) w
  · have ep := pd_n ec hc
    by_cases h : coV a b < 0
    · rw [(pk_res hn (decide_eq_true (by rw [ep]; exact h))).trans (if_pos rfl)]
      exact fits_calls T (pk_f2tn a b) (okCons (decide_eq_true (by omega)) (okCons (beq_f hc) (okCons (beq_f hc) (okCons (bne_f hd) (okCons rfl (okCons km (okCons kb (okCons ka (okCons rfl (okCons kab (okCons (decide_eq_false (by omega)) (okCons kb (okCons (decide_eq_false (by omega)) (okL1 ka)))))))))))))) hv (by rfl) w
    · rw [(pk_res hn (decide_eq_false (by rw [ep]; exact h))).trans (if_neg (by decide))]
      exact fits_calls T (pk_f2tp a b) (okCons (decide_eq_false (by omega)) (okCons (beq_f hc) (okCons (beq_f hc) (okCons (bne_f hd) (okCons rfl (okCons km (okCons kb (okCons ka (okCons rfl (okCons kab (okCons (decide_eq_false (by omega)) (okCons kb (okCons (decide_eq_false (by omega)) (okL1 ka)))))))))))))) hv (by rfl) w
theorem pw_f2f (a b : Int) (ha : U a) (hb : U b) (hn : ¬ (3 < cl a ∨ 3 < cl b)) (hd : coV (mag a) (mag b) = 0) (w : World) : Calls Try.prog 14 #[.int .u64 a, .int .u64 b, .bool false, .bool true, .bool false] w fun r w' => r = .returned (vUI (pkP a b false true false) 0) ∧ Tidy w w' := by
  have hv : ([.int .u64 a, .int .u64 b, .bool false, .bool true, .bool false].all (lt 0)) = true := rfl
  have T := tabY_ok conR3_ok
  have ka : decide (U a) = true := decide_eq_true ha
  have kb : decide (U b) = true := decide_eq_true hb
  have kab : decide (U a ∧ U b) = true := decide_eq_true ⟨ha, hb⟩
  have km : decide (U (mag a) ∧ U (mag b)) = true := decide_eq_true ⟨U_mag a, U_mag b⟩
  have ec : pcV a b true = coV a b := by unfold pcV; rw [if_neg (fun h => h.2 hd)]
  by_cases hc : coV a b = 0
  · have ep := pd_z (ec.trans hc)
    by_cases sa : 9223372036854775808 ≤ a
    · by_cases sb : b < 9223372036854775808
      · rw [(pk_res hn (decide_eq_true (by rw [ep]; rw [if_pos ⟨sa, sb⟩]; decide))).trans (if_neg (by decide))]
        exact fits_calls T (pk_f2fm a b) (okCons rfl (okCons rfl (okCons (decide_eq_true (by omega)) (okCons (decide_eq_true (by omega)) (okCons (beq_t hc) (okCons (bne_f hd) (okCons rfl (okCons km (okCons kb (okCons ka (okCons rfl (okCons kab (okCons (decide_eq_false (by omega)) (okCons kb (okCons (decide_eq_false (by omega)) (okL1 ka)))))))))))))))) hv (by rfl) w
      · rw [(pk_res hn (decide_eq_false (by rw [ep]; rw [if_neg (fun h => sb h.2), if_neg (by omega)]; decide))).trans (if_pos rfl)]
        exact fits_calls T (pk_f2fb a b) (okCons (decide_eq_false (by omega)) (okCons (decide_eq_false (by omega)) (okCons (beq_t hc) (okCons (decide_eq_false (by omega)) (okCons (decide_eq_true (by omega)) (okCons (beq_t hc) (okCons (bne_f hd) (okCons rfl (okCons km (okCons kb (okCons ka (okCons rfl (okCons kab (okCons (decide_eq_false (by omega)) (okCons kb (okCons (decide_eq_false (by omega)) (okL1 ka))))))))))))))))) hv (by rfl) w
    · by_cases sb : 9223372036854775808 ≤ b
      · rw [(pk_res hn (decide_eq_false (by rw [ep]; rw [if_neg (fun h => sa h.1), if_pos (by omega)]; decide))).trans (if_pos rfl)]
        exact fits_calls T (pk_f2fq a b) (okCons rfl (okCons (decide_eq_true (by omega)) (okCons (decide_eq_true (by omega)) (okCons (beq_t hc) (okCons (decide_eq_false (by omega)) (okCons (beq_t hc) (okCons (bne_f hd) (okCons rfl (okCons km (okCons kb (okCons ka (okCons rfl (okCons kab (okCons (decide_eq_false (by omega)) (okCons kb (okCons (decide_eq_false (by omega)) (okL1 ka))))))))))))))))) hv (by rfl) w
      · rw [(pk_res hn (decide_eq_false (by rw [ep]; rw [if_neg (fun h => sa h.1), if_neg (fun h => sb h.2)]; decide))).trans (if_pos rfl)]
        exact fits_calls T (pk_f2fa a b) (okCons (decide_eq_false (by omega)) (okCons (decide_eq_false (by omega)) (okCons (decide_eq_true (by omega)) (okCons (beq_t hc) (okCons (decide_eq_false (by omega)) (okCons (beq_t hc) (okCons (bne_f hd) (okCons rfl (okCons km (okCons kb (okCons ka (okCons rfl (okCons kab (okCons (decide_eq_false (by omega)) (okCons kb (okCons (decide_eq_false (by omega)) (okL1 ka))))))))))))))))) hv (by rfl) w
  · have ep := pd_n ec hc
    by_cases h : coV a b < 0
    · rw [(pk_res hn (decide_eq_true (by rw [ep]; exact h))).trans (if_neg (by decide))]
      exact fits_calls T (pk_f2fn a b) (okCons (decide_eq_true (by omega)) (okCons (beq_f hc) (okCons (beq_f hc) (okCons (bne_f hd) (okCons rfl (okCons km (okCons kb (okCons ka (okCons rfl (okCons kab (okCons (decide_eq_false (by omega)) (okCons kb (okCons (decide_eq_false (by omega)) (okL1 ka)))))))))))))) hv (by rfl) w
    · rw [(pk_res hn (decide_eq_false (by rw [ep]; exact h))).trans (if_pos rfl)]
      exact fits_calls T (pk_f2fp a b) (okCons (decide_eq_false (by omega)) (okCons (beq_f hc) (okCons (beq_f hc) (okCons (bne_f hd) (okCons rfl (okCons km (okCons kb (okCons ka (okCons rfl (okCons kab (okCons (decide_eq_false (by omega)) (okCons kb (okCons (decide_eq_false (by omega)) (okL1 ka)))))))))))))) hv (by rfl) w
theorem pick_calls (a b : Int) (l z n : Bool) (ha : U a) (hb : U b) (w : World) : Calls Try.prog 14 #[.int .u64 a, .int .u64 b, .bool l, .bool z, .bool n] w fun r w' => r = .returned (vUI (pkP a b l z n) (coF a b)) ∧ Tidy w w' := by
  by_cases hn : 3 < cl a ∨ 3 < cl b
  · have hv : ([.int .u64 a, .int .u64 b, .bool l, .bool z, .bool n].all (lt 0)) = true := rfl
    have T := tabY_ok conR3_ok
    have ka : decide (U a) = true := decide_eq_true ha
    have kb : decide (U b) = true := decide_eq_true hb
    have kab : decide (U a ∧ U b) = true := decide_eq_true ⟨ha, hb⟩
    rw [show coF a b = ldF a b by unfold coF; rw [if_pos hn]]
    cases n
    · rw [pk_no, if_pos hn]
      by_cases h1 : 3 < cl a
      · exact fits_calls T (pf_t a b l z) (okCons rfl (okCons kab (okCons (decide_eq_true (by omega)) (okL1 ka)))) hv (by rfl) w
      · exact fits_calls T (pf_f a b l z) (okCons rfl (okCons kab (okCons (decide_eq_true (by omega)) (okCons kb (okCons (decide_eq_false (by omega)) (okL1 ka)))))) hv (by rfl) w
    · unfold pkP
      by_cases h1 : 3 < cl a
      · by_cases h2 : 3 < cl b
        · rw [if_neg (fun h => h.2.elim (fun x => x.2 h2) (fun x => x.1 h1)), if_pos hn]
          exact fits_calls T (pn_tt a b l z) (okCons rfl (okCons kab (okCons (decide_eq_true (by omega)) (okCons ka (okCons (decide_eq_true (by omega)) (okCons kb (okCons (decide_eq_true (by omega)) (okL1 ka)))))))) hv (by rfl) w
        · rw [if_pos ⟨rfl, .inl ⟨h1, h2⟩⟩, if_pos h1]
          exact fits_calls T (pn_tf a b l z) (okCons rfl (okCons kab (okCons (decide_eq_true (by omega)) (okCons ka (okCons (decide_eq_false (by omega)) (okCons kb (okCons (decide_eq_true (by omega)) (okL1 ka)))))))) hv (by rfl) w
      · have h2 : 3 < cl b := hn.resolve_left h1
        rw [if_pos ⟨rfl, .inr ⟨h1, h2⟩⟩, if_neg h1]
        exact fits_calls T (pn_ft a b l z) (okCons rfl (okCons kab (okCons (decide_eq_false (by omega)) (okCons ka (okCons (decide_eq_true (by omega)) (okCons kb (okCons (decide_eq_false (by omega)) (okL1 ka)))))))) hv (by rfl) w
  · rw [show coF a b = 0 by unfold coF; rw [if_neg hn]]
    by_cases hd : coV (mag a) (mag b) = 0
    · cases n <;> cases z <;> cases l
      · exact pw_f0f a b ha hb hn w
      · exact pw_f0t a b ha hb hn w
      · exact pw_f2f a b ha hb hn hd w
      · exact pw_f2t a b ha hb hn hd w
      · exact pw_t0f a b ha hb hn w
      · exact pw_t0t a b ha hb hn w
      · exact pw_t2f a b ha hb hn hd w
      · exact pw_t2t a b ha hb hn hd w
    · cases n <;> cases z <;> cases l
      · exact pw_f0f a b ha hb hn w
      · exact pw_f0t a b ha hb hn w
      · exact pw_f1f a b ha hb hn hd w
      · exact pw_f1t a b ha hb hn hd w
      · exact pw_t0f a b ha hb hn w
      · exact pw_t0t a b ha hb hn w
      · exact pw_t1f a b ha hb hn hd w
      · exact pw_t1t a b ha hb hn hd w
def gPick : Ans := fun vals s =>
  match vals with
  | [.int .u64 a, .int .u64 b, .bool l, .bool z, .bool n] => some (vUI (pkP a b l z n) (coF a b), s, [(decide (U a ∧ U b), true)])
  | _ => none
theorem gPick_ok : AnsOk 14 gPick := by
  intro vals s v s' lg h hl w
  unfold gPick at h
  split at h
  · cases h
    obtain ⟨h1, h2⟩ := of_decide_eq_true (hl _ (List.mem_singleton.2 rfl))
    exact pick_calls _ _ _ _ _ h1 h2 w
  · cases h
end Go.Proofs.Ytfmfcbnhmkkibaa

/-
  What the laws call that hold the document's order beside the program's: which is less, and the order of all.
-/
namespace Go.Proofs.Ytfmfcbnhmkkibaa
open Go.KRun Go.Nt Go.Pt Go.Rn
set_option maxRecDepth 100000

def conO6 : Con := alt 10 (gUU (fun a b => vII (coV a b) (coF a b)) fun _ _ => true) (alt 21 (gUUb tlB) conO5)
theorem conO6_ok : ConOk conO6 := alt_ok Try.func10 rfl (gUU_ok fun a b ha hb _ w => rcompare_calls a b ha hb w) (alt_ok Try.func21 rfl (gUUb_ok rtotal_calls) conO5_ok)
end Go.Proofs.Ytfmfcbnhmkkibaa
