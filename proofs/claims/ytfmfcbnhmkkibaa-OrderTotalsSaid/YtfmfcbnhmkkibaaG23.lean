/-
  The document's order (tillerref10): which of two patterns is less, and the order of all, as calls in every world.
-/
import Derived.Test.YtfmfcbnhmkkibaaG22
import Derived.Test.YtfmfcbnhmkkibaaG03
import Derived.WalkKit
import Derived.ProofKit
import Derived.OpenShut
import Derived.Laws.IdiomArrays
import Derived.Lib.SmallJoins
namespace Go.Proofs.Ytfmfcbnhmkkibaa
open Go.KRun Go.Nt Go.Pt Go.Rn
set_option maxRecDepth 100000

def vII (x y : Int) : Value := .tuple #[.int .i64 x, .int .i64 y]
theorem no_1 (a b : Int) : Fits (reckon (tabOf Try.prog extY conR1 true) 300 28 [.int .u64 a, .int .u64 b] [cmp true]) (.int .i64 1) [(cl a == 5, true), lU a] := ⟨by kernel_rfl, by kernel_rfl, by kernel_rfl, by kernel_rfl⟩
theorem no_2 (a b : Int) : Fits (reckon (tabOf Try.prog extY conR1 true) 300 28 [.int .u64 a, .int .u64 b] [cmp false, cmp true]) (.int .i64 1) [(cl b == 5, true), lU b, (cl a == 5, false), lU a] := ⟨by kernel_rfl, by kernel_rfl, by kernel_rfl, by kernel_rfl⟩
theorem no_3 (a b : Int) : Fits (reckon (tabOf Try.prog extY conR1 true) 300 28 [.int .u64 a, .int .u64 b] [cmp false, cmp false]) (.int .i64 0) [(cl b == 5, false), lU b, (cl a == 5, false), lU a] := ⟨by kernel_rfl, by kernel_rfl, by kernel_rfl, by kernel_rfl⟩
theorem ra_1 (p : Int) : Fits (reckon (tabOf Try.prog extY conR1 true) 300 31 [.int .u64 p] [cmp true]) (.int .u64 (p.tmod 9223372036854775808)) [(decide ((9223372036854775808 : Int) = 0), false)] := ⟨by kernel_rfl, by kernel_rfl, by kernel_rfl, by kernel_rfl⟩
theorem rk_1 (p k : Int) : Fits (reckon (tabOf Try.prog extY conR1 true) 300 45 [.int .u64 p] [at_, val (.int .i64 k)]) (.int .i64 k) [(cellIs [Value.int .i64 0, .int .i64 1, .int .i64 1, .int .i64 2, .int .i64 4, .int .i64 3][0 + (cl p).toNat * 1]? (.int .i64 k), true), (decide (0 ≤ cl p ∧ cl p < ((6 : Nat) : Int)), true), lU p] := ⟨by kernel_rfl, by kernel_rfl, by kernel_rfl, by kernel_rfl⟩
theorem none_calls (a b : Int) (ha : U a) (hb : U b) (w : World) : Calls Try.prog 28 #[.int .u64 a, .int .u64 b] w fun r w' => r = .returned (.int .i64 (ldF a b)) ∧ Tidy w w' := by
  have hv : ([.int .u64 a, .int .u64 b].all (lt 0)) = true := rfl
  have T := tabY_ok conR1_ok
  have ka : decide (U a) = true := decide_eq_true ha
  have kb : decide (U b) = true := decide_eq_true hb
  have kab : decide (U a ∧ U b) = true := decide_eq_true ⟨ha, hb⟩
  unfold ldF
  by_cases h1 : cl a = 5
  · rw [if_pos (.inl h1)]
    exact fits_calls T (no_1 a b) (okCons (beq_t (by omega)) (okL1 ka)) hv (by rfl) w
  · by_cases h2 : cl b = 5
    · rw [if_pos (.inr h2)]
      exact fits_calls T (no_2 a b) (okCons (beq_t (by omega)) (okCons kb (okCons (beq_f (by omega)) (okL1 ka)))) hv (by rfl) w
    · rw [if_neg (by omega)]
      exact fits_calls T (no_3 a b) (okCons (beq_f (by omega)) (okCons kb (okCons (beq_f (by omega)) (okL1 ka)))) hv (by rfl) w
theorem rabs_ok : AnsOk 31 (gU fun p => .int .u64 (mag p)) := gU_ok fun p hp w => by
  have hv : ([.int .u64 p].all (lt 0)) = true := rfl
  have T := tabY_ok conR1_ok
  have hf := ra_1 p
  rw [Int.tmod_eq_emod_of_nonneg hp.1] at hf
  exact fits_calls T hf (okL1 (by decide)) hv (by rfl) w
theorem rank_ok : AnsOk 45 (gU fun p => .int .i64 (rkC (cl p))) := gU_ok fun p hp w => by
  have hv : ([.int .u64 p].all (lt 0)) = true := rfl
  have T := tabY_ok conR1_ok
  have kp : decide (U p) = true := decide_eq_true hp
  have bd := cl_all p
  have hc : cellIs [Value.int .i64 0, .int .i64 1, .int .i64 1, .int .i64 2, .int .i64 4, .int .i64 3][0 + (cl p).toNat * 1]? (.int .i64 (rkC (cl p))) = true := by
    have h6 : cl p = 0 ∨ cl p = 1 ∨ cl p = 2 ∨ cl p = 3 ∨ cl p = 4 ∨ cl p = 5 := by omega
    rcases h6 with h | h | h | h | h | h <;> rw [h] <;> rfl
  exact fits_calls T (rk_1 p (rkC (cl p))) (okCons hc (okCons (decide_eq_true (by omega)) (okL1 kp))) hv (by rfl) w
def conR2 : Con := alt 28 (gUU (fun a b => .int .i64 (ldF a b)) fun _ _ => true) (alt 31 (gU fun p => .int .u64 (mag p)) (alt 45 (gU fun p => .int .i64 (rkC (cl p))) conR1))
theorem conR2_ok : ConOk conR2 := alt_ok Try.func28 rfl (gUU_ok fun a b ha hb _ w => none_calls a b ha hb w) (alt_ok Try.func31 rfl rabs_ok (alt_ok Try.func45 rfl rank_ok conR1_ok))
theorem ah_nt (a b : Int) : Fits (reckon (tabOf Try.prog extY conR2 true) 300 34 [.int .u64 a, .int .u64 b] [cmp true, cmp true]) (.bool true) [(decide (rkC (cl a) < rkC (cl b)), true), lU b, lU a, (rkC (cl a) != rkC (cl b), true), lU b, lU a] := ⟨by kernel_rfl, by kernel_rfl, by kernel_rfl, by kernel_rfl⟩
theorem ah_et (a b : Int) : Fits (reckon (tabOf Try.prog extY conR2 true) 300 34 [.int .u64 a, .int .u64 b] [cmp false, cmp true]) (.bool true) [(decide (a ≤ b), true), (rkC (cl a) != rkC (cl b), false), lU b, lU a] := ⟨by kernel_rfl, by kernel_rfl, by kernel_rfl, by kernel_rfl⟩
theorem ah_nf (a b : Int) : Fits (reckon (tabOf Try.prog extY conR2 true) 300 34 [.int .u64 a, .int .u64 b] [cmp true, cmp false]) (.bool false) [(decide (rkC (cl a) < rkC (cl b)), false), lU b, lU a, (rkC (cl a) != rkC (cl b), true), lU b, lU a] := ⟨by kernel_rfl, by kernel_rfl, by kernel_rfl, by kernel_rfl⟩
theorem ah_ef (a b : Int) : Fits (reckon (tabOf Try.prog extY conR2 true) 300 34 [.int .u64 a, .int .u64 b] [cmp false, cmp false]) (.bool false) [(decide (a ≤ b), false), (rkC (cl a) != rkC (cl b), false), lU b, lU a] := ⟨by kernel_rfl, by kernel_rfl, by kernel_rfl, by kernel_rfl⟩
theorem rc_1 (a b : Int) : Fits (reckon (tabOf Try.prog extY conR2 true) 300 10 [.int .u64 a, .int .u64 b] [cmp true]) (vII 2 (ldF a b)) [(true, true), (decide (U a ∧ U b), true), (decide (cl a > 3), true), lU a] := ⟨by kernel_rfl, by kernel_rfl, by kernel_rfl, by kernel_rfl⟩
theorem rc_2 (a b : Int) : Fits (reckon (tabOf Try.prog extY conR2 true) 300 10 [.int .u64 a, .int .u64 b] [cmp false, cmp true]) (vII 2 (ldF a b)) [(true, true), (decide (U a ∧ U b), true), (decide (cl b > 3), true), lU b, (decide (cl a > 3), false), lU a] := ⟨by kernel_rfl, by kernel_rfl, by kernel_rfl, by kernel_rfl⟩
theorem rc_v (a b : Int) : Fits (reckon (tabOf Try.prog extY conR2 true) 300 10 [.int .u64 a, .int .u64 b] [cmp false, cmp false, cmp true, cmp true]) (vII (coV a b) 0) [(decide (cl a ≤ 2 ∧ cl b ≤ 2), true), (decide (U a ∧ U b), true), (decide (cl b < 3), true), lU b, (decide (cl a < 3), true), lU a, (decide (cl b > 3), false), lU b, (decide (cl a > 3), false), lU a] := ⟨by kernel_rfl, by kernel_rfl, by kernel_rfl, by kernel_rfl⟩
theorem rc_x1 (a b : Int) : Fits (reckon (tabOf Try.prog extY conR2 true) 300 10 [.int .u64 a, .int .u64 b] [cmp false, cmp false, cmp false, cmp true]) (vII 0 0) [(a == b, true), (decide (cl a < 3), false), lU a, (decide (cl b > 3), false), lU b, (decide (cl a > 3), false), lU a] := ⟨by kernel_rfl, by kernel_rfl, by kernel_rfl, by kernel_rfl⟩
theorem rc_x2 (a b : Int) : Fits (reckon (tabOf Try.prog extY conR2 true) 300 10 [.int .u64 a, .int .u64 b] [cmp false, cmp false, cmp false, cmp false, cmp true]) (vII 1 0) [(a == 9218868437227405312, true), (a == b, false), (decide (cl a < 3), false), lU a, (decide (cl b > 3), false), lU b, (decide (cl a > 3), false), lU a] := ⟨by kernel_rfl, by kernel_rfl, by kernel_rfl, by kernel_rfl⟩
theorem rc_x3 (a b : Int) : Fits (reckon (tabOf Try.prog extY conR2 true) 300 10 [.int .u64 a, .int .u64 b] [cmp false, cmp false, cmp false, cmp false, cmp false, cmp true]) (vII 1 0) [(b == 18442240474082181120, true), (a == 9218868437227405312, false), (a == b, false), (decide (cl a < 3), false), lU a, (decide (cl b > 3), false), lU b, (decide (cl a > 3), false), lU a] := ⟨by kernel_rfl, by kernel_rfl, by kernel_rfl, by kernel_rfl⟩
theorem rc_x4 (a b : Int) : Fits (reckon (tabOf Try.prog extY conR2 true) 300 10 [.int .u64 a, .int .u64 b] [cmp false, cmp false, cmp false, cmp false, cmp false, cmp false]) (vII (-1) 0) [(b == 18442240474082181120, false), (a == 9218868437227405312, false), (a == b, false), (decide (cl a < 3), false), lU a, (decide (cl b > 3), false), lU b, (decide (cl a > 3), false), lU a] := ⟨by kernel_rfl, by kernel_rfl, by kernel_rfl, by kernel_rfl⟩
theorem rc_y1 (a b : Int) : Fits (reckon (tabOf Try.prog extY conR2 true) 300 10 [.int .u64 a, .int .u64 b] [cmp false, cmp false, cmp true, cmp false, cmp true]) (vII 0 0) [(a == b, true), (decide (cl b < 3), false), lU b, (decide (cl a < 3), true), lU a, (decide (cl b > 3), false), lU b, (decide (cl a > 3), false), lU a] := ⟨by kernel_rfl, by kernel_rfl, by kernel_rfl, by kernel_rfl⟩
theorem rc_y2 (a b : Int) : Fits (reckon (tabOf Try.prog extY conR2 true) 300 10 [.int .u64 a, .int .u64 b] [cmp false, cmp false, cmp true, cmp false, cmp false, cmp true]) (vII 1 0) [(a == 9218868437227405312, true), (a == b, false), (decide (cl b < 3), false), lU b, (decide (cl a < 3), true), lU a, (decide (cl b > 3), false), lU b, (decide (cl a > 3), false), lU a] := ⟨by kernel_rfl, by kernel_rfl, by kernel_rfl, by kernel_rfl⟩
theorem rc_y3 (a b : Int) : Fits (reckon (tabOf Try.prog extY conR2 true) 300 10 [.int .u64 a, .int .u64 b] [cmp false, cmp false, cmp true, cmp false, cmp false, cmp false, cmp true]) (vII 1 0) [(b == 18442240474082181120, true), (a == 9218868437227405312, false), (a == b, false), (decide (cl b < 3), false), lU b, (decide (cl a < 3), true), lU a, (decide (cl b > 3), false), lU b, (decide (cl a > 3), false), lU a] := ⟨by kernel_rfl, by kernel_rfl, by kernel_rfl, by kernel_rfl⟩
theorem rc_y4 (a b : Int) : Fits (reckon (tabOf Try.prog extY conR2 true) 300 10 [.int .u64 a, .int .u64 b] [cmp false, cmp false, cmp true, cmp false, cmp false, cmp false, cmp false]) (vII (-1) 0) [(b == 18442240474082181120, false), (a == 9218868437227405312, false), (a == b, false), (decide (cl b < 3), false), lU b, (decide (cl a < 3), true), lU a, (decide (cl b > 3), false), lU b, (decide (cl a > 3), false), lU a] := ⟨by kernel_rfl, by kernel_rfl, by kernel_rfl, by kernel_rfl⟩
theorem ahead_calls (a b : Int) (ha : U a) (hb : U b) (w : World) : Calls Try.prog 34 #[.int .u64 a, .int .u64 b] w fun r w' => r = .returned (.bool (ahK a b)) ∧ Tidy w w' := by
  have hv : ([.int .u64 a, .int .u64 b].all (lt 0)) = true := rfl
  have T := tabY_ok conR2_ok
  have ka : decide (U a) = true := decide_eq_true ha
  have kb : decide (U b) = true := decide_eq_true hb
  have kab : decide (U a ∧ U b) = true := decide_eq_true ⟨ha, hb⟩
  unfold ahK
  by_cases h : rkC (cl a) = rkC (cl b)
  · rw [if_neg (fun h' => h' h)]
    by_cases h2 : a ≤ b
    · rw [decide_eq_true h2]
      exact fits_calls T (ah_et a b) (okCons (decide_eq_true h2) (okCons (bne_f h) (okCons kb (okL1 ka)))) hv (by rfl) w
    · rw [decide_eq_false h2]
      exact fits_calls T (ah_ef a b) (okCons (decide_eq_false h2) (okCons (bne_f h) (okCons kb (okL1 ka)))) hv (by rfl) w
  · rw [if_pos h]
    by_cases h2 : rkC (cl a) < rkC (cl b)
    · rw [decide_eq_true h2]
      exact fits_calls T (ah_nt a b) (okCons (decide_eq_true h2) (okCons kb (okCons ka (okCons (bne_t h) (okCons kb (okL1 ka)))))) hv (by rfl) w
    · rw [decide_eq_false h2]
      exact fits_calls T (ah_nf a b) (okCons (decide_eq_false h2) (okCons kb (okCons ka (okCons (bne_t h) (okCons kb (okL1 ka)))))) hv (by rfl) w
theorem rcompare_calls (a b : Int) (ha : U a) (hb : U b) (w : World) : Calls Try.prog 10 #[.int .u64 a, .int .u64 b] w fun r w' => r = .returned (vII (coV a b) (coF a b)) ∧ Tidy w w' := by
  have hv : ([.int .u64 a, .int .u64 b].all (lt 0)) = true := rfl
  have T := tabY_ok conR2_ok
  have ka : decide (U a) = true := decide_eq_true ha
  have kb : decide (U b) = true := decide_eq_true hb
  have kab : decide (U a ∧ U b) = true := decide_eq_true ⟨ha, hb⟩
  by_cases hn : 3 < cl a ∨ 3 < cl b
  · rw [coV_nn.2 hn, show coF a b = ldF a b by unfold coF; rw [if_pos hn]]
    by_cases h1 : 3 < cl a
    · exact fits_calls T (rc_1 a b) (okCons rfl (okCons kab (okCons (decide_eq_true (by omega)) (okL1 ka)))) hv (by rfl) w
    · exact fits_calls T (rc_2 a b) (okCons rfl (okCons kab (okCons (decide_eq_true (by omega)) (okCons kb (okCons (decide_eq_false (by omega)) (okL1 ka)))))) hv (by rfl) w
  rw [show coF a b = 0 by unfold coF; rw [if_neg hn]]
  by_cases h1 : cl a < 3
  · by_cases h2 : cl b < 3
    · exact fits_calls T (rc_v a b) (okCons (decide_eq_true (by omega)) (okCons kab (okCons (decide_eq_true (by omega)) (okCons kb (okCons (decide_eq_true (by omega)) (okCons ka (okCons (decide_eq_false (by omega)) (okCons kb (okCons (decide_eq_false (by omega)) (okL1 ka)))))))))) hv (by rfl) w
    · rw [co_inf ha hb (by omega) (by omega) (by omega)]
      by_cases he : a = b
      · rw [if_pos he]
        exact fits_calls T (rc_y1 a b) (okCons (beq_t he) (okCons (decide_eq_false (by omega)) (okCons kb (okCons (decide_eq_true (by omega)) (okCons ka (okCons (decide_eq_false (by omega)) (okCons kb (okCons (decide_eq_false (by omega)) (okL1 ka))))))))) hv (by rfl) w
      rw [if_neg he]
      by_cases hi : a = 9218868437227405312
      · rw [if_pos (.inl hi)]
        exact fits_calls T (rc_y2 a b) (okCons (beq_t hi) (okCons (beq_f he) (okCons (decide_eq_false (by omega)) (okCons kb (okCons (decide_eq_true (by omega)) (okCons ka (okCons (decide_eq_false (by omega)) (okCons kb (okCons (decide_eq_false (by omega)) (okL1 ka)))))))))) hv (by rfl) w
      by_cases hj : b = 18442240474082181120
      · rw [if_pos (.inr hj)]
        exact fits_calls T (rc_y3 a b) (okCons (beq_t hj) (okCons (beq_f hi) (okCons (beq_f he) (okCons (decide_eq_false (by omega)) (okCons kb (okCons (decide_eq_true (by omega)) (okCons ka (okCons (decide_eq_false (by omega)) (okCons kb (okCons (decide_eq_false (by omega)) (okL1 ka))))))))))) hv (by rfl) w
      rw [if_neg (by omega)]
      exact fits_calls T (rc_y4 a b) (okCons (beq_f hj) (okCons (beq_f hi) (okCons (beq_f he) (okCons (decide_eq_false (by omega)) (okCons kb (okCons (decide_eq_true (by omega)) (okCons ka (okCons (decide_eq_false (by omega)) (okCons kb (okCons (decide_eq_false (by omega)) (okL1 ka))))))))))) hv (by rfl) w
  · rw [co_inf ha hb (by omega) (by omega) (by omega)]
    by_cases he : a = b
    · rw [if_pos he]
      exact fits_calls T (rc_x1 a b) (okCons (beq_t he) (okCons (decide_eq_false (by omega)) (okCons ka (okCons (decide_eq_false (by omega)) (okCons kb (okCons (decide_eq_false (by omega)) (okL1 ka))))))) hv (by rfl) w
    rw [if_neg he]
    by_cases hi : a = 9218868437227405312
    · rw [if_pos (.inl hi)]
      exact fits_calls T (rc_x2 a b) (okCons (beq_t hi) (okCons (beq_f he) (okCons (decide_eq_false (by omega)) (okCons ka (okCons (decide_eq_false (by omega)) (okCons kb (okCons (decide_eq_false (by omega)) (okL1 ka)))))))) hv (by rfl) w
    by_cases hj : b = 18442240474082181120
    · rw [if_pos (.inr hj)]
      exact fits_calls T (rc_x3 a b) (okCons (beq_t hj) (okCons (beq_f hi) (okCons (beq_f he) (okCons (decide_eq_false (by omega)) (okCons ka (okCons (decide_eq_false (by omega)) (okCons kb (okCons (decide_eq_false (by omega)) (okL1 ka))))))))) hv (by rfl) w
    rw [if_neg (by omega)]
    exact fits_calls T (rc_x4 a b) (okCons (beq_f hj) (okCons (beq_f hi) (okCons (beq_f he) (okCons (decide_eq_false (by omega)) (okCons ka (okCons (decide_eq_false (by omega)) (okCons kb (okCons (decide_eq_false (by omega)) (okL1 ka))))))))) hv (by rfl) w
def conR3 : Con := alt 34 (gUUb ahK) (alt 10 (gUU (fun a b => vII (coV a b) (coF a b)) fun _ _ => true) conR2)
theorem conR3_ok : ConOk conR3 := alt_ok Try.func34 rfl (gUUb_ok ahead_calls) (alt_ok Try.func10 rfl (gUU_ok fun a b ha hb _ w => rcompare_calls a b ha hb w) conR2_ok)
theorem to_1t (a b : Int) : Fits (reckon (tabOf Try.prog extY conR3 true) 300 21 [.int .u64 a, .int .u64 b] [cmp true, cmp true, cmp true]) (.bool true) [(ahK (mag b) (mag a), true), (decide (U (mag b) ∧ U (mag a)), true), lU a, lU b, (decide (b ≥ 9223372036854775808), true), (decide (a ≥ 9223372036854775808), true)] := ⟨by kernel_rfl, by kernel_rfl, by kernel_rfl, by kernel_rfl⟩
theorem to_4t (a b : Int) : Fits (reckon (tabOf Try.prog extY conR3 true) 300 21 [.int .u64 a, .int .u64 b] [cmp false, cmp false, cmp false, cmp true]) (.bool true) [(ahK a b, true), (decide (U a ∧ U b), true), (decide (b ≥ 9223372036854775808), false), (decide (a ≥ 9223372036854775808), false), (decide (a ≥ 9223372036854775808), false)] := ⟨by kernel_rfl, by kernel_rfl, by kernel_rfl, by kernel_rfl⟩
theorem to_1f (a b : Int) : Fits (reckon (tabOf Try.prog extY conR3 true) 300 21 [.int .u64 a, .int .u64 b] [cmp true, cmp true, cmp false]) (.bool false) [(ahK (mag b) (mag a), false), (decide (U (mag b) ∧ U (mag a)), true), lU a, lU b, (decide (b ≥ 9223372036854775808), true), (decide (a ≥ 9223372036854775808), true)] := ⟨by kernel_rfl, by kernel_rfl, by kernel_rfl, by kernel_rfl⟩
theorem to_4f (a b : Int) : Fits (reckon (tabOf Try.prog extY conR3 true) 300 21 [.int .u64 a, .int .u64 b] [cmp false, cmp false, cmp false, cmp false]) (.bool false) [(ahK a b, false), (decide (U a ∧ U b), true), (decide (b ≥ 9223372036854775808), false), (decide (a ≥ 9223372036854775808), false), (decide (a ≥ 9223372036854775808), false)] := ⟨by kernel_rfl, by kernel_rfl, by kernel_rfl, by kernel_rfl⟩
theorem to_2 (a b : Int) : Fits (reckon (tabOf Try.prog extY conR3 true) 300 21 [.int .u64 a, .int .u64 b] [cmp true, cmp false, cmp true, cmp true]) (.bool true) [(decide (a ≥ 9223372036854775808), true), (decide (a ≥ 9223372036854775808), true), (decide (b ≥ 9223372036854775808), false), (decide (a ≥ 9223372036854775808), true)] := ⟨by kernel_rfl, by kernel_rfl, by kernel_rfl, by kernel_rfl⟩
theorem to_3 (a b : Int) : Fits (reckon (tabOf Try.prog extY conR3 true) 300 21 [.int .u64 a, .int .u64 b] [cmp false, cmp false, cmp true, cmp false]) (.bool false) [(decide (a ≥ 9223372036854775808), false), (decide (b ≥ 9223372036854775808), true), (decide (a ≥ 9223372036854775808), false), (decide (a ≥ 9223372036854775808), false)] := ⟨by kernel_rfl, by kernel_rfl, by kernel_rfl, by kernel_rfl⟩
theorem rtotal_calls (a b : Int) (ha : U a) (hb : U b) (w : World) : Calls Try.prog 21 #[.int .u64 a, .int .u64 b] w fun r w' => r = .returned (.bool (tlB a b)) ∧ Tidy w w' := by
  have hv : ([.int .u64 a, .int .u64 b].all (lt 0)) = true := rfl
  have T := tabY_ok conR3_ok
  have ka : decide (U a) = true := decide_eq_true ha
  have kb : decide (U b) = true := decide_eq_true hb
  have kab : decide (U a ∧ U b) = true := decide_eq_true ⟨ha, hb⟩
  have km : decide (U (mag b) ∧ U (mag a)) = true := decide_eq_true ⟨U_mag b, U_mag a⟩
  have p1 : plc a = if a < 9223372036854775808 then a + 9223372036854775808 else 18446744073709551615 - a := rfl
  have p2 : plc b = if b < 9223372036854775808 then b + 9223372036854775808 else 18446744073709551615 - b := rfl
  have e1 : mag a = a % 9223372036854775808 := rfl
  have e2 : mag b = b % 9223372036854775808 := rfl
  have ua := ha
  have ub := hb
  unfold U at ua ub
  have km1 : ahK (mag b) (mag a) = decide (mag b ≤ mag a) := ah_le (mag_mag b) (mag_mag a)
  unfold tlB
  by_cases sa : a ≥ 9223372036854775808
  · rw [if_neg (show ¬ a < 9223372036854775808 by omega)] at p1
    by_cases sb : b ≥ 9223372036854775808
    · rw [if_neg (show ¬ b < 9223372036854775808 by omega)] at p2
      by_cases h : mag b ≤ mag a
      · have hk : ahK (mag b) (mag a) = true := by rw [km1]; exact decide_eq_true h
        rw [decide_eq_true (show plc a ≤ plc b by omega)]
        exact fits_calls T (to_1t a b) (okCons hk (okCons km (okCons ka (okCons kb (okCons (decide_eq_true sb) (okL1 (decide_eq_true sa))))))) hv (by rfl) w
      · have hk : ahK (mag b) (mag a) = false := by rw [km1]; exact decide_eq_false h
        rw [decide_eq_false (show ¬ plc a ≤ plc b by omega)]
        exact fits_calls T (to_1f a b) (okCons hk (okCons km (okCons ka (okCons kb (okCons (decide_eq_true sb) (okL1 (decide_eq_true sa))))))) hv (by rfl) w
    · rw [if_pos (show b < 9223372036854775808 by omega)] at p2
      rw [decide_eq_true (show plc a ≤ plc b by omega)]
      exact fits_calls T (to_2 a b) (okCons (decide_eq_true sa) (okCons (decide_eq_true sa) (okCons (decide_eq_false sb) (okL1 (decide_eq_true sa))))) hv (by rfl) w
  · rw [if_pos (show a < 9223372036854775808 by omega)] at p1
    by_cases sb : b ≥ 9223372036854775808
    · rw [if_neg (show ¬ b < 9223372036854775808 by omega)] at p2
      rw [decide_eq_false (show ¬ plc a ≤ plc b by omega)]
      exact fits_calls T (to_3 a b) (okCons (decide_eq_false sa) (okCons (decide_eq_true sb) (okCons (decide_eq_false sa) (okL1 (decide_eq_false sa))))) hv (by rfl) w
    · rw [if_pos (show b < 9223372036854775808 by omega)] at p2
      have km2 : ahK a b = decide (a ≤ b) := ah_le (by omega) (by omega)
      by_cases h : a ≤ b
      · have hk : ahK a b = true := by rw [km2]; exact decide_eq_true h
        rw [decide_eq_true (show plc a ≤ plc b by omega)]
        exact fits_calls T (to_4t a b) (okCons hk (okCons kab (okCons (decide_eq_false sb) (okCons (decide_eq_false sa) (okL1 (decide_eq_false sa)))))) hv (by rfl) w
      · have hk : ahK a b = false := by rw [km2]; exact decide_eq_false h
        rw [decide_eq_false (show ¬ plc a ≤ plc b by omega)]
        exact fits_calls T (to_4f a b) (okCons hk (okCons kab (okCons (decide_eq_false sb) (okCons (decide_eq_false sa) (okL1 (decide_eq_false sa)))))) hv (by rfl) w
end Go.Proofs.Ytfmfcbnhmkkibaa

/-
  What the laws call that hold the document's order beside the program's: which is less, and the order of all.
-/
namespace Go.Proofs.Ytfmfcbnhmkkibaa
open Go.KRun Go.Nt Go.Pt Go.Rn
set_option maxRecDepth 100000

def conO6 : Con := alt 10 (gUU (fun a b => vII (coV a b) (coF a b)) fun _ _ => true) (alt 21 (gUUb tlB) conO5)
theorem conO6_ok : ConOk conO6 := alt_ok Try.func10 rfl (gUU_ok fun a b ha hb _ w => rcompare_calls a b ha hb w) (alt_ok Try.func21 rfl (gUUb_ok rtotal_calls) conO5_ok)
end Go.Proofs.Ytfmfcbnhmkkibaa

/-
  The row's side: an argument that is four words of 64 bits, opened and shut; what a call that only makes memory leaves.
-/
namespace Go.KRun
open Go.ChangeShapes Go.WideShapes Go.ChangeAt Go.RowKit Go.Joins

section
variable {H : Type} {enc : TypeId × Value → H} {P : Program} {w : World} {base : Nat} {spare : Nat → Bool} {held : Bool}

theorem open_w4 {r : Go.Reach} {b0 : Nat} {t e : TypeId} {v : Value} {d : DataW H} {p : List MemPlace} (hu : P.underlying t = some (.array 4 e)) (hue : P.underlying e = some (.int .u64)) (hC : P.cellsOf t = 4) (hce : P.cellsOf e = 1)
    (hv : Value.okWide P w r b0 t v) (h : DataW.Trod enc P w base spare held t v d p) :
    ∃ a0 a1 a2 a3 : Int, v = .agg #[.int .u64 a0, .int .u64 a1, .int .u64 a2, .int .u64 a3] ∧ d = .agg [.lit (.int .u64 a0), .lit (.int .u64 a1), .lit (.int .u64 a2), .lit (.int .u64 a3)] ∧ p = [] ∧
      (Lit.int .u64 a0).wf = true ∧ (Lit.int .u64 a1).wf = true ∧ (Lit.int .u64 a2).wf = true ∧ (Lit.int .u64 a3).wf = true := by
  have hv' := hv
  simp only [Value.okWide, hu] at hv'
  obtain ⟨cs, rfl, hsz, _⟩ := hv'
  obtain ⟨c0, c1, c2, c3, rfl⟩ := array4 (hsz.trans hC)
  obtain ⟨fuel, hf⟩ := h
  have hf' : DataW.trod enc P w base spare held fuel t [c0, c1, c2, c3] = some (d, p) := by simpa [Value.cells] using hf
  obtain ⟨y0, y1, y2, y3, n, hx, h0, h1, h2, h3⟩ := trod_array4 hu hce hf'
  obtain ⟨a0, e0, rfl, w0⟩ := DataW.trod_int hue h0
  obtain ⟨a1, e1, rfl, w1⟩ := DataW.trod_int hue h1
  obtain ⟨a2, e2, rfl, w2⟩ := DataW.trod_int hue h2
  obtain ⟨a3, e3, rfl, w3⟩ := DataW.trod_int hue h3
  simp only [List.cons.injEq, and_true] at e0 e1 e2 e3
  subst e0 e1 e2 e3
  simp only [Prod.mk.injEq] at hx
  exact ⟨a0, a1, a2, a3, rfl, hx.1, by simpa using hx.2, w0, w1, w2, w3⟩

theorem shut_w4 {t e : TypeId} (hu : P.underlying t = some (.array 4 e)) (hue : P.underlying e = some (.int .u64)) (hC : P.cellsOf t = 4) (hce : P.cellsOf e = 1) {a0 a1 a2 a3 : Int}
    (w0 : (Lit.int .u64 a0).wf = true) (w1 : (Lit.int .u64 a1).wf = true) (w2 : (Lit.int .u64 a2).wf = true) (w3 : (Lit.int .u64 a3).wf = true) :
    DataW.Trod enc P w base spare held t (.agg #[.int .u64 a0, .int .u64 a1, .int .u64 a2, .int .u64 a3]) (.agg [.lit (.int .u64 a0), .lit (.int .u64 a1), .lit (.int .u64 a2), .lit (.int .u64 a3)]) [] := by
  refine ⟨2, ?_⟩
  have r4 : List.range 4 = [0, 1, 2, 3] := rfl
  have one : ∀ a : Int, (Lit.int .u64 a).wf = true → DataW.trod enc P w base spare held 1 e [.int .u64 a] = some (.lit (.int .u64 a), []) := fun a ha => by
    simp [DataW.trod, hue, ha]
  simp only [Value.cells]
  unfold DataW.trod
  simp [hu, hC, hce, r4, one a0 w0, one a1 w1, one a2 w2, one a3 w3]
end

theorem tidy_frozen {w w' : World} (h : Tidy w w') (a : Addr) : w'.frozen? a = w.frozen? a := by
  unfold World.frozen?
  by_cases h1 : a.block < w.heap.size
  · rw [h.1.block _ h1]
  · rw [Array.getElem?_eq_none (by omega : w.heap.size ≤ a.block)]
    by_cases h2 : a.block < w'.heap.size
    · have h3 := h.2 a.block (by omega) h2
      unfold iced at h3
      split
      · rename_i c e lo hi hc
        have := h3 _ _ _ hc
        cases this
        simp
      · rfl
    · rw [Array.getElem?_eq_none (by omega : w'.heap.size ≤ a.block)]
theorem u64_bounds {n : Int} (h : (Lit.int .u64 n).wf = true) : 0 ≤ n ∧ n < 18446744073709551616 := by
  simp [Lit.wf, IntKind.min, IntKind.max, IntKind.signed, IntKind.bits] at h
  omega
theorem i64_bounds {n : Int} (h : (Lit.int .i64 n).wf = true) : -9223372036854775808 ≤ n ∧ n ≤ 9223372036854775807 := by
  simp [Lit.wf, IntKind.min, IntKind.max, IntKind.signed, IntKind.bits] at h
  omega
end Go.KRun
