/-
  Layer 10's order, the program's: the place of a pattern in the order of all, and what is no number, as calls in every world.
-/
import Derived.Test.YtfmfcbnhmkkibaaGnW
import Derived.Test.YtfmfcbnhmkkibaaNumOd
namespace Go.Proofs.Ytfmfcbnhmkkibaa
open Go.KRun Go.Pt
set_option maxRecDepth 100000

/-- which of two words is less -/
def cmV (x y : Int) : Int := if x < y then -1 else if x > y then 1 else 0
theorem pl_p (p : Int) : Fits (reckon (tabOf Try.prog extY conB true) 300 26 [.int .u64 p] [cmp true]) (.int .u64 (bXor p 9223372036854775808)) [(mag p == p, true), lU p] := ⟨by kernel_rfl, by kernel_rfl, by kernel_rfl, by kernel_rfl⟩
theorem pl_m (p : Int) : Fits (reckon (tabOf Try.prog extY conB true) 300 26 [.int .u64 p] [cmp false]) (.int .u64 (bXor 18446744073709551615 p)) [(mag p == p, false), lU p] := ⟨by kernel_rfl, by kernel_rfl, by kernel_rfl, by kernel_rfl⟩
theorem nn_t (a b : Int) : Fits (reckon (tabOf Try.prog extY conB true) 300 22 [.int .u64 a, .int .u64 b] [cmp true]) (.bool true) [(decide (cl a > 3), true), lU a] := ⟨by kernel_rfl, by kernel_rfl, by kernel_rfl, by kernel_rfl⟩
theorem nn_ft (a b : Int) : Fits (reckon (tabOf Try.prog extY conB true) 300 22 [.int .u64 a, .int .u64 b] [cmp false, cmp true]) (.bool true) [(decide (cl b > 3), true), lU b, (decide (cl a > 3), false), lU a] := ⟨by kernel_rfl, by kernel_rfl, by kernel_rfl, by kernel_rfl⟩
theorem nn_ff (a b : Int) : Fits (reckon (tabOf Try.prog extY conB true) 300 22 [.int .u64 a, .int .u64 b] [cmp false, cmp false]) (.bool false) [(decide (cl b > 3), false), lU b, (decide (cl a > 3), false), lU a] := ⟨by kernel_rfl, by kernel_rfl, by kernel_rfl, by kernel_rfl⟩
theorem ld_1 (a b : Int) : Fits (reckon (tabOf Try.prog extY conB true) 300 23 [.int .u64 a, .int .u64 b] [cmp true]) (.int .u8 1) [(cl a == 5, true), lU a] := ⟨by kernel_rfl, by kernel_rfl, by kernel_rfl, by kernel_rfl⟩
theorem ld_2 (a b : Int) : Fits (reckon (tabOf Try.prog extY conB true) 300 23 [.int .u64 a, .int .u64 b] [cmp false, cmp true]) (.int .u8 1) [(cl b == 5, true), lU b, (cl a == 5, false), lU a] := ⟨by kernel_rfl, by kernel_rfl, by kernel_rfl, by kernel_rfl⟩
theorem ld_3 (a b : Int) : Fits (reckon (tabOf Try.prog extY conB true) 300 23 [.int .u64 a, .int .u64 b] [cmp false, cmp false]) (.int .u8 0) [(cl b == 5, false), lU b, (cl a == 5, false), lU a] := ⟨by kernel_rfl, by kernel_rfl, by kernel_rfl, by kernel_rfl⟩
theorem on_1 (a b : Int) : Fits (reckon (tabOf Try.prog extY conB true) 300 32 [.int .u64 a, .int .u64 b] [cmp false]) (.int .u64 a) [(decide (cl a > 3), false), lU a] := ⟨by kernel_rfl, by kernel_rfl, by kernel_rfl, by kernel_rfl⟩
theorem on_2 (a b : Int) : Fits (reckon (tabOf Try.prog extY conB true) 300 32 [.int .u64 a, .int .u64 b] [cmp true, cmp false]) (.int .u64 b) [(decide (cl b > 3), false), lU b, (decide (cl a > 3), true), lU a] := ⟨by kernel_rfl, by kernel_rfl, by kernel_rfl, by kernel_rfl⟩
theorem on_3 (a b : Int) : Fits (reckon (tabOf Try.prog extY conB true) 300 32 [.int .u64 a, .int .u64 b] [cmp true, cmp true]) (.int .u64 9221120237041090560) [(decide (cl b > 3), true), lU b, (decide (cl a > 3), true), lU a] := ⟨by kernel_rfl, by kernel_rfl, by kernel_rfl, by kernel_rfl⟩
theorem cc_l (x y : Int) : Fits (reckon (tabOf Try.prog extY conB true) 300 25 [.int .u64 x, .int .u64 y] [cmp false, cmp false, cmp true]) (.int .i64 (-1)) [(decide (x < y), true), (y != y, false), (x != x, false)] := ⟨by kernel_rfl, by kernel_rfl, by kernel_rfl, by kernel_rfl⟩
theorem cc_g (x y : Int) : Fits (reckon (tabOf Try.prog extY conB true) 300 25 [.int .u64 x, .int .u64 y] [cmp false, cmp false, cmp false, cmp true]) (.int .i64 1) [(decide (x > y), true), (decide (x < y), false), (y != y, false), (x != x, false)] := ⟨by kernel_rfl, by kernel_rfl, by kernel_rfl, by kernel_rfl⟩
theorem cc_e (x y : Int) : Fits (reckon (tabOf Try.prog extY conB true) 300 25 [.int .u64 x, .int .u64 y] [cmp false, cmp false, cmp false, cmp false]) (.int .i64 0) [(decide (x > y), false), (decide (x < y), false), (y != y, false), (x != x, false)] := ⟨by kernel_rfl, by kernel_rfl, by kernel_rfl, by kernel_rfl⟩
theorem ones_xor {p : Int} (hp : U p) : bXor 18446744073709551615 p = 18446744073709551615 - p := by
  have e : BitVec.ofInt 64 18446744073709551615 = BitVec.allOnes 64 := by decide
  unfold bXor
  rw [e, BitVec.allOnes_xor]
  exact not_eq hp
theorem place_ok : AnsOk 26 (gU fun p => .int .u64 (plc p)) := gU_ok fun p hp w => by
  have hv : ([.int .u64 p].all (lt 0)) = true := rfl
  have T := tabY_ok conB_ok
  have kp : decide (U p) = true := decide_eq_true hp
  by_cases hs : p < 9223372036854775808
  · have hm : mag p = p := (mag_plc hp).2 hs
    have hf := pl_p p
    rw [bXor_sign hp, ng_plc hp hs] at hf
    exact fits_calls T hf (okCons (beq_t hm) (okL1 kp)) hv (by rfl) w
  · have hm : mag p ≠ p := fun h => hs ((mag_plc hp).1 h)
    have hf := pl_m p
    rw [ones_xor hp, show 18446744073709551615 - p = plc p by unfold plc; rw [if_neg hs]] at hf
    exact fits_calls T hf (okCons (beq_f hm) (okL1 kp)) hv (by rfl) w
theorem noNumber_calls (a b : Int) (ha : U a) (hb : U b) (w : World) : Calls Try.prog 22 #[.int .u64 a, .int .u64 b] w fun r w' => r = .returned (.bool (nnB a b)) ∧ Tidy w w' := by
  have hv : ([.int .u64 a, .int .u64 b].all (lt 0)) = true := rfl
  have T := tabY_ok conB_ok
  have ka : decide (U a) = true := decide_eq_true ha
  have kb : decide (U b) = true := decide_eq_true hb
  have kab : decide (U a ∧ U b) = true := decide_eq_true ⟨ha, hb⟩
  unfold nnB
  by_cases h1 : 3 < cl a
  · rw [decide_eq_true (.inl h1)]
    exact fits_calls T (nn_t a b) (okCons (decide_eq_true (by omega)) (okL1 ka)) hv (by rfl) w
  · by_cases h2 : 3 < cl b
    · rw [decide_eq_true (.inr h2)]
      exact fits_calls T (nn_ft a b) (okCons (decide_eq_true (by omega)) (okCons kb (okCons (decide_eq_false (by omega)) (okL1 ka)))) hv (by rfl) w
    · rw [decide_eq_false (by omega)]
      exact fits_calls T (nn_ff a b) (okCons (decide_eq_false (by omega)) (okCons kb (okCons (decide_eq_false (by omega)) (okL1 ka)))) hv (by rfl) w
theorem loudness_calls (a b : Int) (ha : U a) (hb : U b) (w : World) : Calls Try.prog 23 #[.int .u64 a, .int .u64 b] w fun r w' => r = .returned (.int .u8 (ldF a b)) ∧ Tidy w w' := by
  have hv : ([.int .u64 a, .int .u64 b].all (lt 0)) = true := rfl
  have T := tabY_ok conB_ok
  have ka : decide (U a) = true := decide_eq_true ha
  have kb : decide (U b) = true := decide_eq_true hb
  have kab : decide (U a ∧ U b) = true := decide_eq_true ⟨ha, hb⟩
  unfold ldF
  by_cases h1 : cl a = 5
  · rw [if_pos (.inl h1)]
    exact fits_calls T (ld_1 a b) (okCons (beq_t (by omega)) (okL1 ka)) hv (by rfl) w
  · by_cases h2 : cl b = 5
    · rw [if_pos (.inr h2)]
      exact fits_calls T (ld_2 a b) (okCons (beq_t (by omega)) (okCons kb (okCons (beq_f (by omega)) (okL1 ka)))) hv (by rfl) w
    · rw [if_neg (by omega)]
      exact fits_calls T (ld_3 a b) (okCons (beq_f (by omega)) (okCons kb (okCons (beq_f (by omega)) (okL1 ka)))) hv (by rfl) w
theorem onlyNumber_calls (a b : Int) (ha : U a) (hb : U b) (w : World) : Calls Try.prog 32 #[.int .u64 a, .int .u64 b] w fun r w' => r = .returned (.int .u64 (onP a b)) ∧ Tidy w w' := by
  have hv : ([.int .u64 a, .int .u64 b].all (lt 0)) = true := rfl
  have T := tabY_ok conB_ok
  have ka : decide (U a) = true := decide_eq_true ha
  have kb : decide (U b) = true := decide_eq_true hb
  have kab : decide (U a ∧ U b) = true := decide_eq_true ⟨ha, hb⟩
  unfold onP
  by_cases h1 : 3 < cl a
  · rw [if_neg (by omega)]
    by_cases h2 : 3 < cl b
    · rw [if_neg (by omega)]
      exact fits_calls T (on_3 a b) (okCons (decide_eq_true (by omega)) (okCons kb (okCons (decide_eq_true (by omega)) (okL1 ka)))) hv (by rfl) w
    · rw [if_pos h2]
      exact fits_calls T (on_2 a b) (okCons (decide_eq_false (by omega)) (okCons kb (okCons (decide_eq_true (by omega)) (okL1 ka)))) hv (by rfl) w
  · rw [if_pos h1]
    exact fits_calls T (on_1 a b) (okCons (decide_eq_false (by omega)) (okL1 ka)) hv (by rfl) w
theorem compareU_calls (x y : Int) (_hx : U x) (_hy : U y) (w : World) : Calls Try.prog 25 #[.int .u64 x, .int .u64 y] w fun r w' => r = .returned (.int .i64 (cmV x y)) ∧ Tidy w w' := by
  have hv : ([.int .u64 x, .int .u64 y].all (lt 0)) = true := rfl
  have T := tabY_ok conB_ok
  unfold cmV
  by_cases h : x < y
  · rw [if_pos h]
    exact fits_calls T (cc_l x y) (okCons (decide_eq_true h) (okCons (bne_f rfl) (okL1 (bne_f rfl)))) hv (by rfl) w
  · rw [if_neg h]
    by_cases h2 : x > y
    · rw [if_pos h2]
      exact fits_calls T (cc_g x y) (okCons (decide_eq_true h2) (okCons (decide_eq_false h) (okCons (bne_f rfl) (okL1 (bne_f rfl))))) hv (by rfl) w
    · rw [if_neg h2]
      exact fits_calls T (cc_e x y) (okCons (decide_eq_false h2) (okCons (decide_eq_false h) (okCons (bne_f rfl) (okL1 (bne_f rfl))))) hv (by rfl) w
def conO1 : Con := alt 26 (gU fun p => .int .u64 (plc p)) (alt 22 (gUUb nnB) (alt 23 (gUU (fun a b => .int .u8 (ldF a b)) fun _ _ => true) (alt 32 (gUU (fun a b => .int .u64 (onP a b)) fun _ _ => true) (alt 25 (gUU (fun x y => .int .i64 (cmV x y)) fun _ _ => true) conB))))
theorem conO1_ok : ConOk conO1 := alt_ok Try.func26 rfl place_ok (alt_ok Try.func22 rfl (gUUb_ok noNumber_calls) (alt_ok Try.func23 rfl (gUU_ok fun a b ha hb _ w => loudness_calls a b ha hb w) (alt_ok Try.func32 rfl (gUU_ok fun a b ha hb _ w => onlyNumber_calls a b ha hb w) (alt_ok Try.func25 rfl (gUU_ok fun a b ha hb _ w => compareU_calls a b ha hb w) conB_ok))))
end Go.Proofs.Ytfmfcbnhmkkibaa
