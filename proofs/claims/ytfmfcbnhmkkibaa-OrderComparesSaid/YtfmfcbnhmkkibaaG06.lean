/-
  Layer 10's order, the program's: the place of a pattern in the order of all, and what is no number, as calls in every world.
-/
import Derived.Test.YtfmfcbnhmkkibaaG05
import Derived.Test.YtfmfcbnhmkkibaaG03
namespace Go.Proofs.Ytfmfcbnhmkkibaa
open Go.KRun Go.Pt
set_option maxRecDepth 100000

/-- which of two words is less -/
def cmV (x y : Int) : Int := if x < y then -1 else if x > y then 1 else 0
theorem pl_p (p : Int) : Fits (reckon (tabOf Try.prog extY conB true) 300 26 [.int .u64 p] [cmp true]) (.int .u64 (bXor p 9223372036854775808)) [(mag p == p, true), lU p] := ⟨by kernel_rfl, by kernel_rfl, by kernel_rfl, by kernel_rfl⟩
theorem pl_m (p : Int) : Fits (reckon (tabOf Try.prog extY conB true) 300 26 [.int .u64 p] [cmp false]) (.int .u64 (bXor 18446744073709551615 p)) [(mag p == p, false), lU p] := ⟨by kernel_rfl, by kernel_rfl, by kernel_rfl, by kernel_rfl⟩
theorem nn_t (a b : Int) : Fits (reckon (tabOf Try.prog extY conB true) 300 22 [.int .u64 a, .int .u64 b] [cmp true]) (.bool true) [(decide (cl a > 3), true), lU a] := ⟨by kernel_rfl, by kernel_rfl, by kernel_rfl, by kernel_rfl⟩
theorem nn_ft (a b : Int) : Fits (reckon (tabOf Try.prog extY conB true) 300 22 [.int .u64 a, .int .u64 b] [cmp false, cmp true]) (.bool true) [(decide (cl b > 3), true), lU b, (decide (cl a > 3), false), lU a] := ⟨by kernel_rfl, by kernel_rfl, by kernel_rfl, by kernel_rfl⟩
theorem nn_ff (a b : Int) : Fits (reckon (tabOf Try.prog extY conB true) 300 22 [.int .u64 a, .int .u64 b] [cmp false, cmp false]) (.bool false) [(decide (cl b > 3), false), lU b, (decide (cl a > 3), false), lU a] := ⟨by kernel_rfl, by kernel_rfl, by kernel_rfl, by kernel_rfl⟩
theorem ld_1 (a b : Int) : Fits (reckon (tabOf Try.prog extY conB true) 300 23 [.int .u64 a, .int .u64 b] [cmp true]) (.int .u8 1) [(cl a == 5, true), lU a] := ⟨by kernel_rfl, by kernel_rfl, by kernel_rfl, by kernel_rfl⟩
theorem ld_2 (a b : Int) : Fits (reckon (tabOf Try.prog extY conB true) 300 23 [.int .u64 a, .int .u64 b] [cmp false, cmp true]) (.int .u8 1) [(cl b == 5, true), lU b, (cl a == 5, false), lU a] := ⟨by kernel_rfl, by kernel_rfl, by kernel_rfl, by kernel_rfl⟩
theorem ld_3 (a b : Int) : Fits (reckon (tabOf Try.prog extY conB true) 300 23 [.int .u64 a, .int .u64 b] [cmp false, cmp false]) (.int .u8 0) [(cl b == 5, false), lU b, (cl a == 5, false), lU a] := ⟨by kernel_rfl, by kernel_rfl, by kernel_rfl, by kernel_rfl⟩
theorem on_1 (a b : Int) : Fits (reckon (tabOf Try.prog extY conB true) 300 32 [.int .u64 a, .int .u64 b] [cmp false]) (.int .u64 a) [(decide (cl a > 3), false), lU a] := ⟨by kernel_rfl, by kernel_rfl, by kernel_rfl, by kernel_rfl⟩
theorem on_2 (a b : Int) : Fits (reckon (tabOf Try.prog extY conB true) 300 32 [.int .u64 a, .int .u64 b] [cmp true, cmp false]) (.int .u64 b) [(decide (cl b > 3), false), lU b, (decide (cl a > 3), true), lU a] := ⟨by kernel_rfl, by kernel_rfl, by kernel_rfl, by kernel_rfl⟩
theorem on_3 (a b : Int) : Fits (reckon (tabOf Try.prog extY conB true) 300 32 [.int .u64 a, .int .u64 b] [cmp true, cmp true]) (.int .u64 9221120237041090560) [(decide (cl b > 3), true), lU b, (decide (cl a > 3), true), lU a] := ⟨by kernel_rfl, by kernel_rfl, by kernel_rfl, by kernel_rfl⟩
theorem cc_l (x y : Int) : Fits (reckon (tabOf Try.prog extY conB true) 300 25 [.int .u64 x, .int .u64 y] [cmp false, cmp false, cmp true]) (.int .i64 (-1)) [(decide (x < y), true), (y != y, false), (x != x, false)] := ⟨by kernel_rfl, by kernel_rfl, by kernel_rfl, by kernel_rfl⟩
theorem cc_g (x y : Int) : Fits (reckon (tabOf Try.prog extY conB true) 300 25 [.int .u64 x, .int .u64 y] [cmp false, cmp false, cmp false, cmp true]) (.int .i64 1) [(decide (x > y), true), (decide (x < y), false), (y != y, false), (x != x, false)] := ⟨by kernel_rfl, by kernel_rfl, by kernel_rfl, by kernel_rfl⟩
theorem cc_e (x y : Int) : Fits (reckon (tabOf Try.prog extY conB true) 300 25 [.int .u64 x, .int .u64 y] [cmp false, cmp false, cmp false, cmp false]) (.int .i64 0) [(decide (x > y), false), (decide (x < y), false), (y != y, false), (x != x, false)] := ⟨by kernel_rfl, by kernel_rfl, by kernel_rfl, by kernel_rfl⟩
theorem ones_xor {p : Int} (hp : U p) : bXor 18446744073709551615 p = 18446744073709551615 - p := by
  have e : BitVec.ofInt 64 18446744073709551615 = BitVec.allOnes 64 := by decide
  unfold bXor
  rw [e, BitVec.allOnes_xor]
  exact not_eq hp
theorem place_ok : AnsOk 26 (gU fun p => .int .u64 (plc p)) := gU_ok fun p hp w => by
  have hv : ([.int .u64 p].all (lt 0)) = true := rfl
  have T := tabY_ok conB_ok
  have kp : decide (U p) = true := decide_eq_true hp
  by_cases hs : p < 9223372036854775808
  · have hm : mag p = p := (mag_plc hp).2 hs
    have hf := pl_p p
    rw [bXor_sign hp, ng_plc hp hs] at hf
    exact fits_calls T hf (okCons (beq_t hm) (okL1 kp)) hv (by rfl) w
  · have hm : mag p ≠ p := fun h => hs ((mag_plc hp).1 h)
    have hf := pl_m p
    rw [ones_xor hp, show 18446744073709551615 - p = plc p by unfold plc; rw [if_neg hs]] at hf
    exact fits_calls T hf (okCons (beq_f hm) (okL1 kp)) hv (by rfl) w
theorem noNumber_calls (a b : Int) (ha : U a) (hb : U b) (w : World) : Calls Try.prog 22 #[.int .u64 a, .int .u64 b] w fun r w' => r = .returned (.bool (nnB a b)) ∧ Tidy w w' := by
  have hv : ([.int .u64 a, .int .u64 b].all (lt 0)) = true := rfl
  have T := tabY_ok conB_ok
  have ka : decide (U a) = true := decide_eq_true ha
  have kb : decide (U b) = true := decide_eq_true hb
  have kab : decide (U a ∧ U b) = true := decide_eq_true ⟨ha, hb⟩
  unfold nnB
  by_cases h1 : 3 < cl a
  · rw [decide_eq_true (.inl h1)]
    exact fits_calls T (nn_t a b) (okCons (decide_eq_true (by omega)) (okL1 ka)) hv (by rfl) w
  · by_cases h2 : 3 < cl b
    · rw [decide_eq_true (.inr h2)]
      exact fits_calls T (nn_ft a b) (okCons (decide_eq_true (by omega)) (okCons kb (okCons (decide_eq_false (by omega)) (okL1 ka)))) hv (by rfl) w
    · rw [decide_eq_false (by omega)]
      exact fits_calls T (nn_ff a b) (okCons (decide_eq_false (by omega)) (okCons kb (okCons (decide_eq_false (by omega)) (okL1 ka)))) hv (by rfl) w
theorem loudness_calls (a b : Int) (ha : U a) (hb : U b) (w : World) : Calls Try.prog 23 #[.int .u64 a, .int .u64 b] w fun r w' => r = .returned (.int .u8 (ldF a b)) ∧ Tidy w w' := by
  have hv : ([.int .u64 a, .int .u64 b].all (lt 0)) = true := rfl
  have T := tabY_ok conB_ok
  have ka : decide (U a) = true := decide_eq_true ha
  have kb : decide (U b) = true := decide_eq_true hb
  have kab : decide (U a ∧ U b) = true := decide_eq_true ⟨ha, hb⟩
  unfold ldF
  by_cases h1 : cl a = 5
  · rw [if_pos (.inl h1)]
    exact fits_calls T (ld_1 a b) (okCons (beq_t (by omega)) (okL1 ka)) hv (by rfl) w
  · by_cases h2 : cl b = 5
    · rw [if_pos (.inr h2)]
      exact fits_calls T (ld_2 a b) (okCons (beq_t (by omega)) (okCons kb (okCons (beq_f (by omega)) (okL1 ka)))) hv (by rfl) w
    · rw [if_neg (by omega)]
      exact fits_calls T (ld_3 a b) (okCons (beq_f (by omega)) (okCons kb (okCons (beq_f (by omega)) (okL1 ka)))) hv (by rfl) w
theorem onlyNumber_calls (a b : Int) (ha : U a) (hb : U b) (w : World) : Calls Try.prog 32 #[.int .u64 a, .int .u64 b] w fun r w' => r = .returned (.int .u64 (onP a b)) ∧ Tidy w w' := by
  have hv : ([.int .u64 a, .int .u64 b].all (lt 0)) = true := rfl
  have T := tabY_ok conB_ok
  have ka : decide (U a) = true := decide_eq_true ha
  have kb : decide (U b) = true := decide_eq_true hb
  have kab : decide (U a ∧ U b) = true := decide_eq_true ⟨ha, hb⟩
  unfold onP
  by_cases h1 : 3 < cl a
  · rw [if_neg (by omega)]
    by_cases h2 : 3 < cl b
    · rw [if_neg (by omega)]
      exact fits_calls T (on_3 a b) (okCons (decide_eq_true (by omega)) (okCons kb (okCons (decide_eq_true (by omega)) (okL1 ka)))) hv (by rfl) w
    · rw [if_pos h2]
      exact fits_calls T (on_2 a b) (okCons (decide_eq_false (by omega)) (okCons kb (okCons (decide_eq_true (by omega)) (okL1 ka)))) hv (by rfl) w
  · rw [if_pos h1]
    exact fits_calls T (on_1 a b) (okCons (decide_eq_false (by omega)) (okL1 ka)) hv (by rfl) w
theorem compareU_calls (x y : Int) (_hx : U x) (_hy : U y) (w : World) : Calls Try.prog 25 #[.int .u64 x, .int .u64 y] w fun r w' => r = .returned (.int .i64 (cmV x y)) ∧ Tidy w w' := by
  have hv : ([.int .u64 x, .int .u64 y].all (lt 0)) = true := rfl
  have T := tabY_ok conB_ok
  unfold cmV
  by_cases h : x < y
  · rw [if_pos h]
    exact fits_calls T (cc_l x y) (okCons (decide_eq_true h) (okCons (bne_f rfl) (okL1 (bne_f rfl)))) hv (by rfl) w
  · rw [if_neg h]
    by_cases h2 : x > y
    · rw [if_pos h2]
      exact fits_calls T (cc_g x y) (okCons (decide_eq_true h2) (okCons (decide_eq_false h) (okCons (bne_f rfl) (okL1 (bne_f rfl))))) hv (by rfl) w
    · rw [if_neg h2]
      exact fits_calls T (cc_e x y) (okCons (decide_eq_false h2) (okCons (decide_eq_false h) (okCons (bne_f rfl) (okL1 (bne_f rfl))))) hv (by rfl) w
def conO1 : Con := alt 26 (gU fun p => .int .u64 (plc p)) (alt 22 (gUUb nnB) (alt 23 (gUU (fun a b => .int .u8 (ldF a b)) fun _ _ => true) (alt 32 (gUU (fun a b => .int .u64 (onP a b)) fun _ _ => true) (alt 25 (gUU (fun x y => .int .i64 (cmV x y)) fun _ _ => true) conB))))
theorem conO1_ok : ConOk conO1 := alt_ok Try.func26 rfl place_ok (alt_ok Try.func22 rfl (gUUb_ok noNumber_calls) (alt_ok Try.func23 rfl (gUU_ok fun a b ha hb _ w => loudness_calls a b ha hb w) (alt_ok Try.func32 rfl (gUU_ok fun a b ha hb _ w => onlyNumber_calls a b ha hb w) (alt_ok Try.func25 rfl (gUU_ok fun a b ha hb _ w => compareU_calls a b ha hb w) conB_ok))))
end Go.Proofs.Ytfmfcbnhmkkibaa

/-
  Layer 10's order, the program's: which is less, the less and the greater one, as calls in every world; the law's 'sure'.
-/
namespace Go.Proofs.Ytfmfcbnhmkkibaa
open Go.KRun Go.Pt
set_option maxRecDepth 100000

def vI2 (x y : Int) : Value := .tuple #[.int .i64 x, .int .u8 y]
def vU2 (x y : Int) : Value := .tuple #[.int .u64 x, .int .u8 y]
theorem tl_t (a b : Int) : Fits (reckon (tabOf Try.prog extY conO1 true) 300 20 [.int .u64 a, .int .u64 b] [cmp true]) (.bool true) [(decide (plc a ≤ plc b), true), lU b, lU a] := ⟨by kernel_rfl, by kernel_rfl, by kernel_rfl, by kernel_rfl⟩
theorem tl_f (a b : Int) : Fits (reckon (tabOf Try.prog extY conO1 true) 300 20 [.int .u64 a, .int .u64 b] [cmp false]) (.bool false) [(decide (plc a ≤ plc b), false), lU b, lU a] := ⟨by kernel_rfl, by kernel_rfl, by kernel_rfl, by kernel_rfl⟩
theorem co_n (a b : Int) : Fits (reckon (tabOf Try.prog extY conO1 true) 300 9 [.int .u64 a, .int .u64 b] [cmp true]) (vI2 2 (ldF a b)) [(true, true), (decide (U a ∧ U b), true), (nnB a b, true), (decide (U a ∧ U b), true)] := ⟨by kernel_rfl, by kernel_rfl, by kernel_rfl, by kernel_rfl⟩
theorem co_z (a b : Int) : Fits (reckon (tabOf Try.prog extY conO1 true) 300 9 [.int .u64 a, .int .u64 b] [cmp false, cmp true, cmp true]) (vI2 0 0) [(cl b == 0, true), lU b, (cl a == 0, true), lU a, (nnB a b, false), (decide (U a ∧ U b), true)] := ⟨by kernel_rfl, by kernel_rfl, by kernel_rfl, by kernel_rfl⟩
theorem co_1 (a b : Int) : Fits (reckon (tabOf Try.prog extY conO1 true) 300 9 [.int .u64 a, .int .u64 b] [cmp false, cmp true, cmp false]) (vI2 (cmV (plc a) (plc b)) 0) [(true, true), (decide (U (plc a) ∧ U (plc b)), true), lU b, lU a, (cl b == 0, false), lU b, (cl a == 0, true), lU a, (nnB a b, false), (decide (U a ∧ U b), true)] := ⟨by kernel_rfl, by kernel_rfl, by kernel_rfl, by kernel_rfl⟩
theorem co_2 (a b : Int) : Fits (reckon (tabOf Try.prog extY conO1 true) 300 9 [.int .u64 a, .int .u64 b] [cmp false, cmp false]) (vI2 (cmV (plc a) (plc b)) 0) [(true, true), (decide (U (plc a) ∧ U (plc b)), true), lU b, lU a, (cl a == 0, false), lU a, (nnB a b, false), (decide (U a ∧ U b), true)] := ⟨by kernel_rfl, by kernel_rfl, by kernel_rfl, by kernel_rfl⟩
theorem total_calls (a b : Int) (ha : U a) (hb : U b) (w : World) : Calls Try.prog 20 #[.int .u64 a, .int .u64 b] w fun r w' => r = .returned (.bool (tlB a b)) ∧ Tidy w w' := by
  have hv : ([.int .u64 a, .int .u64 b].all (lt 0)) = true := rfl
  have T := tabY_ok conO1_ok
  have ka : decide (U a) = true := decide_eq_true ha
  have kb : decide (U b) = true := decide_eq_true hb
  have kab : decide (U a ∧ U b) = true := decide_eq_true ⟨ha, hb⟩
  unfold tlB
  by_cases h : plc a ≤ plc b
  · rw [decide_eq_true h]
    exact fits_calls T (tl_t a b) (okCons (decide_eq_true h) (okCons kb (okL1 ka))) hv (by rfl) w
  · rw [decide_eq_false h]
    exact fits_calls T (tl_f a b) (okCons (decide_eq_false h) (okCons kb (okL1 ka))) hv (by rfl) w
theorem compare_calls (a b : Int) (ha : U a) (hb : U b) (w : World) : Calls Try.prog 9 #[.int .u64 a, .int .u64 b] w fun r w' => r = .returned (vI2 (coV a b) (coF a b)) ∧ Tidy w w' := by
  have hv : ([.int .u64 a, .int .u64 b].all (lt 0)) = true := rfl
  have T := tabY_ok conO1_ok
  have ka : decide (U a) = true := decide_eq_true ha
  have kb : decide (U b) = true := decide_eq_true hb
  have kab : decide (U a ∧ U b) = true := decide_eq_true ⟨ha, hb⟩
  have kp : decide (U (plc a) ∧ U (plc b)) = true := decide_eq_true ⟨plc_bd ha, plc_bd hb⟩
  unfold coV coF
  by_cases hn : 3 < cl a ∨ 3 < cl b
  · rw [if_pos hn, if_pos hn]
    exact fits_calls T (co_n a b) (okCons rfl (okCons kab (okCons (decide_eq_true hn) (okL1 kab)))) hv (by rfl) w
  rw [if_neg hn, if_neg hn]
  by_cases ha : cl a = 0
  · by_cases hb : cl b = 0
    · rw [if_pos ⟨ha, hb⟩]
      exact fits_calls T (co_z a b) (okCons (beq_t hb) (okCons kb (okCons (beq_t ha) (okCons ka (okCons (decide_eq_false hn) (okL1 kab)))))) hv (by rfl) w
    · rw [if_neg (fun h => hb h.2)]
      exact fits_calls T (co_1 a b) (okCons rfl (okCons kp (okCons kb (okCons ka (okCons (beq_f hb) (okCons kb (okCons (beq_t ha) (okCons ka (okCons (decide_eq_false hn) (okL1 kab)))))))))) hv (by rfl) w
  · rw [if_neg (fun h => ha h.1)]
    exact fits_calls T (co_2 a b) (okCons rfl (okCons kp (okCons kb (okCons ka (okCons (beq_f ha) (okCons ka (okCons (decide_eq_false hn) (okL1 kab)))))))) hv (by rfl) w
def conO2 : Con := alt 20 (gUUb tlB) (alt 9 (gUU (fun a b => vI2 (coV a b) (coF a b)) fun _ _ => true) conO1)
theorem conO2_ok : ConOk conO2 := alt_ok Try.func20 rfl (gUUb_ok total_calls) (alt_ok Try.func9 rfl (gUU_ok fun a b ha hb _ w => compare_calls a b ha hb w) conO1_ok)
theorem si_t (a b : Int) : Fits (reckon (tabOf Try.prog extY conO2 true) 300 11 [.int .u64 a, .int .u64 b] [cmp true]) (vI2 2 1) [(coV a b == 2, true), (true, true), (decide (U a ∧ U b), true)] := ⟨by kernel_rfl, by kernel_rfl, by kernel_rfl, by kernel_rfl⟩
theorem si_f (a b : Int) : Fits (reckon (tabOf Try.prog extY conO2 true) 300 11 [.int .u64 a, .int .u64 b] [cmp false]) (vI2 (coV a b) 0) [(coV a b == 2, false), (true, true), (decide (U a ∧ U b), true)] := ⟨by kernel_rfl, by kernel_rfl, by kernel_rfl, by kernel_rfl⟩
theorem mi_n (a b : Int) : Fits (reckon (tabOf Try.prog extY conO2 true) 300 13 [.int .u64 a, .int .u64 b] [cmp true]) (vU2 9221120237041090560 (ldF a b)) [(true, true), (decide (U a ∧ U b), true), (nnB a b, true), (decide (U a ∧ U b), true)] := ⟨by kernel_rfl, by kernel_rfl, by kernel_rfl, by kernel_rfl⟩
theorem mi_t (a b : Int) : Fits (reckon (tabOf Try.prog extY conO2 true) 300 13 [.int .u64 a, .int .u64 b] [cmp false, cmp true]) (vU2 a 0) [(tlB a b, true), (decide (U a ∧ U b), true), (nnB a b, false), (decide (U a ∧ U b), true)] := ⟨by kernel_rfl, by kernel_rfl, by kernel_rfl, by kernel_rfl⟩
theorem mi_f (a b : Int) : Fits (reckon (tabOf Try.prog extY conO2 true) 300 13 [.int .u64 a, .int .u64 b] [cmp false, cmp false]) (vU2 b 0) [(tlB a b, false), (decide (U a ∧ U b), true), (nnB a b, false), (decide (U a ∧ U b), true)] := ⟨by kernel_rfl, by kernel_rfl, by kernel_rfl, by kernel_rfl⟩
theorem ma_n (a b : Int) : Fits (reckon (tabOf Try.prog extY conO2 true) 300 15 [.int .u64 a, .int .u64 b] [cmp true]) (vU2 9221120237041090560 (ldF a b)) [(true, true), (decide (U a ∧ U b), true), (nnB a b, true), (decide (U a ∧ U b), true)] := ⟨by kernel_rfl, by kernel_rfl, by kernel_rfl, by kernel_rfl⟩
theorem ma_t (a b : Int) : Fits (reckon (tabOf Try.prog extY conO2 true) 300 15 [.int .u64 a, .int .u64 b] [cmp false, cmp true]) (vU2 b 0) [(tlB a b, true), (decide (U a ∧ U b), true), (nnB a b, false), (decide (U a ∧ U b), true)] := ⟨by kernel_rfl, by kernel_rfl, by kernel_rfl, by kernel_rfl⟩
theorem ma_f (a b : Int) : Fits (reckon (tabOf Try.prog extY conO2 true) 300 15 [.int .u64 a, .int .u64 b] [cmp false, cmp false]) (vU2 a 0) [(tlB a b, false), (decide (U a ∧ U b), true), (nnB a b, false), (decide (U a ∧ U b), true)] := ⟨by kernel_rfl, by kernel_rfl, by kernel_rfl, by kernel_rfl⟩
theorem signal_calls (a b : Int) (ha : U a) (hb : U b) (w : World) : Calls Try.prog 11 #[.int .u64 a, .int .u64 b] w fun r w' => r = .returned (vI2 (coV a b) (siF a b)) ∧ Tidy w w' := by
  have hv : ([.int .u64 a, .int .u64 b].all (lt 0)) = true := rfl
  have T := tabY_ok conO2_ok
  have ka : decide (U a) = true := decide_eq_true ha
  have kb : decide (U b) = true := decide_eq_true hb
  have kab : decide (U a ∧ U b) = true := decide_eq_true ⟨ha, hb⟩
  by_cases hn : 3 < cl a ∨ 3 < cl b
  · rw [coV_nn.2 hn, show siF a b = 1 by unfold siF; rw [if_pos hn]]
    exact fits_calls T (si_t a b) (okCons (beq_t (coV_nn.2 hn)) (okCons rfl (okL1 kab))) hv (by rfl) w
  · rw [show siF a b = 0 by unfold siF; rw [if_neg hn]]
    exact fits_calls T (si_f a b) (okCons (beq_f fun h => hn (coV_nn.1 h)) (okCons rfl (okL1 kab))) hv (by rfl) w
theorem min_calls (a b : Int) (ha : U a) (hb : U b) (w : World) : Calls Try.prog 13 #[.int .u64 a, .int .u64 b] w fun r w' => r = .returned (vU2 (miP a b) (coF a b)) ∧ Tidy w w' := by
  have hv : ([.int .u64 a, .int .u64 b].all (lt 0)) = true := rfl
  have T := tabY_ok conO2_ok
  have ka : decide (U a) = true := decide_eq_true ha
  have kb : decide (U b) = true := decide_eq_true hb
  have kab : decide (U a ∧ U b) = true := decide_eq_true ⟨ha, hb⟩
  unfold miP coF lsP
  by_cases hn : 3 < cl a ∨ 3 < cl b
  · rw [if_pos hn, if_pos hn]
    exact fits_calls T (mi_n a b) (okCons rfl (okCons kab (okCons (decide_eq_true hn) (okL1 kab)))) hv (by rfl) w
  rw [if_neg hn, if_neg hn]
  by_cases h : plc a ≤ plc b
  · rw [if_pos h]
    exact fits_calls T (mi_t a b) (okCons (decide_eq_true h) (okCons kab (okCons (decide_eq_false hn) (okL1 kab)))) hv (by rfl) w
  · rw [if_neg h]
    exact fits_calls T (mi_f a b) (okCons (decide_eq_false h) (okCons kab (okCons (decide_eq_false hn) (okL1 kab)))) hv (by rfl) w
theorem max_calls (a b : Int) (ha : U a) (hb : U b) (w : World) : Calls Try.prog 15 #[.int .u64 a, .int .u64 b] w fun r w' => r = .returned (vU2 (maP a b) (coF a b)) ∧ Tidy w w' := by
  have hv : ([.int .u64 a, .int .u64 b].all (lt 0)) = true := rfl
  have T := tabY_ok conO2_ok
  have ka : decide (U a) = true := decide_eq_true ha
  have kb : decide (U b) = true := decide_eq_true hb
  have kab : decide (U a ∧ U b) = true := decide_eq_true ⟨ha, hb⟩
  unfold maP coF grP
  by_cases hn : 3 < cl a ∨ 3 < cl b
  · rw [if_pos hn, if_pos hn]
    exact fits_calls T (ma_n a b) (okCons rfl (okCons kab (okCons (decide_eq_true hn) (okL1 kab)))) hv (by rfl) w
  rw [if_neg hn, if_neg hn]
  by_cases h : plc a ≤ plc b
  · rw [if_pos h]
    exact fits_calls T (ma_t a b) (okCons (decide_eq_true h) (okCons kab (okCons (decide_eq_false hn) (okL1 kab)))) hv (by rfl) w
  · rw [if_neg h]
    exact fits_calls T (ma_f a b) (okCons (decide_eq_false h) (okCons kab (okCons (decide_eq_false hn) (okL1 kab)))) hv (by rfl) w
def conO3 : Con := alt 13 (gUU (fun a b => vU2 (miP a b) (coF a b)) fun _ _ => true) (alt 15 (gUU (fun a b => vU2 (maP a b) (coF a b)) fun _ _ => true) conO2)
theorem conO3_ok : ConOk conO3 := alt_ok Try.func13 rfl (gUU_ok fun a b ha hb _ w => min_calls a b ha hb w) (alt_ok Try.func15 rfl (gUU_ok fun a b ha hb _ w => max_calls a b ha hb w) conO2_ok)
theorem mn_n (a b : Int) : Fits (reckon (tabOf Try.prog extY conO3 true) 300 16 [.int .u64 a, .int .u64 b] [cmp true]) (vU2 (onP a b) (ldF a b)) [(true, true), (decide (U a ∧ U b), true), (true, true), (decide (U a ∧ U b), true), (nnB a b, true), (decide (U a ∧ U b), true)] := ⟨by kernel_rfl, by kernel_rfl, by kernel_rfl, by kernel_rfl⟩
theorem mn_f (a b : Int) : Fits (reckon (tabOf Try.prog extY conO3 true) 300 16 [.int .u64 a, .int .u64 b] [cmp false]) (vU2 (miP a b) (coF a b)) [(true, true), (decide (U a ∧ U b), true), (nnB a b, false), (decide (U a ∧ U b), true)] := ⟨by kernel_rfl, by kernel_rfl, by kernel_rfl, by kernel_rfl⟩
theorem mx_n (a b : Int) : Fits (reckon (tabOf Try.prog extY conO3 true) 300 17 [.int .u64 a, .int .u64 b] [cmp true]) (vU2 (onP a b) (ldF a b)) [(true, true), (decide (U a ∧ U b), true), (true, true), (decide (U a ∧ U b), true), (nnB a b, true), (decide (U a ∧ U b), true)] := ⟨by kernel_rfl, by kernel_rfl, by kernel_rfl, by kernel_rfl⟩
theorem mx_f (a b : Int) : Fits (reckon (tabOf Try.prog extY conO3 true) 300 17 [.int .u64 a, .int .u64 b] [cmp false]) (vU2 (maP a b) (coF a b)) [(true, true), (decide (U a ∧ U b), true), (nnB a b, false), (decide (U a ∧ U b), true)] := ⟨by kernel_rfl, by kernel_rfl, by kernel_rfl, by kernel_rfl⟩
theorem ms_n (a b : Int) : Fits (reckon (tabOf Try.prog extY conO3 true) 300 18 [.int .u64 a, .int .u64 b] [cmp true]) (vU2 (miP a b) (coF a b)) [(true, true), (decide (U a ∧ U b), true), (nnB a b, true), (decide (U a ∧ U b), true)] := ⟨by kernel_rfl, by kernel_rfl, by kernel_rfl, by kernel_rfl⟩
theorem ms_e (a b : Int) : Fits (reckon (tabOf Try.prog extY conO3 true) 300 18 [.int .u64 a, .int .u64 b] [cmp false, cmp true]) (vU2 (miP a b) (coF a b)) [(true, true), (decide (U a ∧ U b), true), (mag a == mag b, true), lU b, lU a, (nnB a b, false), (decide (U a ∧ U b), true)] := ⟨by kernel_rfl, by kernel_rfl, by kernel_rfl, by kernel_rfl⟩
theorem ms_t (a b : Int) : Fits (reckon (tabOf Try.prog extY conO3 true) 300 18 [.int .u64 a, .int .u64 b] [cmp false, cmp false, cmp true]) (vU2 a 0) [(tlB (mag a) (mag b), true), (decide (U (mag a) ∧ U (mag b)), true), lU b, lU a, (mag a == mag b, false), lU b, lU a, (nnB a b, false), (decide (U a ∧ U b), true)] := ⟨by kernel_rfl, by kernel_rfl, by kernel_rfl, by kernel_rfl⟩
theorem ms_f (a b : Int) : Fits (reckon (tabOf Try.prog extY conO3 true) 300 18 [.int .u64 a, .int .u64 b] [cmp false, cmp false, cmp false]) (vU2 b 0) [(tlB (mag a) (mag b), false), (decide (U (mag a) ∧ U (mag b)), true), lU b, lU a, (mag a == mag b, false), lU b, lU a, (nnB a b, false), (decide (U a ∧ U b), true)] := ⟨by kernel_rfl, by kernel_rfl, by kernel_rfl, by kernel_rfl⟩
theorem mt_n (a b : Int) : Fits (reckon (tabOf Try.prog extY conO3 true) 300 19 [.int .u64 a, .int .u64 b] [cmp true]) (vU2 (maP a b) (coF a b)) [(true, true), (decide (U a ∧ U b), true), (nnB a b, true), (decide (U a ∧ U b), true)] := ⟨by kernel_rfl, by kernel_rfl, by kernel_rfl, by kernel_rfl⟩
theorem mt_e (a b : Int) : Fits (reckon (tabOf Try.prog extY conO3 true) 300 19 [.int .u64 a, .int .u64 b] [cmp false, cmp true]) (vU2 (maP a b) (coF a b)) [(true, true), (decide (U a ∧ U b), true), (mag a == mag b, true), lU b, lU a, (nnB a b, false), (decide (U a ∧ U b), true)] := ⟨by kernel_rfl, by kernel_rfl, by kernel_rfl, by kernel_rfl⟩
theorem mt_t (a b : Int) : Fits (reckon (tabOf Try.prog extY conO3 true) 300 19 [.int .u64 a, .int .u64 b] [cmp false, cmp false, cmp true]) (vU2 b 0) [(tlB (mag a) (mag b), true), (decide (U (mag a) ∧ U (mag b)), true), lU b, lU a, (mag a == mag b, false), lU b, lU a, (nnB a b, false), (decide (U a ∧ U b), true)] := ⟨by kernel_rfl, by kernel_rfl, by kernel_rfl, by kernel_rfl⟩
theorem mt_f (a b : Int) : Fits (reckon (tabOf Try.prog extY conO3 true) 300 19 [.int .u64 a, .int .u64 b] [cmp false, cmp false, cmp false]) (vU2 a 0) [(tlB (mag a) (mag b), false), (decide (U (mag a) ∧ U (mag b)), true), lU b, lU a, (mag a == mag b, false), lU b, lU a, (nnB a b, false), (decide (U a ∧ U b), true)] := ⟨by kernel_rfl, by kernel_rfl, by kernel_rfl, by kernel_rfl⟩
theorem mn_calls (a b : Int) (ha : U a) (hb : U b) (w : World) : Calls Try.prog 16 #[.int .u64 a, .int .u64 b] w fun r w' => r = .returned (vU2 (mnP a b) (coF a b)) ∧ Tidy w w' := by
  have hv : ([.int .u64 a, .int .u64 b].all (lt 0)) = true := rfl
  have T := tabY_ok conO3_ok
  have ka : decide (U a) = true := decide_eq_true ha
  have kb : decide (U b) = true := decide_eq_true hb
  have kab : decide (U a ∧ U b) = true := decide_eq_true ⟨ha, hb⟩
  by_cases hn : 3 < cl a ∨ 3 < cl b
  · unfold mnP coF
    rw [if_pos hn, if_pos hn]
    exact fits_calls T (mn_n a b) (okCons rfl (okCons kab (okCons rfl (okCons kab (okCons (decide_eq_true hn) (okL1 kab)))))) hv (by rfl) w
  · have e : mnP a b = miP a b := by unfold mnP miP; rw [if_neg hn, if_neg hn]
    rw [e]
    exact fits_calls T (mn_f a b) (okCons rfl (okCons kab (okCons (decide_eq_false hn) (okL1 kab)))) hv (by rfl) w
theorem mx_calls (a b : Int) (ha : U a) (hb : U b) (w : World) : Calls Try.prog 17 #[.int .u64 a, .int .u64 b] w fun r w' => r = .returned (vU2 (mxP a b) (coF a b)) ∧ Tidy w w' := by
  have hv : ([.int .u64 a, .int .u64 b].all (lt 0)) = true := rfl
  have T := tabY_ok conO3_ok
  have ka : decide (U a) = true := decide_eq_true ha
  have kb : decide (U b) = true := decide_eq_true hb
  have kab : decide (U a ∧ U b) = true := decide_eq_true ⟨ha, hb⟩
  by_cases hn : 3 < cl a ∨ 3 < cl b
  · unfold mxP coF
    rw [if_pos hn, if_pos hn]
    exact fits_calls T (mx_n a b) (okCons rfl (okCons kab (okCons rfl (okCons kab (okCons (decide_eq_true hn) (okL1 kab)))))) hv (by rfl) w
  · have e : mxP a b = maP a b := by unfold mxP maP; rw [if_neg hn, if_neg hn]
    rw [e]
    exact fits_calls T (mx_f a b) (okCons rfl (okCons kab (okCons (decide_eq_false hn) (okL1 kab)))) hv (by rfl) w
theorem ms_calls (a b : Int) (ha : U a) (hb : U b) (w : World) : Calls Try.prog 18 #[.int .u64 a, .int .u64 b] w fun r w' => r = .returned (vU2 (msP a b) (coF a b)) ∧ Tidy w w' := by
  have hv : ([.int .u64 a, .int .u64 b].all (lt 0)) = true := rfl
  have T := tabY_ok conO3_ok
  have ka : decide (U a) = true := decide_eq_true ha
  have kb : decide (U b) = true := decide_eq_true hb
  have kab : decide (U a ∧ U b) = true := decide_eq_true ⟨ha, hb⟩
  by_cases hn : 3 < cl a ∨ 3 < cl b
  · have e : msP a b = miP a b := by unfold msP miP; rw [if_pos hn, if_pos hn]
    rw [e]
    exact fits_calls T (ms_n a b) (okCons rfl (okCons kab (okCons (decide_eq_true hn) (okL1 kab)))) hv (by rfl) w
  by_cases he : mag a = mag b
  · have e : msP a b = miP a b := by unfold msP miP; rw [if_neg hn, if_neg hn, if_pos he]
    rw [e]
    exact fits_calls T (ms_e a b) (okCons rfl (okCons kab (okCons (beq_t he) (okCons kb (okCons ka (okCons (decide_eq_false hn) (okL1 kab))))))) hv (by rfl) w
  have km : decide (U (mag a) ∧ U (mag b)) = true := decide_eq_true ⟨U_mag a, U_mag b⟩
  unfold msP coF
  rw [if_neg hn, if_neg hn, if_neg he]
  by_cases h : plc (mag a) ≤ plc (mag b)
  · rw [if_pos (plc_mag.1 h)]
    exact fits_calls T (ms_t a b) (okCons (decide_eq_true h) (okCons km (okCons kb (okCons ka (okCons (beq_f he) (okCons kb (okCons ka (okCons (decide_eq_false hn) (okL1 kab))))))))) hv (by rfl) w
  · rw [if_neg (fun h' => h (plc_mag.2 h'))]
    exact fits_calls T (ms_f a b) (okCons (decide_eq_false h) (okCons km (okCons kb (okCons ka (okCons (beq_f he) (okCons kb (okCons ka (okCons (decide_eq_false hn) (okL1 kab))))))))) hv (by rfl) w
theorem mt_calls (a b : Int) (ha : U a) (hb : U b) (w : World) : Calls Try.prog 19 #[.int .u64 a, .int .u64 b] w fun r w' => r = .returned (vU2 (mtP a b) (coF a b)) ∧ Tidy w w' := by
  have hv : ([.int .u64 a, .int .u64 b].all (lt 0)) = true := rfl
  have T := tabY_ok conO3_ok
  have ka : decide (U a) = true := decide_eq_true ha
  have kb : decide (U b) = true := decide_eq_true hb
  have kab : decide (U a ∧ U b) = true := decide_eq_true ⟨ha, hb⟩
  by_cases hn : 3 < cl a ∨ 3 < cl b
  · have e : mtP a b = maP a b := by unfold mtP maP; rw [if_pos hn, if_pos hn]
    rw [e]
    exact fits_calls T (mt_n a b) (okCons rfl (okCons kab (okCons (decide_eq_true hn) (okL1 kab)))) hv (by rfl) w
  by_cases he : mag a = mag b
  · have e : mtP a b = maP a b := by unfold mtP maP; rw [if_neg hn, if_neg hn, if_pos he]
    rw [e]
    exact fits_calls T (mt_e a b) (okCons rfl (okCons kab (okCons (beq_t he) (okCons kb (okCons ka (okCons (decide_eq_false hn) (okL1 kab))))))) hv (by rfl) w
  have km : decide (U (mag a) ∧ U (mag b)) = true := decide_eq_true ⟨U_mag a, U_mag b⟩
  unfold mtP coF
  rw [if_neg hn, if_neg hn, if_neg he]
  by_cases h : plc (mag a) ≤ plc (mag b)
  · rw [if_pos (plc_mag.1 h)]
    exact fits_calls T (mt_t a b) (okCons (decide_eq_true h) (okCons km (okCons kb (okCons ka (okCons (beq_f he) (okCons kb (okCons ka (okCons (decide_eq_false hn) (okL1 kab))))))))) hv (by rfl) w
  · rw [if_neg (fun h' => h (plc_mag.2 h'))]
    exact fits_calls T (mt_f a b) (okCons (decide_eq_false h) (okCons km (okCons kb (okCons ka (okCons (beq_f he) (okCons kb (okCons ka (okCons (decide_eq_false hn) (okL1 kab))))))))) hv (by rfl) w
def conO4 : Con := alt 16 (gUU (fun a b => vU2 (mnP a b) (coF a b)) fun _ _ => true) (alt 17 (gUU (fun a b => vU2 (mxP a b) (coF a b)) fun _ _ => true) (alt 18 (gUU (fun a b => vU2 (msP a b) (coF a b)) fun _ _ => true) (alt 19 (gUU (fun a b => vU2 (mtP a b) (coF a b)) fun _ _ => true) (alt 11 (gUU (fun a b => vI2 (coV a b) (siF a b)) fun _ _ => true) conO3))))
theorem conO4_ok : ConOk conO4 := alt_ok Try.func16 rfl (gUU_ok fun a b ha hb _ w => mn_calls a b ha hb w) (alt_ok Try.func17 rfl (gUU_ok fun a b ha hb _ w => mx_calls a b ha hb w) (alt_ok Try.func18 rfl (gUU_ok fun a b ha hb _ w => ms_calls a b ha hb w) (alt_ok Try.func19 rfl (gUU_ok fun a b ha hb _ w => mt_calls a b ha hb w) (alt_ok Try.func11 rfl (gUU_ok fun a b ha hb _ w => signal_calls a b ha hb w) conO3_ok))))
theorem sure10_n : coF 0 9223372036854775808 = 0 ∧ coV 0 9223372036854775808 = 0 ∧ miP 0 9223372036854775808 = 9223372036854775808 := ⟨by decide, by decide, by decide⟩
theorem sure10 : Fits (reckon (tabOf Try.prog extY conO4 true) 300 12 [] [cmp true, cmp true, cmp true, cmp true]) (.bool true) [(coF 0 9223372036854775808 == 0, true), (coV 0 9223372036854775808 == 0, true), (coF 0 9223372036854775808 == 0, true), (miP 0 9223372036854775808 == 9223372036854775808, true), (true, true), (decide (U 0 ∧ U 9223372036854775808), true), (true, true), (decide (U 0 ∧ U 9223372036854775808), true)] := ⟨by kernel_rfl, by kernel_rfl, by kernel_rfl, by kernel_rfl⟩
def gSure10 : Ans := fun vals s => match vals with | [] => some (.bool true, s, []) | _ => none
theorem gSure10_ok : AnsOk 12 gSure10 := by
  intro vals s v s' lg h hl w
  unfold gSure10 at h
  split at h
  · cases h
    obtain ⟨n1, n2, n3⟩ := sure10_n
    exact fits_calls (tabY_ok conO4_ok) sure10 (okCons (beq_t n1) (okCons (beq_t n2) (okCons (beq_t n1) (okCons (beq_t n3) (okCons rfl (okCons (by decide) (okCons rfl (okL1 (by decide))))))))) (by rfl) (by rfl) w
  · cases h
def conO5 : Con := alt 12 gSure10 conO4
theorem conO5_ok : ConOk conO5 := alt_ok Try.func12 rfl gSure10_ok conO4_ok
end Go.Proofs.Ytfmfcbnhmkkibaa

/-
  A RUN THAT THE KERNEL RECKONS, IX: code taken piece by piece, where a loop goes round as often as a letter says: what a piece comes to from a state of the reckoner's, in every world ('Runs'), and the rules: a piece that is reckoned, one behind the other, a block, a loop with an invariant; and a call out of its body.
-/
namespace Go.KRun
open Go.RowKit

/-- From state x the code c ends, in one of the ways that 'Post' tells. -/
def Runs (T : Tab) (c : Code) (x : Lf) (Post : Ex → Lf → Prop) : Prop :=
  ∀ m B a w, Rel m B x a w → ∀ Q : Exit → Act → World → Prop, (∀ e y, Post e y → ∀ a' w', Reach m B x.2.1.n w y a' w' → Q (out e) a' w') → c.wp T.P Q a w

theorem Runs.mono {T : Tab} {c : Code} {x : Lf} {P P' : Ex → Lf → Prop} (h : Runs T c x P) (hp : ∀ e y, P e y → P' e y) : Runs T c x P' :=
  fun m B a w R Q hQ => h m B a w R Q fun e y he => hQ e y (hp e y he)

/-- the decisions that are told ahead are no part of the state -/
theorem Runs.script {T : Tab} {c : Code} {t : List Value} {h : Hp} {s s' : List Dec} {P : Ex → Lf → Prop} (hr : Runs T c (t, h, s) P) : Runs T c (t, h, s') P :=
  fun m B a w R Q hQ => hr m B a w ⟨R.tmps, R.dfr, R.emb, R.wf⟩ Q hQ

theorem Runs.ev {T : Tab} (hT : TabOk T) {n : Nat} {c : Code} {x x' : Lf} {e : Ex} {L : Lg} (h : evC T n false c x ⟨[], [], []⟩ = some (e, x', L)) (hL : L.ok) : Runs T c x fun e' y => e' = e ∧ y = x' :=
  fun m B a w R Q hQ => ((evC_ok hT n).1 c x _ e x' L h hL).2 m B a w R Q fun a' w' hR => hQ e x' ⟨rfl, rfl⟩ a' w' hR

theorem Runs.seq {T : Tab} {c1 c2 : Code} {x : Lf} {P1 P : Ex → Lf → Prop} (h1 : Runs T c1 x P1) (h2 : ∀ y, P1 none y → Runs T c2 y P) (h3 : ∀ e y, P1 (some e) y → P (some e) y) : Runs T (.seq c1 c2) x P := by
  intro m B a w R Q hQ
  refine wp_seq (h1 m B a w R _ fun e y he a' w' hR => ?_)
  match e, he with
  | none, he =>
    obtain ⟨m', k1, k2, k3, k4⟩ := hR
    exact h2 y he m' B a' w' k2 Q fun e' y' he' a'' w'' hR' => hQ e' y' he' a'' w'' (Reach.trans k1 k3 k4 hR')
  | some none, he => exact hQ _ _ (h3 none y he) a' w' hR
  | some (some id), he => exact hQ _ _ (h3 (some id) y he) a' w' hR

theorem Runs.block {T : Tab} {c : Code} {id : Nat} {x : Lf} {P1 P : Ex → Lf → Prop} (h1 : Runs T c x P1) (h2 : ∀ y, P1 none y → P none y) (h3 : ∀ y, P1 (some none) y → P (some none) y)
    (h4 : ∀ y, P1 (some (some id)) y → P none y) (h5 : ∀ id' y, id' ≠ id → P1 (some (some id')) y → P (some (some id')) y) : Runs T (.block id c) x P := by
  intro m B a w R Q hQ
  refine wp_block (h1 m B a w R _ fun e y he a' w' hR => ?_)
  match e, he with
  | none, he => exact hQ _ _ (h2 y he) a' w' hR
  | some none, he => exact hQ _ _ (h3 y he) a' w' hR
  | some (some id'), he =>
    simp only [out, Exit.inBlock]
    by_cases hid : id' = id
    · subst hid
      rw [if_pos rfl]
      exact hQ _ _ (h4 y he) a' w' hR
    · rw [if_neg hid]
      exact hQ _ _ (h5 id' y hid he) a' w' hR

/-- a loop: 'Inv n x': at its head in state x, at most n rounds are left -/
theorem Runs.loop {T : Tab} {c : Code} {P : Ex → Lf → Prop} (Inv : Nat → Lf → Prop) (round : ∀ n x, Inv n x → Runs T c x fun e y => match e with | none => ∃ n', n' < n ∧ Inv n' y | some e => P (some e) y) {n : Nat} {x : Lf} (h0 : Inv n x) :
    Runs T (.loop c) x P := by
  have key : ∀ N n x, n < N → Inv n x → ∀ m B a w, Rel m B x a w → ∀ Q : Exit → Act → World → Prop, (∀ e y, P e y → ∀ a' w', Reach m B x.2.1.n w y a' w' → Q (out e) a' w') → Code.rounds T.P c Q N a w := by
    intro N
    induction N with
    | zero => intro n x hn; omega
    | succ N ih =>
      intro n x hn hI m B a w R Q hQ
      rw [rounds_succ]
      refine round n x hI m B a w R _ fun e y he a' w' hR => ?_
      match e, he with
      | none, he =>
        obtain ⟨n', hn', hI'⟩ := he
        obtain ⟨m', k1, k2, k3, k4⟩ := hR
        exact ih n' y (by omega) hI' m' B a' w' k2 Q fun e' y' he' a'' w'' hR' => hQ e' y' he' a'' w'' (Reach.trans k1 k3 k4 hR')
      | some none, he => exact hQ _ _ he a' w' hR
      | some (some id), he => exact hQ _ _ he a' w' hR
  intro m B a w R Q hQ
  exact wp_loop_rounds (n + 1) (key (n + 1) n x (by omega) h0 m B a w R Q hQ)

/-- a call out of its body -/
theorem calls_of_runs {T : Tab} {f : Nat} {F : Func} {c : Code} (hF : T.P.funcs[f]? = some F) (hc : F.body = some c) {vals : List Value} {v : Value} (hvals : (vals.all (lt 0)) = true) (hv : lt 0 v = true)
    (h : Runs T c (vals ++ List.replicate (F.ntmps - vals.length) undef, ⟨0, []⟩, []) fun e y => (e = none ∨ e = some none) ∧ resS T.P F y.1 y.2.1 = some v) (w : World) :
    Calls T.P f vals.toArray w fun e w' => e = .returned v ∧ Tidy w w' := by
  have E : Emb (fun b => (b, 0)) w.heap.size ⟨0, []⟩ w :=
    Emb.none w
  have hst : ∀ y ∈ vals, lt 0 y = true := List.all_eq_true.1 hvals
  have e0 : vals.map (mv fun b => (b, 0)) = vals := (List.map_congr_left fun y hy => mv_still (hst y hy)).trans (List.map_id' _)
  refine calls_of_wp hF hc ?_
  have R : Rel (fun b => (b, 0)) w.heap.size (vals ++ List.replicate (F.ntmps - vals.length) undef, ⟨0, []⟩, []) { tmps := vals.toArray ++ Array.replicate (F.ntmps - vals.toArray.size) undef, defers := [] } w := by
    refine ⟨?_, rfl, E, ?_⟩
    · simp [mv_undef, e0]
    · intro y hy
      rcases List.mem_append.1 hy with hy | hy
      · exact hst y hy
      · rw [List.eq_of_mem_replicate hy]; simp [undef, lt]
  refine h _ _ _ w R _ fun e y he a' w' hR => ?_
  obtain ⟨hex, hres⟩ := he
  obtain ⟨m', k1, k2, k3, k4⟩ := hR
  obtain ⟨r1, r2⟩ := resS_run k2.emb k2.wf hres
  rw [← k2.tmps, mv_still hv] at r1
  have post : a'.defers = [] ∧ ∃ v', (results F a'.tmps).run T.P w' = .ok v' w' ∧ (Ending.returned v' = .returned v ∧ Tidy w w') :=
    ⟨k2.dfr, _, r1, rfl, k3, fun k h1 h2 => k2.emb.ice k h1 h2⟩
  rcases hex with rfl | rfl <;> exact post

/-! ### the pieces of a piece of code -/
def cFst : Code → Code
  | .seq a _ => a
  | c => c
def cSnd : Code → Code
  | .seq _ b => b
  | c => c
def cIn : Code → Code
  | .block _ c => c
  | .loop c => c
  | .scope c => c
  | c => c
def cBody (F : Func) : Code := F.body.getD .skip

/-- pieces one behind the other, ahead of the rest -/
def seqs : List Code → Code → Code
  | [], X => X
  | c :: cs, X => .seq c (seqs cs X)
def evL (T : Tab) (n : Nat) : List Code → Lf → Lg → Option (Ex × Lf × Lg)
  | [], x, L => some (none, x, L)
  | c :: cs, x, L =>
    match evC T n false c x L with
    | some (none, x', L') => evL T n cs x' L'
    | _ => none
theorem evL_ok {T : Tab} (hT : TabOk T) {n : Nat} {X : Code} {P : Ex → Lf → Prop} : ∀ (cs : List Code) (x x' : Lf) (L L' : Lg) (e : Ex), evL T n cs x L = some (e, x', L') → L'.ok → L.ok ∧ e = none ∧ (Runs T X x' P → Runs T (seqs cs X) x P)
  | [], x, x', L, L', e, h, hL => by
    simp only [evL] at h
    cases h
    exact ⟨hL, rfl, id⟩
  | c :: cs, x, x', L, L', e, h, hL => by
    simp only [evL] at h
    split at h
    · rename_i x1 L1 h1
      obtain ⟨g1, g2, g3⟩ := evL_ok hT cs x1 x' L1 L' e h hL
      obtain ⟨g4, g5⟩ := (evC_ok hT n).1 _ _ _ _ _ _ h1 g1
      refine ⟨g4, g2, fun hX m B a w R Q hQ => wp_seq (g5 m B a w R _ fun a' w' hR => ?_)⟩
      obtain ⟨m', k1, k2, k3, k4⟩ := hR
      exact g3 hX m' B a' w' k2 Q fun e' y' he' a'' w'' hR' => hQ e' y' he' a'' w'' (Reach.trans k1 k3 k4 hR')
    · cases h

/-- What is to be reckoned of a piece of code: how it ends, the temporaries and the memory behind it, what was decided. -/
def Goes (r : Option (Ex × Lf × Lg)) (e : Ex) (t : List Value) (h : Hp) (cs : Log) : Prop :=
  r.map (fun r => r.1) = some e ∧ r.map (fun r => r.2.1.1) = some t ∧ r.map (fun r => r.2.1.2.1) = some h ∧ r.map (fun r => r.2.2.cs) = some cs ∧
    r.map (fun r => r.2.2.es.map Prod.fst) = r.map (fun r => r.2.2.es.map Prod.snd) ∧ r.map (fun r => r.2.2.bs.map Prod.fst) = r.map (fun r => r.2.2.bs.map Prod.snd)
theorem goes_some {r : Option (Ex × Lf × Lg)} {e : Ex} {t : List Value} {h : Hp} {cs : Log} (hG : Goes r e t h cs) (hcs : okLog cs) : ∃ s L, r = some (e, (t, h, s), L) ∧ L.ok := by
  obtain ⟨h1, h2, h3, h4, h5, h6⟩ := hG
  cases r with
  | none => cases h1
  | some r =>
    simp only [Option.map_some, Option.some.injEq] at h1 h2 h3 h4 h5 h6
    obtain ⟨e', ⟨t', h', s'⟩, L⟩ := r
    simp only at h1 h2 h3 h4 h5 h6
    subst h1 h2 h3
    exact ⟨s', L, rfl, by rw [h4]; exact hcs, all_eq _ h5, all_eq _ h6⟩
theorem goes_runs {T : Tab} (hT : TabOk T) {n : Nat} {c : Code} {t t' : List Value} {h h' : Hp} {s s0 : List Dec} {e : Ex} {cs : Log} (hG : Goes (evC T n false c (t, h, s) ⟨[], [], []⟩) e t' h' cs) (hcs : okLog cs) : Runs T c (t, h, s0) fun e' y => e' = e ∧ y.1 = t' ∧ y.2.1 = h' := by
  obtain ⟨s', L, hr, hL⟩ := goes_some hG hcs
  refine Runs.script ((Runs.ev hT hr hL).mono fun e2 y he => ?_)
  obtain ⟨rfl, rfl⟩ := he
  exact ⟨rfl, rfl, rfl⟩
theorem goes_list {T : Tab} (hT : TabOk T) {n : Nat} {l : List Code} {X : Code} {t t' : List Value} {h h' : Hp} {s s0 : List Dec} {e : Ex} {cs : Log} {P : Ex → Lf → Prop} (hG : Goes (evL T n l (t, h, s) ⟨[], [], []⟩) e t' h' cs) (hcs : okLog cs)
    (hX : Runs T X (t', h', []) P) : Runs T (seqs l X) (t, h, s0) P := by
  obtain ⟨s', L, hr, hL⟩ := goes_some hG hcs
  obtain ⟨_, _, h3⟩ := evL_ok (X := X) (P := P) hT l _ _ _ _ _ hr hL
  exact Runs.script (h3 (Runs.script hX))
end Go.KRun
