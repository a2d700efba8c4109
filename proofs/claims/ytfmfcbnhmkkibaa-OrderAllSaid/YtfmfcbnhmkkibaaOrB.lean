/-
  Layer 10's order, the program's: which is less, the less and the greater one, as calls in every world; the law's 'sure'.
-/
import Derived.Test.YtfmfcbnhmkkibaaOrA
namespace Go.Proofs.Ytfmfcbnhmkkibaa
open Go.KRun Go.Pt
set_option maxRecDepth 100000

def vI2 (x y : Int) : Value := .tuple #[.int .i64 x, .int .u8 y]
def vU2 (x y : Int) : Value := .tuple #[.int .u64 x, .int .u8 y]
theorem tl_t (a b : Int) : Fits (reckon (tabOf Try.prog extY conO1 true) 300 20 [.int .u64 a, .int .u64 b] [cmp true]) (.bool true) [(decide (plc a ≤ plc b), true), lU b, lU a] := ⟨by kernel_rfl, by kernel_rfl, by kernel_rfl, by kernel_rfl⟩
theorem tl_f (a b : Int) : Fits (reckon (tabOf Try.prog extY conO1 true) 300 20 [.int .u64 a, .int .u64 b] [cmp false]) (.bool false) [(decide (plc a ≤ plc b), false), lU b, lU a] := ⟨by kernel_rfl, by kernel_rfl, by kernel_rfl, by kernel_rfl⟩
theorem co_n (a b : Int) : Fits (reckon (tabOf Try.prog extY conO1 true) 300 9 [.int .u64 a, .int .u64 b] [cmp true]) (vI2 2 (ldF a b)) [(true, true), (decide (U a ∧ U b), true), (nnB a b, true), (decide (U a ∧ U b), true)] := ⟨by kernel_rfl, by kernel_rfl, by kernel_rfl, by kernel_rfl⟩
theorem co_z (a b : Int) : Fits (reckon (tabOf Try.prog extY conO1 true) 300 9 [.int .u64 a, .int .u64 b] [cmp false, cmp true, cmp true]) (vI2 0 0) [(cl b == 0, true), lU b, (cl a == 0, true), lU a, (nnB a b, false), (decide (U a ∧ U b), true)] := ⟨by kernel_rfl, by kernel_rfl, by kernel_rfl, by kernel_rfl⟩
theorem co_1 (a b : Int) : Fits (reckon (tabOf Try.prog extY conO1 true) 300 9 [.int .u64 a, .int .u64 b] [cmp false, cmp true, cmp false]) (vI2 (cmV (plc a) (plc b)) 0) [(true, true), (decide (U (plc a) ∧ U (plc b)), true), lU b, lU a, (cl b == 0, false), lU b, (cl a == 0, true), lU a, (nnB a b, false), (decide (U a ∧ U b), true)] := ⟨by kernel_rfl, by kernel_rfl, by kernel_rfl, by kernel_rfl⟩
theorem co_2 (a b : Int) : Fits (reckon (tabOf Try.prog extY conO1 true) 300 9 [.int .u64 a, .int .u64 b] [cmp false, cmp false]) (vI2 (cmV (plc a) (plc b)) 0) [(true, true), (decide (U (plc a) ∧ U (plc b)), true), lU b, lU a, (cl a == 0, false), lU a, (nnB a b, false), (decide (U a ∧ U b), true)] := ⟨by kernel_rfl, by kernel_rfl, by kernel_rfl, by kernel_rfl⟩
theorem total_calls (a b : Int) (ha : U a) (hb : U b) (w : World) : Calls Try.prog 20 #[.int .u64 a, .int .u64 b] w fun r w' => r = .returned (.bool (tlB a b)) ∧ Tidy w w' := by
  have hv : ([.int .u64 a, .int .u64 b].all (lt 0)) = true := rfl
  have T := tabY_ok conO1_ok
  have ka : decide (U a) = true := decide_eq_true ha
  have kb : decide (U b) = true := decide_eq_true hb
  have kab : decide (U a ∧ U b) = true := decide_eq_true ⟨ha, hb⟩
  unfold tlB
  by_cases h : plc a ≤ plc b
  · rw [decide_eq_true h]
    exact fits_calls T (tl_t a b) (okCons (decide_eq_true h) (okCons kb (okL1 ka))) hv (by rfl) w
  · rw [decide_eq_false h]
    exact fits_calls T (tl_f a b) (okCons (decide_eq_false h) (okCons kb (okL1 ka))) hv (by rfl) w
theorem compare_calls (a b : Int) (ha : U a) (hb : U b) (w : World) : Calls Try.prog 9 #[.int .u64 a, .int .u64 b] w fun r w' => r = .returned (vI2 (coV a b) (coF a b)) ∧ Tidy w w' := by
  have hv : ([.int .u64 a, .int .u64 b].all (lt 0)) = true := rfl
  have T := tabY_ok conO1_ok
  have ka : decide (U a) = true := decide_eq_true ha
  have kb : decide (U b) = true := decide_eq_true hb
  have kab : decide (U a ∧ U b) = true := decide_eq_true ⟨ha, hb⟩
  have kp : decide (U (plc a) ∧ U (plc b)) = true := decide_eq_true ⟨plc_bd ha, plc_bd hb⟩
  unfold coV coF
  by_cases hn : 3 < cl a ∨ 3 < cl b
  · rw [if_pos hn, if_pos hn]
    exact fits_calls T (co_n a b) (okCons rfl (okCons kab (okCons (decide_eq_true hn) (okL1 kab)))) hv (by rfl) w
  rw [if_neg hn, if_neg hn]
  by_cases ha : cl a = 0
  · by_cases hb : cl b = 0
    · rw [if_pos ⟨ha, hb⟩]
      exact fits_calls T (co_z a b) (okCons (beq_t hb) (okCons kb (okCons (beq_t ha) (okCons ka (okCons (decide_eq_false hn) (okL1 kab)))))) hv (by rfl) w
    · rw [if_neg (fun h => hb h.2)]
      exact fits_calls T (co_1 a b) (okCons rfl (okCons kp (okCons kb (okCons ka (okCons (beq_f hb) (okCons kb (okCons (beq_t ha) (okCons ka (okCons (decide_eq_false hn) (okL1 kab)))))))))) hv (by rfl) w
  · rw [if_neg (fun h => ha h.1)]
    exact fits_calls T (co_2 a b) (okCons rfl (okCons kp (okCons kb (okCons ka (okCons (beq_f ha) (okCons ka (okCons (decide_eq_false hn) (okL1 kab)))))))) hv (by rfl) w
def conO2 : Con := alt 20 (gUUb tlB) (alt 9 (gUU (fun a b => vI2 (coV a b) (coF a b)) fun _ _ => true) conO1)
theorem conO2_ok : ConOk conO2 := alt_ok Try.func20 rfl (gUUb_ok total_calls) (alt_ok Try.func9 rfl (gUU_ok fun a b ha hb _ w => compare_calls a b ha hb w) conO1_ok)
theorem si_t (a b : Int) : Fits (reckon (tabOf Try.prog extY conO2 true) 300 11 [.int .u64 a, .int .u64 b] [cmp true]) (vI2 2 1) [(coV a b == 2, true), (true, true), (decide (U a ∧ U b), true)] := ⟨by kernel_rfl, by kernel_rfl, by kernel_rfl, by kernel_rfl⟩
theorem si_f (a b : Int) : Fits (reckon (tabOf Try.prog extY conO2 true) 300 11 [.int .u64 a, .int .u64 b] [cmp false]) (vI2 (coV a b) 0) [(coV a b == 2, false), (true, true), (decide (U a ∧ U b), true)] := ⟨by kernel_rfl, by kernel_rfl, by kernel_rfl, by kernel_rfl⟩
theorem mi_n (a b : Int) : Fits (reckon (tabOf Try.prog extY conO2 true) 300 13 [.int .u64 a, .int .u64 b] [cmp true]) (vU2 9221120237041090560 (ldF a b)) [(true, true), (decide (U a ∧ U b), true), (nnB a b, true), (decide (U a ∧ U b), true)] := ⟨by kernel_rfl, by kernel_rfl, by kernel_rfl, by kernel_rfl⟩
theorem mi_t (a b : Int) : Fits (reckon (tabOf Try.prog extY conO2 true) 300 13 [.int .u64 a, .int .u64 b] [cmp false, cmp true]) (vU2 a 0) [(tlB a b, true), (decide (U a ∧ U b), true), (nnB a b, false), (decide (U a ∧ U b), true)] := ⟨by kernel_rfl, by kernel_rfl, by kernel_rfl, by kernel_rfl⟩
theorem mi_f (a b : Int) : Fits (reckon (tabOf Try.prog extY conO2 true) 300 13 [.int .u64 a, .int .u64 b] [cmp false, cmp false]) (vU2 b 0) [(tlB a b, false), (decide (U a ∧ U b), true), (nnB a b, false), (decide (U a ∧ U b), true)] := ⟨by kernel_rfl, by kernel_rfl, by kernel_rfl, by kernel_rfl⟩
theorem ma_n (a b : Int) : Fits (reckon (tabOf Try.prog extY conO2 true) 300 15 [.int .u64 a, .int .u64 b] [cmp true]) (vU2 9221120237041090560 (ldF a b)) [(true, true), (decide (U a ∧ U b), true), (nnB a b, true), (decide (U a ∧ U b), true)] := ⟨by kernel_rfl, by kernel_rfl, by kernel_rfl, by kernel_rfl⟩
theorem ma_t (a b : Int) : Fits (reckon (tabOf Try.prog extY conO2 true) 300 15 [.int .u64 a, .int .u64 b] [cmp false, cmp true]) (vU2 b 0) [(tlB a b, true), (decide (U a ∧ U b), true), (nnB a b, false), (decide (U a ∧ U b), true)] := ⟨by kernel_rfl, by kernel_rfl, by kernel_rfl, by kernel_rfl⟩
theorem ma_f (a b : Int) : Fits (reckon (tabOf Try.prog extY conO2 true) 300 15 [.int .u64 a, .int .u64 b] [cmp false, cmp false]) (vU2 a 0) [(tlB a b, false), (decide (U a ∧ U b), true), (nnB a b, false), (decide (U a ∧ U b), true)] := ⟨by kernel_rfl, by kernel_rfl, by kernel_rfl, by kernel_rfl⟩
theorem signal_calls (a b : Int) (ha : U a) (hb : U b) (w : World) : Calls Try.prog 11 #[.int .u64 a, .int .u64 b] w fun r w' => r = .returned (vI2 (coV a b) (siF a b)) ∧ Tidy w w' := by
  have hv : ([.int .u64 a, .int .u64 b].all (lt 0)) = true := rfl
  have T := tabY_ok conO2_ok
  have ka : decide (U a) = true := decide_eq_true ha
  have kb : decide (U b) = true := decide_eq_true hb
  have kab : decide (U a ∧ U b) = true := decide_eq_true ⟨ha, hb⟩
  by_cases hn : 3 < cl a ∨ 3 < cl b
  · rw [coV_nn.2 hn, show siF a b = 1 by unfold siF; rw [if_pos hn]]
    exact fits_calls T (si_t a b) (okCons (beq_t (coV_nn.2 hn)) (okCons rfl (okL1 kab))) hv (by rfl) w
  · rw [show siF a b = 0 by unfold siF; rw [if_neg hn]]
    exact fits_calls T (si_f a b) (okCons (beq_f fun h => hn (coV_nn.1 h)) (okCons rfl (okL1 kab))) hv (by rfl) w
theorem min_calls (a b : Int) (ha : U a) (hb : U b) (w : World) : Calls Try.prog 13 #[.int .u64 a, .int .u64 b] w fun r w' => r = .returned (vU2 (miP a b) (coF a b)) ∧ Tidy w w' := by
  have hv : ([.int .u64 a, .int .u64 b].all (lt 0)) = true := rfl
  have T := tabY_ok conO2_ok
  have ka : decide (U a) = true := decide_eq_true ha
  have kb : decide (U b) = true := decide_eq_true hb
  have kab : decide (U a ∧ U b) = true := decide_eq_true ⟨ha, hb⟩
  unfold miP coF lsP
  by_cases hn : 3 < cl a ∨ 3 < cl b
  · rw [if_pos hn, if_pos hn]
    exact fits_calls T (mi_n a b) (okCons rfl (okCons kab (okCons (decide_eq_true hn) (okL1 kab)))) hv (by rfl) w
  rw [if_neg hn, if_neg hn]
  by_cases h : plc a ≤ plc b
  · rw [if_pos h]
    exact fits_calls T (mi_t a b) (okCons (decide_eq_true h) (okCons kab (okCons (decide_eq_false hn) (okL1 kab)))) hv (by rfl) w
  · rw [if_neg h]
    exact fits_calls T (mi_f a b) (okCons (decide_eq_false h) (okCons kab (okCons (decide_eq_false hn) (okL1 kab)))) hv (by rfl) w
theorem max_calls (a b : Int) (ha : U a) (hb : U b) (w : World) : Calls Try.prog 15 #[.int .u64 a, .int .u64 b] w fun r w' => r = .returned (vU2 (maP a b) (coF a b)) ∧ Tidy w w' := by
  have hv : ([.int .u64 a, .int .u64 b].all (lt 0)) = true := rfl
  have T := tabY_ok conO2_ok
  have ka : decide (U a) = true := decide_eq_true ha
  have kb : decide (U b) = true := decide_eq_true hb
  have kab : decide (U a ∧ U b) = true := decide_eq_true ⟨ha, hb⟩
  unfold maP coF grP
  by_cases hn : 3 < cl a ∨ 3 < cl b
  · rw [if_pos hn, if_pos hn]
    exact fits_calls T (ma_n a b) (okCons rfl (okCons kab (okCons (decide_eq_true hn) (okL1 kab)))) hv (by rfl) w
  rw [if_neg hn, if_neg hn]
  by_cases h : plc a ≤ plc b
  · rw [if_pos h]
    exact fits_calls T (ma_t a b) (okCons (decide_eq_true h) (okCons kab (okCons (decide_eq_false hn) (okL1 kab)))) hv (by rfl) w
  · rw [if_neg h]
    exact fits_calls T (ma_f a b) (okCons (decide_eq_false h) (okCons kab (okCons (decide_eq_false hn) (okL1 kab)))) hv (by rfl) w
def conO3 : Con := alt 13 (gUU (fun a b => vU2 (miP a b) (coF a b)) fun _ _ => true) (alt 15 (gUU (fun a b => vU2 (maP a b) (coF a b)) fun _ _ => true) conO2)
theorem conO3_ok : ConOk conO3 := alt_ok Try.func13 rfl (gUU_ok fun a b ha hb _ w => min_calls a b ha hb w) (alt_ok Try.func15 rfl (gUU_ok fun a b ha hb _ w => max_calls a b ha hb w) conO2_ok)
theorem mn_n (a b : Int) : Fits (reckon (tabOf Try.prog extY conO3 true) 300 16 [.int .u64 a, .int .u64 b] [cmp true]) (vU2 (onP a b) (ldF a b)) [(true, true), (decide (U a ∧ U b), true), (true, true), (decide (U a ∧ U b), true), (nnB a b, true), (decide (U a ∧ U b), true)] := ⟨by kernel_rfl, by kernel_rfl, by kernel_rfl, by kernel_rfl⟩
theorem mn_f (a b : Int) : Fits (reckon (tabOf Try.prog extY conO3 true) 300 16 [.int .u64 a, .int .u64 b] [cmp false]) (vU2 (miP a b) (coF a b)) [(true, true), (decide (U a ∧ U b), true), (nnB a b, false), (decide (U a ∧ U b), true)] := ⟨by kernel_rfl, by kernel_rfl, by kernel_rfl, by kernel_rfl⟩
theorem mx_n (a b : Int) : Fits (reckon (tabOf Try.prog extY conO3 true) 300 17 [.int .u64 a, .int .u64 b] [cmp true]) (vU2 (onP a b) (ldF a b)) [(true, true), (decide (U a ∧ U b), true), (true, true), (decide (U a ∧ U b), true), (nnB a b, true), (decide (U a ∧ U b), true)] := ⟨by kernel_rfl, by kernel_rfl, by kernel_rfl, by kernel_rfl⟩
theorem mx_f (a b : Int) : Fits (reckon (tabOf Try.prog extY conO3 true) 300 17 [.int .u64 a, .int .u64 b] [cmp false]) (vU2 (maP a b) (coF a b)) [(true, true), (decide (U a ∧ U b), true), (nnB a b, false), (decide (U a ∧ U b), true)] := ⟨by kernel_rfl, by kernel_rfl, by kernel_rfl, by kernel_rfl⟩
theorem ms_n (a b : Int) : Fits (reckon (tabOf Try.prog extY conO3 true) 300 18 [.int .u64 a, .int .u64 b] [cmp true]) (vU2 (miP a b) (coF a b)) [(true, true), (decide (U a ∧ U b), true), (nnB a b, true), (decide (U a ∧ U b), true)] := ⟨by kernel_rfl, by kernel_rfl, by kernel_rfl, by kernel_rfl⟩
theorem ms_e (a b : Int) : Fits (reckon (tabOf Try.prog extY conO3 true) 300 18 [.int .u64 a, .int .u64 b] [cmp false, cmp true]) (vU2 (miP a b) (coF a b)) [(true, true), (decide (U a ∧ U b), true), (mag a == mag b, true), lU b, lU a, (nnB a b, false), (decide (U a ∧ U b), true)] := ⟨by kernel_rfl, by kernel_rfl, by kernel_rfl, by kernel_rfl⟩
theorem ms_t (a b : Int) : Fits (reckon (tabOf Try.prog extY conO3 true) 300 18 [.int .u64 a, .int .u64 b] [cmp false, cmp false, cmp true]) (vU2 a 0) [(tlB (mag a) (mag b), true), (decide (U (mag a) ∧ U (mag b)), true), lU b, lU a, (mag a == mag b, false), lU b, lU a, (nnB a b, false), (decide (U a ∧ U b), true)] := ⟨by kernel_rfl, by kernel_rfl, by kernel_rfl, by kernel_rfl⟩
theorem ms_f (a b : Int) : Fits (reckon (tabOf Try.prog extY conO3 true) 300 18 [.int .u64 a, .int .u64 b] [cmp false, cmp false, cmp false]) (vU2 b 0) [(tlB (mag a) (mag b), false), (decide (U (mag a) ∧ U (mag b)), true), lU b, lU a, (mag a == mag b, false), lU b, lU a, (nnB a b, false), (decide (U a ∧ U b), true)] := ⟨by kernel_rfl, by kernel_rfl, by kernel_rfl, by kernel_rfl⟩
theorem mt_n (a b : Int) : Fits (reckon (tabOf Try.prog extY conO3 true) 300 19 [.int .u64 a, .int .u64 b] [cmp true]) (vU2 (maP a b) (coF a b)) [(true, true), (decide (U a ∧ U b), true), (nnB a b, true), (decide (U a ∧ U b), true)] := ⟨by kernel_rfl, by kernel_rfl, by kernel_rfl, by kernel_rfl⟩
theorem mt_e (a b : Int) : Fits (reckon (tabOf Try.prog extY conO3 true) 300 19 [.int .u64 a, .int .u64 b] [cmp false, cmp true]) (vU2 (maP a b) (coF a b)) [(true, true), (decide (U a ∧ U b), true), (mag a == mag b, true), lU b, lU a, (nnB a b, false), (decide (U a ∧ U b), true)] := ⟨by kernel_rfl, by kernel_rfl, by kernel_rfl, by kernel_rfl⟩
theorem mt_t (a b : Int) : Fits (reckon (tabOf Try.prog extY conO3 true) 300 19 [.int .u64 a, .int .u64 b] [cmp false, cmp false, cmp true]) (vU2 b 0) [(tlB (mag a) (mag b), true), (decide (U (mag a) ∧ U (mag b)), true), lU b, lU a, (mag a == mag b, false), lU b, lU a, (nnB a b, false), (decide (U a ∧ U b), true)] := ⟨by kernel_rfl, by kernel_rfl, by kernel_rfl, by kernel_rfl⟩
theorem mt_f (a b : Int) : Fits (reckon (tabOf Try.prog extY conO3 true) 300 19 [.int .u64 a, .int .u64 b] [cmp false, cmp false, cmp false]) (vU2 a 0) [(tlB (mag a) (mag b), false), (decide (U (mag a) ∧ U (mag b)), true), lU b, lU a, (mag a == mag b, false), lU b, lU a, (nnB a b, false), (decide (U a ∧ U b), true)] := ⟨by kernel_rfl, by kernel_rfl, by kernel_rfl, by kernel_rfl⟩
theorem mn_calls (a b : Int) (ha : U a) (hb : U b) (w : World) : Calls Try.prog 16 #[.int .u64 a, .int .u64 b] w fun r w' => r = .returned (vU2 (mnP a b) (coF a b)) ∧ Tidy w w' := by
  have hv : ([.int .u64 a, .int .u64 b].all (lt 0)) = true := rfl
  have T := tabY_ok conO3_ok
  have ka : decide (U a) = true := decide_eq_true ha
  have kb : decide (U b) = true := decide_eq_true hb
  have kab : decide (U a ∧ U b) = true := decide_eq_true ⟨ha, hb⟩
  by_cases hn : 3 < cl a ∨ 3 < cl b
  · unfold mnP coF
    rw [if_pos hn, if_pos hn]
    exact fits_calls T (mn_n a b) (okCons rfl (okCons kab (okCons rfl (okCons kab (okCons (decide_eq_true hn) (okL1 kab)))))) hv (by rfl) w
  · have e : mnP a b = miP a b := by unfold mnP miP; rw [if_neg hn, if_neg hn]
    rw [e]
    exact fits_calls T (mn_f a b) (okCons rfl (okCons kab (okCons (decide_eq_false hn) (okL1 kab)))) hv (by rfl) w
theorem mx_calls (a b : Int) (ha : U a) (hb : U b) (w : World) : Calls Try.prog 17 #[.int .u64 a, .int .u64 b] w fun r w' => r = .returned (vU2 (mxP a b) (coF a b)) ∧ Tidy w w' := by
  have hv : ([.int .u64 a, .int .u64 b].all (lt 0)) = true := rfl
  have T := tabY_ok conO3_ok
  have ka : decide (U a) = true := decide_eq_true ha
  have kb : decide (U b) = true := decide_eq_true hb
  have kab : decide (U a ∧ U b) = true := decide_eq_true ⟨ha, hb⟩
  by_cases hn : 3 < cl a ∨ 3 < cl b
  · unfold mxP coF
    rw [if_pos hn, if_pos hn]
    exact fits_calls T (mx_n a b) (okCons rfl (okCons kab (okCons rfl (okCons kab (okCons (decide_eq_true hn) (okL1 kab)))))) hv (by rfl) w
  · have e : mxP a b = maP a b := by unfold mxP maP; rw [if_neg hn, if_neg hn]
    rw [e]
    exact fits_calls T (mx_f a b) (okCons rfl (okCons kab (okCons (decide_eq_false hn) (okL1 kab)))) hv (by rfl) w
theorem ms_calls (a b : Int) (ha : U a) (hb : U b) (w : World) : Calls Try.prog 18 #[.int .u64 a, .int .u64 b] w fun r w' => r = .returned (vU2 (msP a b) (coF a b)) ∧ Tidy w w' := by
  have hv : ([.int .u64 a, .int .u64 b].all (lt 0)) = true := rfl
  have T := tabY_ok conO3_ok
  have ka : decide (U a) = true := decide_eq_true ha
  have kb : decide (U b) = true := decide_eq_true hb
  have kab : decide (U a ∧ U b) = true := decide_eq_true ⟨ha, hb⟩
  by_cases hn : 3 < cl a ∨ 3 < cl b
  · have e : msP a b = miP a b := by unfold msP miP; rw [if_pos hn, if_pos hn]
    rw [e]
    exact fits_calls T (ms_n a b) (okCons rfl (okCons kab (okCons (decide_eq_true hn) (okL1 kab)))) hv (by rfl) w
  by_cases he : mag a = mag b
  · have e : msP a b = miP a b := by unfold msP miP; rw [if_neg hn, if_neg hn, if_pos he]
    rw [e]
    exact fits_calls T (ms_e a b) (okCons rfl (okCons kab (okCons (beq_t he) (okCons kb (okCons ka (okCons (decide_eq_false hn) (okL1 kab))))))) hv (by rfl) w
  have km : decide (U (mag a) ∧ U (mag b)) = true := decide_eq_true ⟨U_mag a, U_mag b⟩
  unfold msP coF
  rw [if_neg hn, if_neg hn, if_neg he]
  by_cases h : plc (mag a) ≤ plc (mag b)
  · rw [if_pos (plc_mag.1 h)]
    exact fits_calls T (ms_t a b) (okCons (decide_eq_true h) (okCons km (okCons kb (okCons ka (okCons (beq_f he) (okCons kb (okCons ka (okCons (decide_eq_false hn) (okL1 kab))))))))) hv (by rfl) w
  · rw [if_neg (fun h' => h (plc_mag.2 h'))]
    exact fits_calls T (ms_f a b) (okCons (decide_eq_false h) (okCons km (okCons kb (okCons ka (okCons (beq_f he) (okCons kb (okCons ka (okCons (decide_eq_false hn) (okL1 kab))))))))) hv (by rfl) w
theorem mt_calls (a b : Int) (ha : U a) (hb : U b) (w : World) : Calls Try.prog 19 #[.int .u64 a, .int .u64 b] w fun r w' => r = .returned (vU2 (mtP a b) (coF a b)) ∧ Tidy w w' := by
  have hv : ([.int .u64 a, .int .u64 b].all (lt 0)) = true := rfl
  have T := tabY_ok conO3_ok
  have ka : decide (U a) = true := decide_eq_true ha
  have kb : decide (U b) = true := decide_eq_true hb
  have kab : decide (U a ∧ U b) = true := decide_eq_true ⟨ha, hb⟩
  by_cases hn : 3 < cl a ∨ 3 < cl b
  · have e : mtP a b = maP a b := by unfold mtP maP; rw [if_pos hn, if_pos hn]
    rw [e]
    exact fits_calls T (mt_n a b) (okCons rfl (okCons kab (okCons (decide_eq_true hn) (okL1 kab)))) hv (by rfl) w
  by_cases he : mag a = mag b
  · have e : mtP a b = maP a b := by unfold mtP maP; rw [if_neg hn, if_neg hn, if_pos he]
    rw [e]
    exact fits_calls T (mt_e a b) (okCons rfl (okCons kab (okCons (beq_t he) (okCons kb (okCons ka (okCons (decide_eq_false hn) (okL1 kab))))))) hv (by rfl) w
  have km : decide (U (mag a) ∧ U (mag b)) = true := decide_eq_true ⟨U_mag a, U_mag b⟩
  unfold mtP coF
  rw [if_neg hn, if_neg hn, if_neg he]
  by_cases h : plc (mag a) ≤ plc (mag b)
  · rw [if_pos (plc_mag.1 h)]
    exact fits_calls T (mt_t a b) (okCons (decide_eq_true h) (okCons km (okCons kb (okCons ka (okCons (beq_f he) (okCons kb (okCons ka (okCons (decide_eq_false hn) (okL1 kab))))))))) hv (by rfl) w
  · rw [if_neg (fun h' => h (plc_mag.2 h'))]
    exact fits_calls T (mt_f a b) (okCons (decide_eq_false h) (okCons km (okCons kb (okCons ka (okCons (beq_f he) (okCons kb (okCons ka (okCons (decide_eq_false hn) (okL1 kab))))))))) hv (by rfl) w
def conO4 : Con := alt 16 (gUU (fun a b => vU2 (mnP a b) (coF a b)) fun _ _ => true) (alt 17 (gUU (fun a b => vU2 (mxP a b) (coF a b)) fun _ _ => true) (alt 18 (gUU (fun a b => vU2 (msP a b) (coF a b)) fun _ _ => true) (alt 19 (gUU (fun a b => vU2 (mtP a b) (coF a b)) fun _ _ => true) (alt 11 (gUU (fun a b => vI2 (coV a b) (siF a b)) fun _ _ => true) conO3))))
theorem conO4_ok : ConOk conO4 := alt_ok Try.func16 rfl (gUU_ok fun a b ha hb _ w => mn_calls a b ha hb w) (alt_ok Try.func17 rfl (gUU_ok fun a b ha hb _ w => mx_calls a b ha hb w) (alt_ok Try.func18 rfl (gUU_ok fun a b ha hb _ w => ms_calls a b ha hb w) (alt_ok Try.func19 rfl (gUU_ok fun a b ha hb _ w => mt_calls a b ha hb w) (alt_ok Try.func11 rfl (gUU_ok fun a b ha hb _ w => signal_calls a b ha hb w) conO3_ok))))
theorem sure10_n : coF 0 9223372036854775808 = 0 ∧ coV 0 9223372036854775808 = 0 ∧ miP 0 9223372036854775808 = 9223372036854775808 := ⟨by decide, by decide, by decide⟩
theorem sure10 : Fits (reckon (tabOf Try.prog extY conO4 true) 300 12 [] [cmp true, cmp true, cmp true, cmp true]) (.bool true) [(coF 0 9223372036854775808 == 0, true), (coV 0 9223372036854775808 == 0, true), (coF 0 9223372036854775808 == 0, true), (miP 0 9223372036854775808 == 9223372036854775808, true), (true, true), (decide (U 0 ∧ U 9223372036854775808), true), (true, true), (decide (U 0 ∧ U 9223372036854775808), true)] := ⟨by kernel_rfl, by kernel_rfl, by kernel_rfl, by kernel_rfl⟩
def gSure10 : Ans := fun vals s => match vals with | [] => some (.bool true, s, []) | _ => none
theorem gSure10_ok : AnsOk 12 gSure10 := by
  intro vals s v s' lg h hl w
  unfold gSure10 at h
  split at h
  · cases h
    obtain ⟨n1, n2, n3⟩ := sure10_n
    exact fits_calls (tabY_ok conO4_ok) sure10 (okCons (beq_t n1) (okCons (beq_t n2) (okCons (beq_t n1) (okCons (beq_t n3) (okCons rfl (okCons (by decide) (okCons rfl (okL1 (by decide))))))))) (by rfl) (by rfl) w
  · cases h
def conO5 : Con := alt 12 gSure10 conO4
theorem conO5_ok : ConOk conO5 := alt_ok Try.func12 rfl gSure10_ok conO4_ok
end Go.Proofs.Ytfmfcbnhmkkibaa
