/-
  PrZ, PrK, SuJ, SuK, CxA, CxB, CxC
-/
import Derived.Test.YtjkgnbdeklploaaGreatDoorG25
namespace Go.Proofs.YtjkgnbdeklploaaGreatDoor
open Go.KRun Go.Nt Go.Wd Go.Pt Go.Rn
set_option maxRecDepth 100000
theorem rf_bad (a b c m : Int) : Fits (reckon (tabH Tryz.prog extY conRB hcX) 300 36 [.int .u64 a, .int .u64 b, .int .u64 c, .int .i64 m] [cmp true]) (raT 9221120237041090560 1) [(badB a b, true), (decide (U a ∧ U b), true)] := ⟨by kernel_rfl, by kernel_rfl, by kernel_rfl, by kernel_rfl⟩
theorem rf_a11 (a b c m : Int) : Fits (reckon (tabH Tryz.prog extY conRB hcX) 300 36 [.int .u64 a, .int .u64 b, .int .u64 c, .int .i64 m] [cmp false, cmp true, cmp true, cmp true, cmp false]) (raT 9221120237041090560 1) [(cl c == 5, true), lU c, (cl a == 5, true), lU a, (decide (cl a > 3), true), lU a, (badB a b, false), (decide (U a ∧ U b), true)] := ⟨by kernel_rfl, by kernel_rfl, by kernel_rfl, by kernel_rfl⟩
theorem rf_a10 (a b c m : Int) : Fits (reckon (tabH Tryz.prog extY conRB hcX) 300 36 [.int .u64 a, .int .u64 b, .int .u64 c, .int .i64 m] [cmp false, cmp true, cmp true, cmp false, cmp false, cmp false]) (raT 9221120237041090560 1) [(cl c == 5, false), lU c, (cl c == 5, false), lU c, (cl a == 5, true), lU a, (decide (cl a > 3), true), lU a, (badB a b, false), (decide (U a ∧ U b), true)] := ⟨by kernel_rfl, by kernel_rfl, by kernel_rfl, by kernel_rfl⟩
theorem rf_a21 (a b c m : Int) : Fits (reckon (tabH Tryz.prog extY conRB hcX) 300 36 [.int .u64 a, .int .u64 b, .int .u64 c, .int .i64 m] [cmp false, cmp true, cmp false, cmp true, cmp true, cmp false]) (raT 9221120237041090560 1) [(cl c == 5, true), lU c, (cl b == 5, true), lU b, (cl a == 5, false), lU a, (decide (cl a > 3), true), lU a, (badB a b, false), (decide (U a ∧ U b), true)] := ⟨by kernel_rfl, by kernel_rfl, by kernel_rfl, by kernel_rfl⟩
theorem rf_a20 (a b c m : Int) : Fits (reckon (tabH Tryz.prog extY conRB hcX) 300 36 [.int .u64 a, .int .u64 b, .int .u64 c, .int .i64 m] [cmp false, cmp true, cmp false, cmp true, cmp false, cmp false, cmp false]) (raT 9221120237041090560 1) [(cl c == 5, false), lU c, (cl c == 5, false), lU c, (cl b == 5, true), lU b, (cl a == 5, false), lU a, (decide (cl a > 3), true), lU a, (badB a b, false), (decide (U a ∧ U b), true)] := ⟨by kernel_rfl, by kernel_rfl, by kernel_rfl, by kernel_rfl⟩
theorem rf_a01 (a b c m : Int) : Fits (reckon (tabH Tryz.prog extY conRB hcX) 300 36 [.int .u64 a, .int .u64 b, .int .u64 c, .int .i64 m] [cmp false, cmp true, cmp false, cmp false, cmp true, cmp true]) (raT 9221120237041090560 1) [(cl c == 5, true), lU c, (cl b == 5, false), lU b, (cl a == 5, false), lU a, (decide (cl a > 3), true), lU a, (badB a b, false), (decide (U a ∧ U b), true)] := ⟨by kernel_rfl, by kernel_rfl, by kernel_rfl, by kernel_rfl⟩
theorem rf_a00 (a b c m : Int) : Fits (reckon (tabH Tryz.prog extY conRB hcX) 300 36 [.int .u64 a, .int .u64 b, .int .u64 c, .int .i64 m] [cmp false, cmp true, cmp false, cmp false, cmp false, cmp false, cmp false]) (raT 9221120237041090560 0) [(cl c == 5, false), lU c, (cl c == 5, false), lU c, (cl b == 5, false), lU b, (cl a == 5, false), lU a, (decide (cl a > 3), true), lU a, (badB a b, false), (decide (U a ∧ U b), true)] := ⟨by kernel_rfl, by kernel_rfl, by kernel_rfl, by kernel_rfl⟩
theorem rf_b21 (a b c m : Int) : Fits (reckon (tabH Tryz.prog extY conRB hcX) 300 36 [.int .u64 a, .int .u64 b, .int .u64 c, .int .i64 m] [cmp false, cmp false, cmp true, cmp false, cmp true, cmp true, cmp false]) (raT 9221120237041090560 1) [(cl c == 5, true), lU c, (cl b == 5, true), lU b, (cl a == 5, false), lU a, (decide (cl b > 3), true), lU b, (decide (cl a > 3), false), lU a, (badB a b, false), (decide (U a ∧ U b), true)] := ⟨by kernel_rfl, by kernel_rfl, by kernel_rfl, by kernel_rfl⟩
theorem rf_b20 (a b c m : Int) : Fits (reckon (tabH Tryz.prog extY conRB hcX) 300 36 [.int .u64 a, .int .u64 b, .int .u64 c, .int .i64 m] [cmp false, cmp false, cmp true, cmp false, cmp true, cmp false, cmp false, cmp false]) (raT 9221120237041090560 1) [(cl c == 5, false), lU c, (cl c == 5, false), lU c, (cl b == 5, true), lU b, (cl a == 5, false), lU a, (decide (cl b > 3), true), lU b, (decide (cl a > 3), false), lU a, (badB a b, false), (decide (U a ∧ U b), true)] := ⟨by kernel_rfl, by kernel_rfl, by kernel_rfl, by kernel_rfl⟩
theorem rf_b01 (a b c m : Int) : Fits (reckon (tabH Tryz.prog extY conRB hcX) 300 36 [.int .u64 a, .int .u64 b, .int .u64 c, .int .i64 m] [cmp false, cmp false, cmp true, cmp false, cmp false, cmp true, cmp true]) (raT 9221120237041090560 1) [(cl c == 5, true), lU c, (cl b == 5, false), lU b, (cl a == 5, false), lU a, (decide (cl b > 3), true), lU b, (decide (cl a > 3), false), lU a, (badB a b, false), (decide (U a ∧ U b), true)] := ⟨by kernel_rfl, by kernel_rfl, by kernel_rfl, by kernel_rfl⟩
theorem rf_b00 (a b c m : Int) : Fits (reckon (tabH Tryz.prog extY conRB hcX) 300 36 [.int .u64 a, .int .u64 b, .int .u64 c, .int .i64 m] [cmp false, cmp false, cmp true, cmp false, cmp false, cmp false, cmp false, cmp false]) (raT 9221120237041090560 0) [(cl c == 5, false), lU c, (cl c == 5, false), lU c, (cl b == 5, false), lU b, (cl a == 5, false), lU a, (decide (cl b > 3), true), lU b, (decide (cl a > 3), false), lU a, (badB a b, false), (decide (U a ∧ U b), true)] := ⟨by kernel_rfl, by kernel_rfl, by kernel_rfl, by kernel_rfl⟩
theorem rf_c01 (a b c m : Int) : Fits (reckon (tabH Tryz.prog extY conRB hcX) 300 36 [.int .u64 a, .int .u64 b, .int .u64 c, .int .i64 m] [cmp false, cmp false, cmp false, cmp true, cmp false, cmp false, cmp true, cmp true]) (raT 9221120237041090560 1) [(cl c == 5, true), lU c, (cl b == 5, false), lU b, (cl a == 5, false), lU a, (decide (cl c > 3), true), lU c, (decide (cl b > 3), false), lU b, (decide (cl a > 3), false), lU a, (badB a b, false), (decide (U a ∧ U b), true)] := ⟨by kernel_rfl, by kernel_rfl, by kernel_rfl, by kernel_rfl⟩
theorem rf_c00 (a b c m : Int) : Fits (reckon (tabH Tryz.prog extY conRB hcX) 300 36 [.int .u64 a, .int .u64 b, .int .u64 c, .int .i64 m] [cmp false, cmp false, cmp false, cmp true, cmp false, cmp false, cmp false, cmp false, cmp false]) (raT 9221120237041090560 0) [(cl c == 5, false), lU c, (cl c == 5, false), lU c, (cl b == 5, false), lU b, (cl a == 5, false), lU a, (decide (cl c > 3), true), lU c, (decide (cl b > 3), false), lU b, (decide (cl a > 3), false), lU a, (badB a b, false), (decide (U a ∧ U b), true)] := ⟨by kernel_rfl, by kernel_rfl, by kernel_rfl, by kernel_rfl⟩
theorem rf_eaF (a b c m : Int) : Fits (reckon (tabH Tryz.prog extY conRB hcX) 300 36 [.int .u64 a, .int .u64 b, .int .u64 c, .int .i64 m] [cmp false, cmp false, cmp false, cmp false, cmp true, cmp false]) (raT (sgB 9218868437227405312 a b) 0) [(mag c == 9218868437227405312, false), lU c, (decide ((0 : Int) ≤ 9218868437227405312 ∧ (9218868437227405312 : Int) < 9223372036854775808), true), (mag a == 9218868437227405312, true), lU a, (decide (cl c > 3), false), lU c, (decide (cl b > 3), false), lU b, (decide (cl a > 3), false), lU a, (badB a b, false), (decide (U a ∧ U b), true)] := ⟨by kernel_rfl, by kernel_rfl, by kernel_rfl, by kernel_rfl⟩
theorem rf_eaTF (a b c m : Int) : Fits (reckon (tabH Tryz.prog extY conRB hcX) 300 36 [.int .u64 a, .int .u64 b, .int .u64 c, .int .i64 m] [cmp false, cmp false, cmp false, cmp false, cmp true, cmp true, cmp false]) (raT (sgB 9218868437227405312 a b) 0) [(c != sgB 9218868437227405312 a b, false), (mag c == 9218868437227405312, true), lU c, (decide ((0 : Int) ≤ 9218868437227405312 ∧ (9218868437227405312 : Int) < 9223372036854775808), true), (mag a == 9218868437227405312, true), lU a, (decide (cl c > 3), false), lU c, (decide (cl b > 3), false), lU b, (decide (cl a > 3), false), lU a, (badB a b, false), (decide (U a ∧ U b), true)] := ⟨by kernel_rfl, by kernel_rfl, by kernel_rfl, by kernel_rfl⟩
theorem rf_eaTT (a b c m : Int) : Fits (reckon (tabH Tryz.prog extY conRB hcX) 300 36 [.int .u64 a, .int .u64 b, .int .u64 c, .int .i64 m] [cmp false, cmp false, cmp false, cmp false, cmp true, cmp true, cmp true]) (raT 9221120237041090560 1) [(c != sgB 9218868437227405312 a b, true), (mag c == 9218868437227405312, true), lU c, (decide ((0 : Int) ≤ 9218868437227405312 ∧ (9218868437227405312 : Int) < 9223372036854775808), true), (mag a == 9218868437227405312, true), lU a, (decide (cl c > 3), false), lU c, (decide (cl b > 3), false), lU b, (decide (cl a > 3), false), lU a, (badB a b, false), (decide (U a ∧ U b), true)] := ⟨by kernel_rfl, by kernel_rfl, by kernel_rfl, by kernel_rfl⟩
theorem rf_ebF (a b c m : Int) : Fits (reckon (tabH Tryz.prog extY conRB hcX) 300 36 [.int .u64 a, .int .u64 b, .int .u64 c, .int .i64 m] [cmp false, cmp false, cmp false, cmp false, cmp false, cmp true, cmp false]) (raT (sgB 9218868437227405312 a b) 0) [(mag c == 9218868437227405312, false), lU c, (decide ((0 : Int) ≤ 9218868437227405312 ∧ (9218868437227405312 : Int) < 9223372036854775808), true), (mag b == 9218868437227405312, true), lU b, (mag a == 9218868437227405312, false), lU a, (decide (cl c > 3), false), lU c, (decide (cl b > 3), false), lU b, (decide (cl a > 3), false), lU a, (badB a b, false), (decide (U a ∧ U b), true)] := ⟨by kernel_rfl, by kernel_rfl, by kernel_rfl, by kernel_rfl⟩
theorem rf_ebTF (a b c m : Int) : Fits (reckon (tabH Tryz.prog extY conRB hcX) 300 36 [.int .u64 a, .int .u64 b, .int .u64 c, .int .i64 m] [cmp false, cmp false, cmp false, cmp false, cmp false, cmp true, cmp true, cmp false]) (raT (sgB 9218868437227405312 a b) 0) [(c != sgB 9218868437227405312 a b, false), (mag c == 9218868437227405312, true), lU c, (decide ((0 : Int) ≤ 9218868437227405312 ∧ (9218868437227405312 : Int) < 9223372036854775808), true), (mag b == 9218868437227405312, true), lU b, (mag a == 9218868437227405312, false), lU a, (decide (cl c > 3), false), lU c, (decide (cl b > 3), false), lU b, (decide (cl a > 3), false), lU a, (badB a b, false), (decide (U a ∧ U b), true)] := ⟨by kernel_rfl, by kernel_rfl, by kernel_rfl, by kernel_rfl⟩
theorem rf_ebTT (a b c m : Int) : Fits (reckon (tabH Tryz.prog extY conRB hcX) 300 36 [.int .u64 a, .int .u64 b, .int .u64 c, .int .i64 m] [cmp false, cmp false, cmp false, cmp false, cmp false, cmp true, cmp true, cmp true]) (raT 9221120237041090560 1) [(c != sgB 9218868437227405312 a b, true), (mag c == 9218868437227405312, true), lU c, (decide ((0 : Int) ≤ 9218868437227405312 ∧ (9218868437227405312 : Int) < 9223372036854775808), true), (mag b == 9218868437227405312, true), lU b, (mag a == 9218868437227405312, false), lU a, (decide (cl c > 3), false), lU c, (decide (cl b > 3), false), lU b, (decide (cl a > 3), false), lU a, (badB a b, false), (decide (U a ∧ U b), true)] := ⟨by kernel_rfl, by kernel_rfl, by kernel_rfl, by kernel_rfl⟩
theorem rf_ec (a b c m : Int) : Fits (reckon (tabH Tryz.prog extY conRB hcX) 300 36 [.int .u64 a, .int .u64 b, .int .u64 c, .int .i64 m] [cmp false, cmp false, cmp false, cmp false, cmp false, cmp false, cmp true]) (raT c 0) [(mag c == 9218868437227405312, true), lU c, (mag b == 9218868437227405312, false), lU b, (mag a == 9218868437227405312, false), lU a, (decide (cl c > 3), false), lU c, (decide (cl b > 3), false), lU b, (decide (cl a > 3), false), lU a, (badB a b, false), (decide (U a ∧ U b), true)] := ⟨by kernel_rfl, by kernel_rfl, by kernel_rfl, by kernel_rfl⟩
theorem rf_fz (a b c m : Int) : Fits (reckon (tabH Tryz.prog extY conRB hcX) 300 36 [.int .u64 a, .int .u64 b, .int .u64 c, .int .i64 m] [cmp false, cmp false, cmp false, cmp false, cmp false, cmp false, cmp false, cmp false]) (raT (sS (nM m a b c) 0) 0) [(decide (sM a b c ≠ 0), false), (okSm (hM2 a b c) (adSu 0 0) (adSu 1 0) (d16 (prV a b)).length (d16 (prV a b)).length (d16 (sg c).toNat).length (d16 (sg c).toNat).length (prE a b) (xp c), true), lU c, (decide (U a ∧ U b), true), (mag c == 9218868437227405312, false), lU c, (mag b == 9218868437227405312, false), lU b, (mag a == 9218868437227405312, false), lU a, (decide (cl c > 3), false), lU c, (decide (cl b > 3), false), lU b, (decide (cl a > 3), false), lU a, (badB a b, false), (decide (U a ∧ U b), true)] := ⟨by kernel_rfl, by kernel_rfl, by kernel_rfl, by kernel_rfl⟩
theorem rf_fr (a b c m : Int) : Fits (reckon (tabH Tryz.prog extY conRB hcX) 300 36 [.int .u64 a, .int .u64 b, .int .u64 c, .int .i64 m] [cmp false, cmp false, cmp false, cmp false, cmp false, cmp false, cmp false, cmp true]) (raT (sS (nM m a b c) (rnP m (nM m a b c) (vO (hM3f a b c) (adSu 2 0) (d16 (sM a b c).natAbs).length) (lM a b c))) (rnF m (nM m a b c) (vO (hM3f a b c) (adSu 2 0) (d16 (sM a b c).natAbs).length) (lM a b c))) [(okRo (hM3f a b c) (adSu 2 0) (d16 (sM a b c).natAbs).length (d16 (sM a b c).natAbs).length (lM a b c), true), (decide (sM a b c ≠ 0), true), (okSm (hM2 a b c) (adSu 0 0) (adSu 1 0) (d16 (prV a b)).length (d16 (prV a b)).length (d16 (sg c).toNat).length (d16 (sg c).toNat).length (prE a b) (xp c), true), lU c, (decide (U a ∧ U b), true), (mag c == 9218868437227405312, false), lU c, (mag b == 9218868437227405312, false), lU b, (mag a == 9218868437227405312, false), lU a, (decide (cl c > 3), false), lU c, (decide (cl b > 3), false), lU b, (decide (cl a > 3), false), lU a, (badB a b, false), (decide (U a ∧ U b), true)] := ⟨by kernel_rfl, by kernel_rfl, by kernel_rfl, by kernel_rfl⟩
/-! ### its numbers -/
theorem len7 (a b : Int) : (d16 (prV a b)).length ≤ 7 := by
  have := prV_lt a b
  refine d16_len (k := 7) ?_
  have e : (2 : Nat) ^ (16 * 7) = 5192296858534827628530496329220096 := rfl
  omega
theorem okSm_2 (a b c : Int) : okSm (hM2 a b c) (adSu 0 0) (adSu 1 0) (d16 (prV a b)).length (d16 (prV a b)).length (d16 (sg c).toNat).length (d16 (sg c).toNat).length (prE a b) (xp c) = true := by
  have h0 : (hM2 a b c).blk? 0 = some (wU (d16 (prV a b)), tU) := rfl
  have h1 : (hM2 a b c).blk? 1 = some (wU (d16 (sg c).toNat), tU) := rfl
  have l := len7 a b
  have lc := len4 c
  have hE := prE_bd a b
  have xc := xp_bd c
  unfold okSm adSu
  rw [rowP_d16 h0 (by omega), rowOf_d16 h0, rowP_d16 h1 (by omega), rowOf_d16 h1, show canB (d16 (prV a b)) = true from canB_mk (can_db (by omega) _), show canB (d16 (sg c).toNat) = true from canB_mk (can_db (by omega) _), blt_iff.2 (by omega), blt_iff.2 (by omega), decide_eq_true ⟨⟨by omega, by omega⟩, by omega, by omega⟩]
  rfl
theorem sM_eq (a b c : Int) : sM a b c = smI (lM a b c) (prN a b) (prE a b) (prV a b) (sgn c) (xp c) (sg c).toNat := by
  have h0 : (hM2 a b c).blk? 0 = some (wU (d16 (prV a b)), tU) := rfl
  have h1 : (hM2 a b c).blk? 1 = some (wU (d16 (sg c).toNat), tU) := rfl
  unfold sM smH smS
  rw [vO_ad h0, vO_ad h1]
  rfl
theorem lM_bd (a b c : Int) : -2148 ≤ lM a b c ∧ (lM a b c = prE a b ∨ lM a b c = xp c) := by
  have hE := prE_bd a b
  have xc := xp_bd c
  exact ⟨lowF_bd (by omega) (by omega) _ _, low_nearF _ _⟩
theorem sM_fs (a b c : Int) : fsI a b c = sM a b c * ((2 ^ (lM a b c - -2148).toNat : Nat) : Int) := by
  have hE := prE_bd a b
  have xc := xp_bd c
  rw [sM_eq]
  exact sm_lowF (by omega) (by omega) (len_zeroF _) (len_zeroF _) _ _
theorem sM_sgn (m a b c : Int) : nM m a b c = fsN m a b c := by
  unfold nM fsN
  rw [sM_fs, sgS_mul m _ _ _ (Nat.pow_pos (by omega))]
theorem sM_round (m : Int) (n : Bool) (a b c : Int) : rnP m n (sM a b c).natAbs (lM a b c) = rnP m n (fsI a b c).natAbs (-2148) ∧ rnF m n (sM a b c).natAbs (lM a b c) = rnF m n (fsI a b c).natAbs (-2148) := by
  have hl := (lM_bd a b c).1
  have ea : (fsI a b c).natAbs = (sM a b c).natAbs * 2 ^ (lM a b c - -2148).toNat := by rw [sM_fs, Int.natAbs_mul, Int.natAbs_natCast]
  have eG : lM a b c - ((lM a b c - -2148).toNat : Int) = -2148 := by omega
  have sp := rnP_scale m n (sM a b c).natAbs (lM a b c - -2148).toNat (lM a b c)
  have sf := rnF_scale m n (sM a b c).natAbs (lM a b c - -2148).toNat (lM a b c)
  rw [eG, ← ea] at sp sf
  exact ⟨sp.symm, sf.symm⟩
theorem sM_zero {a b c : Int} (h : sM a b c = 0) : fsI a b c = 0 := by rw [sM_fs, h, Int.zero_mul]
theorem sM_lt (a b c : Int) : (sM a b c).natAbs < 2 ^ (16 * 300) := by
  have hE := prE_bd a b
  have xc := xp_bd c
  have hV := prV_lt a b
  have hc := sg_lt c
  obtain ⟨hl, hn⟩ := lM_bd a b c
  have e106 : (2 : Nat) ^ 106 = 81129638414606681695789005144064 := rfl
  obtain ⟨j, hj⟩ : ∃ j : Nat, j = 4200 := ⟨_, rfl⟩
  have p1 := szF_ltF (F := lM a b c) (E := prE a b) (X := prV a b) (k := 106) (j := j) (by omega) (by omega)
  have p2 := szF_ltF (F := lM a b c) (E := xp c) (X := (sg c).toNat) (k := 106) (j := j) (by omega) (by omega)
  obtain ⟨i, hi⟩ : ∃ i : Nat, i = 494 := ⟨_, rfl⟩
  have e : (2 : Nat) ^ (16 * 300) = 2 ^ i * 2 ^ (106 + j) := by rw [← Nat.pow_add]; congr 1; omega
  have h2 : 2 ^ 1 ≤ 2 ^ i := Nat.pow_le_pow_right (by omega) (by omega)
  have h3 := Nat.mul_le_mul_right (2 ^ (106 + j)) h2
  have h4 : 2 ^ 1 * 2 ^ (106 + j) = 2 * 2 ^ (106 + j) := rfl
  rw [sM_eq]
  unfold smI
  rw [e]
  rw [h4] at h3
  clear h4 h2 e
  generalize szF (lM a b c) (prE a b) (prV a b) = P at *
  generalize szF (lM a b c) (xp c) (sg c).toNat = Q at *
  generalize (2 : Nat) ^ (106 + j) = Z at *
  generalize (2 : Nat) ^ i * Z = Y at *
  cases prN a b <;> cases sgn c <;> simp only [sgI] <;> omega
theorem okRo_3 (a b c : Int) : okRo (hM3f a b c) (adSu 2 0) (d16 (sM a b c).natAbs).length (d16 (sM a b c).natAbs).length (lM a b c) = true := by
  have h2 : (hM3f a b c).blk? 2 = some (wU (d16 (sM a b c).natAbs), tU) := rfl
  have hl : (d16 (sM a b c).natAbs).length ≤ 300 := d16_len (sM_lt a b c)
  have hE := prE_bd a b
  have xc := xp_bd c
  have hn := (lM_bd a b c).2
  unfold okRo adSu
  rw [rowP_d16 h2 (by omega), rowOf_d16 h2, show canB (d16 (sM a b c).natAbs) = true from canB_mk (can_db (by omega) _), blt_iff.2 (by omega), decide_eq_true (by omega)]
  rfl
theorem rfma_calls6 (a b c m : Int) (ha : U a) (hb : U b) (hcU : U c) (w : World) : Calls Tryz.prog 36 #[.int .u64 a, .int .u64 b, .int .u64 c, .int .i64 m] w fun r w' => r = .returned (raT (fmP m a b c) (fmF m a b c)) ∧ Tidy w w' := by
  have hv : ([.int .u64 a, .int .u64 b, .int .u64 c, .int .i64 m].all (lt 0)) = true := rfl
  have T := tabH_ok conRB_ok hcX_ok
  have ka : decide (U a) = true := decide_eq_true ha
  have kb : decide (U b) = true := decide_eq_true hb
  have kc : decide (U c) = true := decide_eq_true hcU
  have kab : decide (U a ∧ U b) = true := decide_eq_true ⟨ha, hb⟩
  obtain ⟨a1, a2, a3⟩ := mag_cl a
  obtain ⟨b1, b2, b3⟩ := mag_cl b
  obtain ⟨c1, c2, c3⟩ := mag_cl c
  unfold fmP fmF
  by_cases hbd : badB a b = true
  · rw [if_pos hbd, if_pos hbd]
    exact fits_calls T (rf_bad a b c m) (okCons hbd (okL1 kab)) hv (by rfl) w
  · have hb0 : badB a b = false := by simpa using hbd
    rw [if_neg hbd, if_neg hbd]
    by_cases ha3 : 3 < cl a
    · rw [if_pos (.inl ha3), if_pos (.inl ha3)]
      by_cases a5 : cl a = 5
      · by_cases c5 : cl c = 5
        · rw [if_pos (by omega)]
          exact fits_calls T (rf_a11 a b c m) (okCons (beq_t c5) (okCons kc (okCons (beq_t a5) (okCons ka (okCons (decide_eq_true ha3) (okCons ka (okCons hb0 (okL1 kab)))))))) hv (by rfl) w
        · rw [if_pos (by omega)]
          exact fits_calls T (rf_a10 a b c m) (okCons (beq_f (by omega)) (okCons kc (okCons (beq_f (by omega)) (okCons kc (okCons (beq_t a5) (okCons ka (okCons (decide_eq_true ha3) (okCons ka (okCons hb0 (okL1 kab)))))))))) hv (by rfl) w
      · by_cases b5 : cl b = 5
        · by_cases c5 : cl c = 5
          · rw [if_pos (by omega)]
            exact fits_calls T (rf_a21 a b c m) (okCons (beq_t c5) (okCons kc (okCons (beq_t b5) (okCons kb (okCons (beq_f (by omega)) (okCons ka (okCons (decide_eq_true ha3) (okCons ka (okCons hb0 (okL1 kab)))))))))) hv (by rfl) w
          · rw [if_pos (by omega)]
            exact fits_calls T (rf_a20 a b c m) (okCons (beq_f (by omega)) (okCons kc (okCons (beq_f (by omega)) (okCons kc (okCons (beq_t b5) (okCons kb (okCons (beq_f (by omega)) (okCons ka (okCons (decide_eq_true ha3) (okCons ka (okCons hb0 (okL1 kab)))))))))))) hv (by rfl) w
        · by_cases c5 : cl c = 5
          · rw [if_pos (by omega)]
            exact fits_calls T (rf_a01 a b c m) (okCons (beq_t c5) (okCons kc (okCons (beq_f (by omega)) (okCons kb (okCons (beq_f (by omega)) (okCons ka (okCons (decide_eq_true ha3) (okCons ka (okCons hb0 (okL1 kab)))))))))) hv (by rfl) w
          · rw [if_neg (by omega)]
            exact fits_calls T (rf_a00 a b c m) (okCons (beq_f (by omega)) (okCons kc (okCons (beq_f (by omega)) (okCons kc (okCons (beq_f (by omega)) (okCons kb (okCons (beq_f (by omega)) (okCons ka (okCons (decide_eq_true ha3) (okCons ka (okCons hb0 (okL1 kab)))))))))))) hv (by rfl) w
    · by_cases hb3 : 3 < cl b
      · rw [if_pos (.inr (.inl hb3)), if_pos (.inr (.inl hb3))]
        by_cases b5 : cl b = 5
        · by_cases c5 : cl c = 5
          · rw [if_pos (by omega)]
            exact fits_calls T (rf_b21 a b c m) (okCons (beq_t c5) (okCons kc (okCons (beq_t b5) (okCons kb (okCons (beq_f (by omega)) (okCons ka (okCons (decide_eq_true hb3) (okCons kb (okCons (decide_eq_false ha3) (okCons ka (okCons hb0 (okL1 kab)))))))))))) hv (by rfl) w
          · rw [if_pos (by omega)]
            exact fits_calls T (rf_b20 a b c m) (okCons (beq_f (by omega)) (okCons kc (okCons (beq_f (by omega)) (okCons kc (okCons (beq_t b5) (okCons kb (okCons (beq_f (by omega)) (okCons ka (okCons (decide_eq_true hb3) (okCons kb (okCons (decide_eq_false ha3) (okCons ka (okCons hb0 (okL1 kab)))))))))))))) hv (by rfl) w
        · by_cases c5 : cl c = 5
          · rw [if_pos (by omega)]
            exact fits_calls T (rf_b01 a b c m) (okCons (beq_t c5) (okCons kc (okCons (beq_f (by omega)) (okCons kb (okCons (beq_f (by omega)) (okCons ka (okCons (decide_eq_true hb3) (okCons kb (okCons (decide_eq_false ha3) (okCons ka (okCons hb0 (okL1 kab)))))))))))) hv (by rfl) w
          · rw [if_neg (by omega)]
            exact fits_calls T (rf_b00 a b c m) (okCons (beq_f (by omega)) (okCons kc (okCons (beq_f (by omega)) (okCons kc (okCons (beq_f (by omega)) (okCons kb (okCons (beq_f (by omega)) (okCons ka (okCons (decide_eq_true hb3) (okCons kb (okCons (decide_eq_false ha3) (okCons ka (okCons hb0 (okL1 kab)))))))))))))) hv (by rfl) w
      · by_cases hc3 : 3 < cl c
        · rw [if_pos (.inr (.inr hc3)), if_pos (.inr (.inr hc3))]
          by_cases c5 : cl c = 5
          · rw [if_pos (by omega)]
            exact fits_calls T (rf_c01 a b c m) (okCons (beq_t c5) (okCons kc (okCons (beq_f (by omega)) (okCons kb (okCons (beq_f (by omega)) (okCons ka (okCons (decide_eq_true hc3) (okCons kc (okCons (decide_eq_false hb3) (okCons kb (okCons (decide_eq_false ha3) (okCons ka (okCons hb0 (okL1 kab)))))))))))))) hv (by rfl) w
          · rw [if_neg (by omega)]
            exact fits_calls T (rf_c00 a b c m) (okCons (beq_f (by omega)) (okCons kc (okCons (beq_f (by omega)) (okCons kc (okCons (beq_f (by omega)) (okCons kb (okCons (beq_f (by omega)) (okCons ka (okCons (decide_eq_true hc3) (okCons kc (okCons (decide_eq_false hb3) (okCons kb (okCons (decide_eq_false ha3) (okCons ka (okCons hb0 (okL1 kab)))))))))))))))) hv (by rfl) w
        · have hno : ¬ (3 < cl a ∨ 3 < cl b ∨ 3 < cl c) := by omega
          rw [if_neg hno, if_neg hno]
          have ci : cl (sS (prN a b) inf) = 3 := by cases prN a b <;> decide
          by_cases ae : cl a = 3
          · rw [if_pos (.inl ae), if_pos (.inl ae)]
            by_cases ce : cl c = 3
            · by_cases hc : c = sgB 9218868437227405312 a b
              · obtain ⟨p1, p2⟩ := suP_infa (m := m) (b := c) ci (by omega) (fun h => h.2 hc.symm)
                rw [p1, p2]
                exact fits_calls T (rf_eaTF a b c m) (okCons (bne_f hc) (okCons (beq_t (c2.1 ce)) (okCons kc (okCons (by decide) (okCons (beq_t (a2.1 ae)) (okCons ka (okCons (decide_eq_false hc3) (okCons kc (okCons (decide_eq_false hb3) (okCons kb (okCons (decide_eq_false ha3) (okCons ka (okCons hb0 (okL1 kab)))))))))))))) hv (by rfl) w
              · obtain ⟨p1, p2⟩ := suP_infi (m := m) (b := c) ci ce (fun h => hc h.symm)
                rw [p1, p2]
                exact fits_calls T (rf_eaTT a b c m) (okCons (bne_t hc) (okCons (beq_t (c2.1 ce)) (okCons kc (okCons (by decide) (okCons (beq_t (a2.1 ae)) (okCons ka (okCons (decide_eq_false hc3) (okCons kc (okCons (decide_eq_false hb3) (okCons kb (okCons (decide_eq_false ha3) (okCons ka (okCons hb0 (okL1 kab)))))))))))))) hv (by rfl) w
            · obtain ⟨p1, p2⟩ := suP_infa (m := m) (b := c) ci (by omega) (fun h => ce h.1)
              rw [p1, p2]
              exact fits_calls T (rf_eaF a b c m) (okCons (beq_f (fun e => ce (c2.2 e))) (okCons kc (okCons (by decide) (okCons (beq_t (a2.1 ae)) (okCons ka (okCons (decide_eq_false hc3) (okCons kc (okCons (decide_eq_false hb3) (okCons kb (okCons (decide_eq_false ha3) (okCons ka (okCons hb0 (okL1 kab))))))))))))) hv (by rfl) w
          · by_cases be : cl b = 3
            · rw [if_pos (.inr be), if_pos (.inr be)]
              by_cases ce : cl c = 3
              · by_cases hc : c = sgB 9218868437227405312 a b
                · obtain ⟨p1, p2⟩ := suP_infa (m := m) (b := c) ci (by omega) (fun h => h.2 hc.symm)
                  rw [p1, p2]
                  exact fits_calls T (rf_ebTF a b c m) (okCons (bne_f hc) (okCons (beq_t (c2.1 ce)) (okCons kc (okCons (by decide) (okCons (beq_t (b2.1 be)) (okCons kb (okCons (beq_f (fun e => ae (a2.2 e))) (okCons ka (okCons (decide_eq_false hc3) (okCons kc (okCons (decide_eq_false hb3) (okCons kb (okCons (decide_eq_false ha3) (okCons ka (okCons hb0 (okL1 kab)))))))))))))))) hv (by rfl) w
                · obtain ⟨p1, p2⟩ := suP_infi (m := m) (b := c) ci ce (fun h => hc h.symm)
                  rw [p1, p2]
                  exact fits_calls T (rf_ebTT a b c m) (okCons (bne_t hc) (okCons (beq_t (c2.1 ce)) (okCons kc (okCons (by decide) (okCons (beq_t (b2.1 be)) (okCons kb (okCons (beq_f (fun e => ae (a2.2 e))) (okCons ka (okCons (decide_eq_false hc3) (okCons kc (okCons (decide_eq_false hb3) (okCons kb (okCons (decide_eq_false ha3) (okCons ka (okCons hb0 (okL1 kab)))))))))))))))) hv (by rfl) w
              · obtain ⟨p1, p2⟩ := suP_infa (m := m) (b := c) ci (by omega) (fun h => ce h.1)
                rw [p1, p2]
                exact fits_calls T (rf_ebF a b c m) (okCons (beq_f (fun e => ce (c2.2 e))) (okCons kc (okCons (by decide) (okCons (beq_t (b2.1 be)) (okCons kb (okCons (beq_f (fun e => ae (a2.2 e))) (okCons ka (okCons (decide_eq_false hc3) (okCons kc (okCons (decide_eq_false hb3) (okCons kb (okCons (decide_eq_false ha3) (okCons ka (okCons hb0 (okL1 kab))))))))))))))) hv (by rfl) w
            · have hno2 : ¬ (cl a = 3 ∨ cl b = 3) := by omega
              rw [if_neg hno2, if_neg hno2]
              by_cases ce : cl c = 3
              · rw [if_pos ce, if_pos ce]
                exact fits_calls T (rf_ec a b c m) (okCons (beq_t (c2.1 ce)) (okCons kc (okCons (beq_f (fun e => be (b2.2 e))) (okCons kb (okCons (beq_f (fun e => ae (a2.2 e))) (okCons ka (okCons (decide_eq_false hc3) (okCons kc (okCons (decide_eq_false hb3) (okCons kb (okCons (decide_eq_false ha3) (okCons ka (okCons hb0 (okL1 kab)))))))))))))) hv (by rfl) w
              · rw [if_neg ce, if_neg ce]
                by_cases hz : sM a b c = 0
                · have hp := sM_zero hz
                  have e1 : fsP m a b c = 0 := by unfold fsP; rw [hp]; simp [rnP]
                  have e2 : fsF m a b c = 0 := by unfold fsF; rw [hp]; simp [rnF]
                  have hf := rf_fz a b c m
                  rw [sM_sgn] at hf
                  rw [e1, e2]
                  exact fits_calls T hf (okCons (decide_eq_false (fun h => h hz)) (okCons (okSm_2 a b c) (okCons kc (okCons kab (okCons (beq_f (fun e => ce (c2.2 e))) (okCons kc (okCons (beq_f (fun e => be (b2.2 e))) (okCons kb (okCons (beq_f (fun e => ae (a2.2 e))) (okCons ka (okCons (decide_eq_false hc3) (okCons kc (okCons (decide_eq_false hb3) (okCons kb (okCons (decide_eq_false ha3) (okCons ka (okCons hb0 (okL1 kab)))))))))))))))))) hv (by rfl) w
                · have hf := rf_fr a b c m
                  have h2 : (hM3f a b c).blk? 2 = some (wU (d16 (sM a b c).natAbs), tU) := rfl
                  have hr := sM_round m (fsN m a b c) a b c
                  rw [sM_sgn, vO_ad h2, hr.1, hr.2] at hf
                  exact fits_calls T hf (okCons (okRo_3 a b c) (okCons (decide_eq_true hz) (okCons (okSm_2 a b c) (okCons kc (okCons kab (okCons (beq_f (fun e => ce (c2.2 e))) (okCons kc (okCons (beq_f (fun e => be (b2.2 e))) (okCons kb (okCons (beq_f (fun e => ae (a2.2 e))) (okCons ka (okCons (decide_eq_false hc3) (okCons kc (okCons (decide_eq_false hb3) (okCons kb (okCons (decide_eq_false ha3) (okCons ka (okCons hb0 (okL1 kab))))))))))))))))))) hv (by rfl) w
def gRM : Ans := fun vals s =>
  match vals with
  | [.int .u64 a, .int .u64 b, .int .i64 m] => some (raT (muP m a b) (muF m a b), s, [(decide (U a ∧ U b), true)])
  | _ => none
def gRF : Ans := fun vals s =>
  match vals with
  | [.int .u64 a, .int .u64 b, .int .u64 c, .int .i64 m] => some (raT (fmP m a b c) (fmF m a b c), s, [(decide (U a ∧ U b ∧ U c), true)])
  | _ => none
theorem gRF_ok : AnsOk 36 gRF := by
  intro vals s v s' lg h hl w
  unfold gRF at h
  split at h
  · cases h
    obtain ⟨h1, h2, h3⟩ := of_decide_eq_true (hl _ (List.mem_singleton.2 rfl))
    exact rfma_calls6 _ _ _ _ h1 h2 h3 w
  · cases h
end Go.Proofs.YtjkgnbdeklploaaGreatDoor
namespace Go.Proofs.YtjkgnbdeklploaaGreatDoor
open Go.KRun Go.Wd Go.Pt Go.Rn
set_option maxRecDepth 100000
theorem rnF_bd6 (m : Int) (n : Bool) (T : Nat) (E : Int) : 0 ≤ rnF m n T E ∧ rnF m n T E ≤ 24 := by
  unfold rnF
  split
  · omega
  · split
    · omega
    · split
      · split <;> omega
      · omega
theorem suF_bd6 (m a b : Int) : 0 ≤ suF m a b ∧ suF m a b ≤ 24 := by
  have h' : 0 ≤ adF m a b ∧ adF m a b ≤ 24 := rnF_bd6 _ _ _ _
  unfold suF
  split
  · split <;> omega
  · split
    · split <;> omega
    · split <;> omega
theorem fmF_bd (m a b c : Int) : 0 ≤ fmF m a b c ∧ fmF m a b c ≤ 24 := by
  have h' : 0 ≤ fsF m a b c ∧ fsF m a b c ≤ 24 := rnF_bd6 _ _ _ _
  unfold fmF
  split
  · omega
  · split
    · split <;> omega
    · split
      · exact suF_bd6 _ _ _
      · split <;> omega
end Go.Proofs.YtjkgnbdeklploaaGreatDoor
namespace Go.Proofs.YtjkgnbdeklploaaGreatDoor
open Go.KRun Go.Nt Go.Wd Go.Rn Go.Pt
set_option maxRecDepth 100000
set_option linter.unusedVariables false
def hP2 (a b : Int) : Hp := ⟨2, [(wU (d16 (sg b).toNat), tU), (wU (d16 (sg a).toNat), tU)]⟩
def sH (a b : Int) : Int := smH (hP2 a b) (sgn a) (sgn b) (xp a) (xp b) 0 0 (d16 (sg a).toNat).length 1 0 (d16 (sg b).toNat).length
def lH (a b : Int) : Int := lowS (xp a) (xp b) (d16 (sg a).toNat).length (d16 (sg b).toNat).length
def hP3 (a b : Int) : Hp := nxt (hP2 a b) (sH a b).natAbs
def lFi (a b : Int) : Log := [(okSm (hP2 a b) (adSu 0 0) (adSu 1 0) (d16 (sg a).toNat).length (d16 (sg a).toNat).length (d16 (sg b).toNat).length (d16 (sg b).toNat).length (xp a) (xp b), true), lU b, lU a, (mag b == 9218868437227405312, false), lU b, (mag a == 9218868437227405312, false), lU a, (decide (cl b > 3), false), lU b, (decide (cl a > 3), false), lU a]
theorem ra_n1 (a b m : Int) : Fits (reckon (tabH Tryz.prog extY conRA hcS) 300 33 [.int .u64 a, .int .u64 b, .int .i64 m] [cmp true, cmp true]) (raT 9221120237041090560 1) [(cl a == 5, true), lU a, (decide (cl a > 3), true), lU a] := ⟨by kernel_rfl, by kernel_rfl, by kernel_rfl, by kernel_rfl⟩
theorem ra_n2 (a b m : Int) : Fits (reckon (tabH Tryz.prog extY conRA hcS) 300 33 [.int .u64 a, .int .u64 b, .int .i64 m] [cmp true, cmp false, cmp true]) (raT 9221120237041090560 1) [(cl b == 5, true), lU b, (cl a == 5, false), lU a, (decide (cl a > 3), true), lU a] := ⟨by kernel_rfl, by kernel_rfl, by kernel_rfl, by kernel_rfl⟩
theorem ra_n3 (a b m : Int) : Fits (reckon (tabH Tryz.prog extY conRA hcS) 300 33 [.int .u64 a, .int .u64 b, .int .i64 m] [cmp true, cmp false, cmp false]) (raT 9221120237041090560 0) [(cl b == 5, false), lU b, (cl a == 5, false), lU a, (decide (cl a > 3), true), lU a] := ⟨by kernel_rfl, by kernel_rfl, by kernel_rfl, by kernel_rfl⟩
theorem ra_m2 (a b m : Int) : Fits (reckon (tabH Tryz.prog extY conRA hcS) 300 33 [.int .u64 a, .int .u64 b, .int .i64 m] [cmp false, cmp true, cmp false, cmp true]) (raT 9221120237041090560 1) [(cl b == 5, true), lU b, (cl a == 5, false), lU a, (decide (cl b > 3), true), lU b, (decide (cl a > 3), false), lU a] := ⟨by kernel_rfl, by kernel_rfl, by kernel_rfl, by kernel_rfl⟩
theorem ra_m3 (a b m : Int) : Fits (reckon (tabH Tryz.prog extY conRA hcS) 300 33 [.int .u64 a, .int .u64 b, .int .i64 m] [cmp false, cmp true, cmp false, cmp false]) (raT 9221120237041090560 0) [(cl b == 5, false), lU b, (cl a == 5, false), lU a, (decide (cl b > 3), true), lU b, (decide (cl a > 3), false), lU a] := ⟨by kernel_rfl, by kernel_rfl, by kernel_rfl, by kernel_rfl⟩
theorem ra_ii (a b m : Int) : Fits (reckon (tabH Tryz.prog extY conRA hcS) 300 33 [.int .u64 a, .int .u64 b, .int .i64 m] [cmp false, cmp false, cmp true, cmp true, cmp true]) (raT 9221120237041090560 1) [(a != b, true), (mag a == mag b, true), lU b, lU a, (mag a == 9218868437227405312, true), lU a, (decide (cl b > 3), false), lU b, (decide (cl a > 3), false), lU a] := ⟨by kernel_rfl, by kernel_rfl, by kernel_rfl, by kernel_rfl⟩
theorem ra_is (a b m : Int) : Fits (reckon (tabH Tryz.prog extY conRA hcS) 300 33 [.int .u64 a, .int .u64 b, .int .i64 m] [cmp false, cmp false, cmp true, cmp true, cmp false, cmp true]) (raT a 0) [(mag a == 9218868437227405312, true), lU a, (a != b, false), (mag a == mag b, true), lU b, lU a, (mag a == 9218868437227405312, true), lU a, (decide (cl b > 3), false), lU b, (decide (cl a > 3), false), lU a] := ⟨by kernel_rfl, by kernel_rfl, by kernel_rfl, by kernel_rfl⟩
theorem ra_ia (a b m : Int) : Fits (reckon (tabH Tryz.prog extY conRA hcS) 300 33 [.int .u64 a, .int .u64 b, .int .i64 m] [cmp false, cmp false, cmp true, cmp false, cmp true]) (raT a 0) [(mag a == 9218868437227405312, true), lU a, (mag a == mag b, false), lU b, lU a, (mag a == 9218868437227405312, true), lU a, (decide (cl b > 3), false), lU b, (decide (cl a > 3), false), lU a] := ⟨by kernel_rfl, by kernel_rfl, by kernel_rfl, by kernel_rfl⟩
theorem ra_ib (a b m : Int) : Fits (reckon (tabH Tryz.prog extY conRA hcS) 300 33 [.int .u64 a, .int .u64 b, .int .i64 m] [cmp false, cmp false, cmp false, cmp true, cmp false, cmp false]) (raT b 0) [(mag a == 9218868437227405312, false), lU a, (mag a == mag b, false), lU b, lU a, (mag b == 9218868437227405312, true), lU b, (mag a == 9218868437227405312, false), lU a, (decide (cl b > 3), false), lU b, (decide (cl a > 3), false), lU a] := ⟨by kernel_rfl, by kernel_rfl, by kernel_rfl, by kernel_rfl⟩
theorem ra_fz (a b m : Int) : Fits (reckon (tabH Tryz.prog extY conRA hcS) 300 33 [.int .u64 a, .int .u64 b, .int .i64 m] [cmp false, cmp false, cmp false, cmp false, cmp false]) (raT (sS (sgS m (sgn a) (sgn b) (sH a b)) 0) 0) ((decide (sH a b ≠ 0), false) :: lFi a b) := ⟨by kernel_rfl, by kernel_rfl, by kernel_rfl, by kernel_rfl⟩
theorem ra_fr (a b m : Int) : Fits (reckon (tabH Tryz.prog extY conRA hcS) 300 33 [.int .u64 a, .int .u64 b, .int .i64 m] [cmp false, cmp false, cmp false, cmp false, cmp true]) (raT (sS (sgS m (sgn a) (sgn b) (sH a b)) (rnP m (sgS m (sgn a) (sgn b) (sH a b)) (vO (hP3 a b) (adSu 2 0) (d16 (sH a b).natAbs).length) (lH a b))) (rnF m (sgS m (sgn a) (sgn b) (sH a b)) (vO (hP3 a b) (adSu 2 0) (d16 (sH a b).natAbs).length) (lH a b))) ((okRo (hP3 a b) (adSu 2 0) (d16 (sH a b).natAbs).length (d16 (sH a b).natAbs).length (lH a b), true) :: (decide (sH a b ≠ 0), true) :: lFi a b) := ⟨by kernel_rfl, by kernel_rfl, by kernel_rfl, by kernel_rfl⟩
/-! ### its numbers -/
theorem low_bd {Ex Ey : Int} (h1 : -1074 ≤ Ex) (h2 : -1074 ≤ Ey) (n n' : Nat) : -1074 ≤ lowS Ex Ey n n' := by
  unfold lowS lowM
  split
  · exact h1
  · split
    · exact h2
    · split <;> omega
theorem sm_low {Ex Ey : Int} (h1 : -1074 ≤ Ex) (h2 : -1074 ≤ Ey) {n n' X Y : Nat} (hX : n = 0 ↔ X = 0) (hY : n' = 0 ↔ Y = 0) (nx ny : Bool) : smI (-1074) nx Ex X ny Ey Y = smI (lowS Ex Ey n n') nx Ex X ny Ey Y * ((2 ^ (lowS Ex Ey n n' - -1074).toNat : Nat) : Int) := by
  by_cases c1 : n' = 0
  · have e : lowS Ex Ey n n' = Ex := by unfold lowS; rw [if_pos c1]
    rw [e, hY.1 c1]
    unfold smI
    rw [szF_nil, szF_nil, sgI_nil, Int.add_zero, Int.add_zero, szF_low h1 (Int.le_refl Ex), sgI_mul]
  · by_cases c2 : n = 0
    · have e : lowS Ex Ey n n' = Ey := by unfold lowS; rw [if_neg c1, if_pos c2]
      rw [e, hX.1 c2]
      unfold smI
      rw [szF_nil, szF_nil, sgI_nil, Int.zero_add, Int.zero_add, szF_low h2 (Int.le_refl Ey), sgI_mul]
    · have e : lowS Ex Ey n n' = lowM Ex Ey := by unfold lowS; rw [if_neg c1, if_neg c2]
      rw [e]
      exact smI_low (by unfold lowM; split <;> omega) (by unfold lowM; split <;> omega) (by unfold lowM; split <;> omega) nx ny X Y
theorem len_zero (V : Nat) : (d16 V).length = 0 ↔ V = 0 := by
  constructor
  · intro h; exact d16_zero (by omega)
  · intro h; rw [h]; unfold d16; rw [db_zero]; rfl
theorem sH_eq (a b : Int) : sH a b = smI (lH a b) (sgn a) (xp a) (sg a).toNat (sgn b) (xp b) (sg b).toNat := by
  have h0 : (hP2 a b).blk? 0 = some (wU (d16 (sg a).toNat), tU) := rfl
  have h1 : (hP2 a b).blk? 1 = some (wU (d16 (sg b).toNat), tU) := rfl
  unfold sH smH smS
  rw [vO_ad h0, vO_ad h1]
  rfl
theorem sH_ps (a b : Int) : psI a b = sH a b * ((2 ^ (lH a b - -1074).toNat : Nat) : Int) := by
  rw [sH_eq, psI_eq]
  exact sm_low (xp_bd a).1 (xp_bd b).1 (len_zero _) (len_zero _) _ _
theorem sH_round (m : Int) (n : Bool) (a b : Int) : rnP m n (sH a b).natAbs (lH a b) = rnP m n (psI a b).natAbs (-1074) ∧ rnF m n (sH a b).natAbs (lH a b) = rnF m n (psI a b).natAbs (-1074) := by
  have hl := low_bd (xp_bd a).1 (xp_bd b).1 (d16 (sg a).toNat).length (d16 (sg b).toNat).length
  have hl' : -1074 ≤ lH a b := hl
  have ea : (psI a b).natAbs = (sH a b).natAbs * 2 ^ (lH a b - -1074).toNat := by rw [sH_ps, Int.natAbs_mul, Int.natAbs_natCast]
  have eG : lH a b - ((lH a b - -1074).toNat : Int) = -1074 := by omega
  have sp := rnP_scale m n (sH a b).natAbs (lH a b - -1074).toNat (lH a b)
  have sf := rnF_scale m n (sH a b).natAbs (lH a b - -1074).toNat (lH a b)
  rw [eG, ← ea] at sp sf
  exact ⟨sp.symm, sf.symm⟩
theorem sH_sgn (m a b : Int) : sgS m (sgn a) (sgn b) (sH a b) = adN m a b := by
  unfold adN
  rw [sH_ps, sgS_mul m _ _ _ (Nat.pow_pos (by omega))]
theorem sH_zero (a b : Int) : sH a b = 0 ↔ psI a b = 0 := by
  have hp : (0 : Int) < ((2 ^ (lH a b - -1074).toNat : Nat) : Int) := by
    have : 0 < 2 ^ (lH a b - -1074).toNat := Nat.pow_pos (by omega)
    omega
  rw [sH_ps, Int.mul_eq_zero]
  omega
theorem low_near {Ex Ey : Int} (n n' : Nat) : lowS Ex Ey n n' = Ex ∨ lowS Ex Ey n n' = Ey := by
  unfold lowS lowM
  split
  · exact .inl rfl
  · split
    · exact .inr rfl
    · split
      · exact .inr rfl
      · exact .inl rfl
theorem szF_lt {F E : Int} {X k j : Nat} (hX : X < 2 ^ k) (h : (E - F).toNat ≤ j) : szF F E X < 2 ^ (k + j) := by
  unfold szF
  have hp : 0 < 2 ^ (E - F).toNat := Nat.pow_pos (by omega)
  have h1 := Nat.mul_lt_mul_of_pos_right hX hp
  rw [← Nat.pow_add] at h1
  exact Nat.lt_of_lt_of_le h1 (Nat.pow_le_pow_right (by omega) (by omega))
theorem sH_lt (a b : Int) : (sH a b).natAbs < 2 ^ (16 * 140) := by
  have ha := sg_lt a
  have hb := sg_lt b
  have xa := xp_bd a
  have xb := xp_bd b
  have hl : lH a b = xp a ∨ lH a b = xp b := low_near _ _
  have e53 : (2 : Nat) ^ 53 = 9007199254740992 := rfl
  obtain ⟨j, hj⟩ : ∃ j : Nat, j = 2046 := ⟨_, rfl⟩
  have p1 := szF_lt (F := lH a b) (E := xp a) (X := (sg a).toNat) (k := 53) (j := j) (by omega) (by omega)
  have p2 := szF_lt (F := lH a b) (E := xp b) (X := (sg b).toNat) (k := 53) (j := j) (by omega) (by omega)
  have e : (2 : Nat) ^ (16 * 140) = 2 ^ 141 * 2 ^ (53 + j) := by rw [← Nat.pow_add]; congr 1; omega
  rw [sH_eq]
  unfold smI
  rw [e]
  generalize szF (lH a b) (xp a) (sg a).toNat = P at *
  generalize szF (lH a b) (xp b) (sg b).toNat = Q at *
  generalize (2 : Nat) ^ (53 + j) = Z at *
  have e2 : (2 : Nat) ^ 141 = 2787593149816327892691964784081045188247552 := rfl
  rw [e2]
  cases sgn a <;> cases sgn b <;> simp only [sgI] <;> omega
theorem nA_le (p : Int) : (d16 (sg p).toNat).length ≤ 4 := by
  have := sg_lt p
  refine d16_len (k := 4) ?_
  have e : (2 : Nat) ^ (16 * 4) = 18446744073709551616 := rfl
  omega
theorem okSm_pat (a b : Int) : okSm (hP2 a b) (adSu 0 0) (adSu 1 0) (d16 (sg a).toNat).length (d16 (sg a).toNat).length (d16 (sg b).toNat).length (d16 (sg b).toNat).length (xp a) (xp b) = true := by
  have h0 : (hP2 a b).blk? 0 = some (wU (d16 (sg a).toNat), tU) := rfl
  have h1 : (hP2 a b).blk? 1 = some (wU (d16 (sg b).toNat), tU) := rfl
  have la := nA_le a
  have lb := nA_le b
  have xa := xp_bd a
  have xb := xp_bd b
  unfold okSm adSu
  rw [rowP_d16 h0 (by omega), rowOf_d16 h0, rowP_d16 h1 (by omega), rowOf_d16 h1, show canB (d16 (sg a).toNat) = true from canB_mk (can_db (by omega) _), show canB (d16 (sg b).toNat) = true from canB_mk (can_db (by omega) _), blt_iff.2 (by omega), blt_iff.2 (by omega), decide_eq_true ⟨⟨by omega, by omega⟩, by omega, by omega⟩]
  rfl
theorem radd_calls (a b m : Int) (ha : U a) (hb : U b) (w : World) : Calls Tryz.prog 33 #[.int .u64 a, .int .u64 b, .int .i64 m] w fun r w' => r = .returned (raT (suP m a b) (suF m a b)) ∧ Tidy w w' := by
  have hv : ([.int .u64 a, .int .u64 b, .int .i64 m].all (lt 0)) = true := rfl
  have ka : decide (U a) = true := decide_eq_true ha
  have kb : decide (U b) = true := decide_eq_true hb
  have T := tabH_ok conRA_ok hcS_ok
  obtain ⟨a1, a2, a3⟩ := mag_cl a
  obtain ⟨b1, b2, b3⟩ := mag_cl b
  by_cases hna : 3 < cl a
  · have g1 : decide (cl a > 3) = true := decide_eq_true hna
    rw [suP_nan (.inl hna)]
    have hF : suF m a b = if cl a = 5 ∨ cl b = 5 then 1 else 0 := by unfold suF; rw [if_pos (.inl hna)]
    rw [hF]
    by_cases ca : cl a = 5
    · rw [if_pos (.inl ca)]
      exact fits_calls T (ra_n1 a b m) (okCons (beq_t ca) (okCons ka (okCons g1 (okL1 ka)))) hv (by rfl) w
    · by_cases cb : cl b = 5
      · rw [if_pos (.inr cb)]
        exact fits_calls T (ra_n2 a b m) (okCons (beq_t cb) (okCons kb (okCons (beq_f ca) (okCons ka (okCons g1 (okL1 ka)))))) hv (by rfl) w
      · rw [if_neg (by omega)]
        exact fits_calls T (ra_n3 a b m) (okCons (beq_f cb) (okCons kb (okCons (beq_f ca) (okCons ka (okCons g1 (okL1 ka)))))) hv (by rfl) w
  · have g1 : decide (cl a > 3) = false := decide_eq_false hna
    by_cases hnb : 3 < cl b
    · have g2 : decide (cl b > 3) = true := decide_eq_true hnb
      rw [suP_nan (.inr hnb)]
      have hF : suF m a b = if cl a = 5 ∨ cl b = 5 then 1 else 0 := by unfold suF; rw [if_pos (.inr hnb)]
      rw [hF]
      have ca : cl a ≠ 5 := by omega
      by_cases cb : cl b = 5
      · rw [if_pos (.inr cb)]
        exact fits_calls T (ra_m2 a b m) (okCons (beq_t cb) (okCons kb (okCons (beq_f ca) (okCons ka (okCons g2 (okCons kb (okCons g1 (okL1 ka)))))))) hv (by rfl) w
      · rw [if_neg (by omega)]
        exact fits_calls T (ra_m3 a b m) (okCons (beq_f cb) (okCons kb (okCons (beq_f ca) (okCons ka (okCons g2 (okCons kb (okCons g1 (okL1 ka)))))))) hv (by rfl) w
    · have g2 : decide (cl b > 3) = false := decide_eq_false hnb
      have l0 : okLog [(decide (cl b > 3), false), lU b, (decide (cl a > 3), false), lU a] := okCons g2 (okCons kb (okCons g1 (okL1 ka)))
      by_cases ea : cl a = 3
      · have ma : mag a = 9218868437227405312 := a2.1 ea
        by_cases eb : cl b = 3
        · have mm : mag a = mag b := by rw [ma, b2.1 eb]
          by_cases hab : a = b
          · obtain ⟨p1, p2⟩ := suP_infa (m := m) (b := b) ea (by omega) (fun h => h.2 hab)
            rw [p1, p2]
            exact fits_calls T (ra_is a b m) (okCons (beq_t ma) (okCons ka (okCons (bne_f hab) (okCons (beq_t mm) (okCons kb (okCons ka (okCons (beq_t ma) (okCons ka l0)))))))) hv (by rfl) w
          · obtain ⟨p1, p2⟩ := suP_infi (m := m) ea eb hab
            rw [p1, p2]
            exact fits_calls T (ra_ii a b m) (okCons (bne_t hab) (okCons (beq_t mm) (okCons kb (okCons ka (okCons (beq_t ma) (okCons ka l0)))))) hv (by rfl) w
        · have mm : mag a ≠ mag b := fun e => eb (b2.2 (by omega))
          obtain ⟨p1, p2⟩ := suP_infa (m := m) (b := b) ea (by omega) (fun h => eb h.1)
          rw [p1, p2]
          exact fits_calls T (ra_ia a b m) (okCons (beq_t ma) (okCons ka (okCons (beq_f mm) (okCons kb (okCons ka (okCons (beq_t ma) (okCons ka l0))))))) hv (by rfl) w
      · have ma : mag a ≠ 9218868437227405312 := fun e => ea (a2.2 e)
        by_cases eb : cl b = 3
        · have mb : mag b = 9218868437227405312 := b2.1 eb
          have mm : mag a ≠ mag b := fun e => ea (a2.2 (by omega))
          obtain ⟨p1, p2⟩ := suP_infb (m := m) (a := a) (by omega) eb
          rw [p1, p2]
          exact fits_calls T (ra_ib a b m) (okCons (beq_f ma) (okCons ka (okCons (beq_f mm) (okCons kb (okCons ka (okCons (beq_t mb) (okCons kb (okCons (beq_f ma) (okCons ka l0))))))))) hv (by rfl) w
        · have mb : mag b ≠ 9218868437227405312 := fun e => eb (b2.2 e)
          obtain ⟨p1, p2⟩ := suP_fin (m := m) (a := a) (b := b) (by omega) (by omega)
          rw [p1, p2]
          have lF : okLog (lFi a b) := okCons (okSm_pat a b) (okCons kb (okCons ka (okCons (beq_f mb) (okCons kb (okCons (beq_f ma) (okCons ka l0))))))
          by_cases hz : sH a b = 0
          · have hp := (sH_zero a b).1 hz
            have e1 : adP m a b = 0 := by unfold adP; rw [hp]; simp [rnP]
            have e2 : adF m a b = 0 := by unfold adF; rw [hp]; simp [rnF]
            have hf := ra_fz a b m
            rw [sH_sgn] at hf
            rw [e1, e2]
            exact fits_calls T hf (okCons (decide_eq_false (fun h => h hz)) lF) hv (by rfl) w
          · have hf := ra_fr a b m
            have h2 : (hP3 a b).blk? 2 = some (wU (d16 (sH a b).natAbs), tU) := rfl
            have hr := sH_round m (adN m a b) a b
            have hl : (d16 (sH a b).natAbs).length ≤ 140 := d16_len (sH_lt a b)
            have xa := xp_bd a
            have xb := xp_bd b
            have hlo : lH a b = xp a ∨ lH a b = xp b := low_near _ _
            have ko : okRo (hP3 a b) (adSu 2 0) (d16 (sH a b).natAbs).length (d16 (sH a b).natAbs).length (lH a b) = true := by
              unfold okRo adSu
              rw [rowP_d16 h2 (by omega), rowOf_d16 h2, show canB (d16 (sH a b).natAbs) = true from canB_mk (can_db (by omega) _), blt_iff.2 (by omega), decide_eq_true (by omega)]
              rfl
            rw [sH_sgn, vO_ad h2, hr.1, hr.2] at hf
            exact fits_calls T hf (okCons ko (okCons (decide_eq_true hz) lF)) hv (by rfl) w
def gRA : Ans := fun vals s =>
  match vals with
  | [.int .u64 a, .int .u64 b, .int .i64 m] => some (raT (suP m a b) (suF m a b), s, [(decide (U a ∧ U b), true)])
  | _ => none
theorem gRA_ok : AnsOk 33 gRA := by
  intro vals s v s' lg h hl w
  unfold gRA at h
  split at h
  · cases h
    obtain ⟨h1, h2⟩ := of_decide_eq_true (hl _ (List.mem_singleton.2 rfl))
    exact radd_calls _ _ _ h1 h2 w
  · cases h
end Go.Proofs.YtjkgnbdeklploaaGreatDoor
namespace Go.Proofs.YtjkgnbdeklploaaGreatDoor
open Go.KRun Go.Wd Go.Pt Go.Rn
set_option maxRecDepth 100000
theorem rnF_bd5 (m : Int) (n : Bool) (T : Nat) (E : Int) : 0 ≤ rnF m n T E ∧ rnF m n T E ≤ 24 := by
  unfold rnF
  split
  · omega
  · split
    · omega
    · split
      · split <;> omega
      · omega
theorem suF_bd (m a b : Int) : 0 ≤ suF m a b ∧ suF m a b ≤ 24 := by
  have h := rnF_bd5 m (adN m a b) (psI a b).natAbs (-1074)
  have h' : 0 ≤ adF m a b ∧ adF m a b ≤ 24 := h
  unfold suF
  split
  · split <;> omega
  · split
    · split <;> omega
    · split <;> omega
/-- flags that are told together, as bytes and as whole numbers -/
def orB (f g : Int) : Int := IntKind.u8.wrap ((BitVec.ofInt IntKind.u8.bits f ||| BitVec.ofInt IntKind.u8.bits g).toNat : Nat)
def orI (f g : Int) : Int := IntKind.i64.wrap ((BitVec.ofInt IntKind.i64.bits f ||| BitVec.ofInt IntKind.i64.bits g).toNat : Nat)
/-- a pair and flags -/
def cpB (p q f : Int) : Value := .tuple #[.agg #[.int .u64 p, .int .u64 q], .int .u8 f]
abbrev fl5 (f : Int) : Prop := 0 ≤ f ∧ f < 32
theorem or_same {f g : Int} (hf : fl5 f) (hg : fl5 g) : orB f g = orI f g ∧ fl5 (orB f g) := by
  obtain ⟨x, rfl⟩ : ∃ x : Fin 32, f = (x.val : Int) := ⟨⟨f.toNat, by unfold fl5 at hf; omega⟩, by unfold fl5 at hf; simp; omega⟩
  obtain ⟨y, rfl⟩ : ∃ y : Fin 32, g = (y.val : Int) := ⟨⟨g.toNat, by unfold fl5 at hg; omega⟩, by unfold fl5 at hg; simp; omega⟩
  have h : ∀ x y : Fin 32, decide (orB (x.val : Int) (y.val : Int) = orI (x.val : Int) (y.val : Int)) = true ∧ decide (0 ≤ orB (x.val : Int) (y.val : Int) ∧ orB (x.val : Int) (y.val : Int) < 32) = true := by decide +kernel
  exact ⟨of_decide_eq_true (h x y).1, of_decide_eq_true (h x y).2⟩
theorem png_p (p : Int) : Fits (reckon (tabOf Tryz.prog extY conN true) 300 93 [.int .u64 p] []) (.int .u64 (bXor p 9223372036854775808)) [] := ⟨by kernel_rfl, by kernel_rfl, by kernel_rfl, by kernel_rfl⟩
theorem rng_m (p : Int) : Fits (reckon (tabOf Tryz.prog extY conN true) 300 35 [.int .u64 p] [cmp true]) (.int .u64 (IntKind.u64.wrap (p - 9223372036854775808))) [(decide (p ≥ 9223372036854775808), true)] := ⟨by kernel_rfl, by kernel_rfl, by kernel_rfl, by kernel_rfl⟩
theorem rng_p (p : Int) : Fits (reckon (tabOf Tryz.prog extY conN true) 300 35 [.int .u64 p] [cmp false]) (.int .u64 (IntKind.u64.wrap (p + 9223372036854775808))) [(decide (p ≥ 9223372036854775808), false)] := ⟨by kernel_rfl, by kernel_rfl, by kernel_rfl, by kernel_rfl⟩
theorem png_calls (p : Int) (hp : U p) (w : World) : Calls Tryz.prog 93 #[.int .u64 p] w fun r w' => r = .returned (.int .u64 (ng p)) ∧ Tidy w w' := by
  have hv : ([.int .u64 p].all (lt 0)) = true := rfl
  rw [← bXor_ng hp]
  exact fits_calls (tabY_ok conN_ok) (png_p p) (fun _ h => by cases h) hv (by rfl) w
theorem rng_calls (p : Int) (hp : U p) (w : World) : Calls Tryz.prog 35 #[.int .u64 p] w fun r w' => r = .returned (.int .u64 (ng p)) ∧ Tidy w w' := by
  have hv : ([.int .u64 p].all (lt 0)) = true := rfl
  have hp' := hp
  unfold U at hp'
  by_cases hs : p ≥ 9223372036854775808
  · have e : IntKind.u64.wrap (p - 9223372036854775808) = ng p := by rw [wrapU' ⟨by omega, by omega⟩]; unfold ng; omega
    rw [← e]
    exact fits_calls (tabY_ok conN_ok) (rng_m p) (okL1 (decide_eq_true hs)) hv (by rfl) w
  · have e : IntKind.u64.wrap (p + 9223372036854775808) = ng p := by rw [wrapU' ⟨by omega, by omega⟩]; unfold ng; omega
    rw [← e]
    exact fits_calls (tabY_ok conN_ok) (rng_p p) (okL1 (decide_eq_false hs)) hv (by rfl) w
def conCg : Con := alt 93 (gU fun p => .int .u64 (ng p)) (alt 35 (gU fun p => .int .u64 (ng p)) conN)
theorem conCg_ok : ConOk conCg := alt_ok Tryz.func93 rfl (gU_ok png_calls) (alt_ok Tryz.func35 rfl (gU_ok rng_calls) conN_ok)
/-- differences -/
def conCd : Con := alt 91 gSA (alt 33 gRA (alt 76 (gU vT) conCg))
theorem conCd_ok : ConOk conCd := alt_ok Tryz.func91 rfl gSA_ok (alt_ok Tryz.func33 rfl gRA_ok (alt_ok Tryz.func76 rfl ref_ok conCg_ok))
theorem ssb_p (a b m : Int) : Fits (reckon (tabOf Tryz.prog extY conCd true) 300 92 [.int .u64 a, .int .u64 b, .int .i64 m] []) (suV m a (ng b)) [(decide (U a ∧ U (ng b)), true), (decide (U b), true)] := ⟨by kernel_rfl, by kernel_rfl, by kernel_rfl, by kernel_rfl⟩
theorem rsb_n (a b m : Int) : Fits (reckon (tabOf Tryz.prog extY conCd true) 300 34 [.int .u64 a, .int .u64 b, .int .i64 m] [cmp true]) (raT (suP m a b) (suF m a b)) [(decide (U a ∧ U b), true), (decide (cl b > 3), true), (decide (U b), true)] := ⟨by kernel_rfl, by kernel_rfl, by kernel_rfl, by kernel_rfl⟩
theorem rsb_p (a b m : Int) : Fits (reckon (tabOf Tryz.prog extY conCd true) 300 34 [.int .u64 a, .int .u64 b, .int .i64 m] [cmp false]) (raT (suP m a (ng b)) (suF m a (ng b))) [(decide (U a ∧ U (ng b)), true), (decide (U b), true), (decide (cl b > 3), false), (decide (U b), true)] := ⟨by kernel_rfl, by kernel_rfl, by kernel_rfl, by kernel_rfl⟩
theorem su_ngn {m a b : Int} (hb : U b) (h : 3 < cl b) : suP m a (ng b) = suP m a b ∧ suF m a (ng b) = suF m a b := by
  have c := (ng_num hb).2.2.1
  have h' : 3 < cl (ng b) := by omega
  refine ⟨by rw [suP_nan (.inr h), suP_nan (.inr h')], ?_⟩
  unfold suF
  rw [if_pos (show 3 < cl a ∨ 3 < cl (ng b) from .inr h'), if_pos (show 3 < cl a ∨ 3 < cl b from .inr h), c]
def gSS : Ans := fun vals s =>
  match vals with
  | [.int .u64 a, .int .u64 b, .int .i64 m] => some (suV m a (ng b), s, [(decide (U a ∧ U b), true)])
  | _ => none
theorem gSS_ok : AnsOk 92 gSS := by
  intro vals s v s' lg h hl w
  unfold gSS at h
  split at h
  · cases h
    obtain ⟨h1, h2⟩ := of_decide_eq_true (hl _ (List.mem_singleton.2 rfl))
    exact fits_calls (tabY_ok conCd_ok) (ssb_p _ _ _) (okCons (decide_eq_true ⟨h1, (ng_parts h2).1⟩) (okL1 (decide_eq_true h2))) rfl (by rfl) w
  · cases h
def gRS : Ans := fun vals s =>
  match vals with
  | [.int .u64 a, .int .u64 b, .int .i64 m] => some (raT (suP m a (ng b)) (suF m a (ng b)), s, [(decide (U a ∧ U b), true)])
  | _ => none
theorem gRS_ok : AnsOk 34 gRS := by
  intro vals s v s' lg h hl w
  unfold gRS at h
  split at h
  · rename_i a b m
    cases h
    obtain ⟨h1, h2⟩ := of_decide_eq_true (hl _ (List.mem_singleton.2 rfl))
    have k1 : decide (U a ∧ U b) = true := decide_eq_true ⟨h1, h2⟩
    have k2 : decide (U b) = true := decide_eq_true h2
    by_cases hn : 3 < cl b
    · obtain ⟨e1, e2⟩ := su_ngn (m := m) (a := a) h2 hn
      rw [e1, e2]
      exact fits_calls (tabY_ok conCd_ok) (rsb_n a b m) (okCons k1 (okCons (decide_eq_true hn) (okL1 k2))) rfl (by rfl) w
    · exact fits_calls (tabY_ok conCd_ok) (rsb_p a b m) (okCons (decide_eq_true ⟨h1, (ng_parts h2).1⟩) (okCons k2 (okCons (decide_eq_false hn) (okL1 k2)))) rfl (by rfl) w
  · cases h
/-- what is known of calls, for the sums of pairs -/
def conC1 : Con := alt 92 gSS (alt 34 gRS (alt 91 gSA (alt 33 gRA conCg)))
theorem conC1_ok : ConOk conC1 := alt_ok Tryz.func92 rfl gSS_ok (alt_ok Tryz.func34 rfl gRS_ok (alt_ok Tryz.func91 rfl gSA_ok (alt_ok Tryz.func33 rfl gRA_ok conCg_ok)))
def conC2 : Con := alt 109 gPF (alt 36 gRF conCg)
theorem conC2_ok : ConOk conC2 := alt_ok Tryz.func109 rfl gPF_ok (alt_ok Tryz.func36 rfl gRF_ok conCg_ok)
/-- a pair of patterns -/
def pX (a b : Int) : Value := .agg #[.int .u64 a, .int .u64 b]
def gXY (k : Int → Int → Int → Int → Value) : Ans := fun vals s =>
  match vals with
  | [.agg ⟨[.int .u64 a, .int .u64 b]⟩, .agg ⟨[.int .u64 c, .int .u64 d]⟩] => some (k a b c d, s, [(decide (U a ∧ U b ∧ U c ∧ U d), true)])
  | _ => none
theorem gXY_ok {f : Nat} {k : Int → Int → Int → Int → Value} (hk : ∀ a b c d : Int, U a → U b → U c → U d → ∀ w, Calls Tryz.prog f #[pX a b, pX c d] w fun e w' => e = .returned (k a b c d) ∧ Tidy w w') : AnsOk f (gXY k) := by
  intro vals s v s' lg h hl w
  unfold gXY at h
  split at h
  · cases h
    obtain ⟨h1, h2, h3, h4⟩ := of_decide_eq_true (hl _ (List.mem_singleton.2 rfl))
    exact hk _ _ _ _ h1 h2 h3 h4 w
  · cases h
def gXB (k : Int → Int → Bool → Value) : Ans := fun vals s =>
  match vals with
  | [.agg ⟨[.int .u64 a, .int .u64 b]⟩, .bool t] => some (k a b t, s, [(decide (U a ∧ U b), true)])
  | _ => none
theorem gXB_ok {f : Nat} {k : Int → Int → Bool → Value} (hk : ∀ (a b : Int) (t : Bool), U a → U b → ∀ w, Calls Tryz.prog f #[pX a b, .bool t] w fun e w' => e = .returned (k a b t) ∧ Tidy w w') : AnsOk f (gXB k) := by
  intro vals s v s' lg h hl w
  unfold gXB at h
  split at h
  · cases h
    obtain ⟨h1, h2⟩ := of_decide_eq_true (hl _ (List.mem_singleton.2 rfl))
    exact hk _ _ _ h1 h2 w
  · cases h
def caV (a b c d : Int) : Value := cpB (suP 0 a c) (suP 0 b d) (orB (suF 0 a c) (suF 0 b d))
def csV (a b c d : Int) : Value := cpB (suP 0 a (ng c)) (suP 0 b (ng d)) (orB (suF 0 a (ng c)) (suF 0 b (ng d)))
def tnV (a b : Int) (t : Bool) : Value := bif t then pX b (ng a) else pX (ng b) a
theorem caFt (a b c d : Int) : Fits (reckon (tabOf Tryz.prog extY conC1 true) 300 68 [.agg #[.int .u64 a, .int .u64 b], .agg #[.int .u64 c, .int .u64 d]] []) (cpB (suP 0 a c) (suP 0 b d) (orB (suF 0 a c) (suF 0 b d))) [(decide (U b ∧ U d), true), (decide (U a ∧ U c), true)] := ⟨by kernel_rfl, by kernel_rfl, by kernel_rfl, by kernel_rfl⟩
theorem ca_calls (a b c d : Int) (ha : U a) (hb : U b) (hc : U c) (hd : U d) (w : World) : Calls Tryz.prog 68 #[pX a b, pX c d] w fun r w' => r = .returned (caV a b c d) ∧ Tidy w w' :=
  fits_calls (tabY_ok conC1_ok) (caFt a b c d) (okCons (decide_eq_true ⟨hb, hd⟩) (okL1 (decide_eq_true ⟨ha, hc⟩))) rfl (by rfl) w
theorem csFt (a b c d : Int) : Fits (reckon (tabOf Tryz.prog extY conC1 true) 300 69 [.agg #[.int .u64 a, .int .u64 b], .agg #[.int .u64 c, .int .u64 d]] []) (cpB (suP 0 a (ng c)) (suP 0 b (ng d)) (orB (suF 0 a (ng c)) (suF 0 b (ng d)))) [(decide (U b ∧ U d), true), (decide (U a ∧ U c), true)] := ⟨by kernel_rfl, by kernel_rfl, by kernel_rfl, by kernel_rfl⟩
theorem cs_calls (a b c d : Int) (ha : U a) (hb : U b) (hc : U c) (hd : U d) (w : World) : Calls Tryz.prog 69 #[pX a b, pX c d] w fun r w' => r = .returned (csV a b c d) ∧ Tidy w w' :=
  fits_calls (tabY_ok conC1_ok) (csFt a b c d) (okCons (decide_eq_true ⟨hb, hd⟩) (okL1 (decide_eq_true ⟨ha, hc⟩))) rfl (by rfl) w
theorem ctt (a b : Int) : Fits (reckon (tabOf Tryz.prog extY conC2 true) 300 70 [.agg #[.int .u64 a, .int .u64 b], .bool true] []) (.agg #[.int .u64 b, .int .u64 (ng a)]) [(decide (U a), true)] := ⟨by kernel_rfl, by kernel_rfl, by kernel_rfl, by kernel_rfl⟩
theorem ctf (a b : Int) : Fits (reckon (tabOf Tryz.prog extY conC2 true) 300 70 [.agg #[.int .u64 a, .int .u64 b], .bool false] []) (.agg #[.int .u64 (ng b), .int .u64 a]) [(decide (U b), true)] := ⟨by kernel_rfl, by kernel_rfl, by kernel_rfl, by kernel_rfl⟩
theorem ct_calls (a b : Int) (t : Bool) (ha : U a) (hb : U b) (w : World) : Calls Tryz.prog 70 #[pX a b, .bool t] w fun r w' => r = .returned (tnV a b t) ∧ Tidy w w' := by
  cases t
  · exact fits_calls (tabY_ok conC2_ok) (ctf a b) (okL1 (decide_eq_true hb)) rfl (by rfl) w
  · exact fits_calls (tabY_ok conC2_ok) (ctt a b) (okL1 (decide_eq_true ha)) rfl (by rfl) w
theorem suF_5 (m a b : Int) : fl5 (suF m a b) := by have := suF_bd m a b; unfold fl5; omega
theorem fmF_5 (m a b c : Int) : fl5 (fmF m a b c) := by have := fmF_bd m a b c; unfold fl5; omega
end Go.Proofs.YtjkgnbdeklploaaGreatDoor
