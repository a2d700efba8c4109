/-
  PrZ, CxA, CxB, CxC, CxD, Row
-/
import Derived.Test.YtekebccjflilnaaG25
import Derived.WalkKit
import Derived.ProofKit
import Derived.OpenShut
import Derived.Laws.IdiomArrays
import Derived.Lib.SmallJoins
namespace Go.Proofs.Ytekebccjflilnaa
open Go.KRun Go.Nt Go.Wd Go.Pt Go.Rn
set_option maxRecDepth 100000
theorem rm_n1 (a b m : Int) : Fits (reckon (tabH Try.prog extY conRB hcX) 300 29 [.int .u64 a, .int .u64 b, .int .i64 m] [cmp true, cmp true]) (raT 9221120237041090560 1) [(cl a == 5, true), lU a, (decide (cl a > 3), true), lU a] := ⟨by kernel_rfl, by kernel_rfl, by kernel_rfl, by kernel_rfl⟩
theorem rm_n2 (a b m : Int) : Fits (reckon (tabH Try.prog extY conRB hcX) 300 29 [.int .u64 a, .int .u64 b, .int .i64 m] [cmp true, cmp false, cmp true]) (raT 9221120237041090560 1) [(cl b == 5, true), lU b, (cl a == 5, false), lU a, (decide (cl a > 3), true), lU a] := ⟨by kernel_rfl, by kernel_rfl, by kernel_rfl, by kernel_rfl⟩
theorem rm_n3 (a b m : Int) : Fits (reckon (tabH Try.prog extY conRB hcX) 300 29 [.int .u64 a, .int .u64 b, .int .i64 m] [cmp true, cmp false, cmp false]) (raT 9221120237041090560 0) [(cl b == 5, false), lU b, (cl a == 5, false), lU a, (decide (cl a > 3), true), lU a] := ⟨by kernel_rfl, by kernel_rfl, by kernel_rfl, by kernel_rfl⟩
theorem rm_m2 (a b m : Int) : Fits (reckon (tabH Try.prog extY conRB hcX) 300 29 [.int .u64 a, .int .u64 b, .int .i64 m] [cmp false, cmp true, cmp false, cmp true]) (raT 9221120237041090560 1) [(cl b == 5, true), lU b, (cl a == 5, false), lU a, (decide (cl b > 3), true), lU b, (decide (cl a > 3), false), lU a] := ⟨by kernel_rfl, by kernel_rfl, by kernel_rfl, by kernel_rfl⟩
theorem rm_m3 (a b m : Int) : Fits (reckon (tabH Try.prog extY conRB hcX) 300 29 [.int .u64 a, .int .u64 b, .int .i64 m] [cmp false, cmp true, cmp false, cmp false]) (raT 9221120237041090560 0) [(cl b == 5, false), lU b, (cl a == 5, false), lU a, (decide (cl b > 3), true), lU b, (decide (cl a > 3), false), lU a] := ⟨by kernel_rfl, by kernel_rfl, by kernel_rfl, by kernel_rfl⟩
theorem rm_bad (a b m : Int) : Fits (reckon (tabH Try.prog extY conRB hcX) 300 29 [.int .u64 a, .int .u64 b, .int .i64 m] [cmp false, cmp false, cmp true]) (raT 9221120237041090560 1) [(badB a b, true), (decide (U a ∧ U b), true), (decide (cl b > 3), false), lU b, (decide (cl a > 3), false), lU a] := ⟨by kernel_rfl, by kernel_rfl, by kernel_rfl, by kernel_rfl⟩
theorem rm_ea (a b m : Int) : Fits (reckon (tabH Try.prog extY conRB hcX) 300 29 [.int .u64 a, .int .u64 b, .int .i64 m] [cmp false, cmp false, cmp false, cmp true]) (raT (sgB 9218868437227405312 a b) 0) [(decide ((0 : Int) ≤ 9218868437227405312 ∧ (9218868437227405312 : Int) < 9223372036854775808), true), (mag a == 9218868437227405312, true), lU a, (badB a b, false), (decide (U a ∧ U b), true), (decide (cl b > 3), false), lU b, (decide (cl a > 3), false), lU a] := ⟨by kernel_rfl, by kernel_rfl, by kernel_rfl, by kernel_rfl⟩
theorem rm_eb (a b m : Int) : Fits (reckon (tabH Try.prog extY conRB hcX) 300 29 [.int .u64 a, .int .u64 b, .int .i64 m] [cmp false, cmp false, cmp false, cmp false, cmp true]) (raT (sgB 9218868437227405312 a b) 0) [(decide ((0 : Int) ≤ 9218868437227405312 ∧ (9218868437227405312 : Int) < 9223372036854775808), true), (mag b == 9218868437227405312, true), lU b, (mag a == 9218868437227405312, false), lU a, (badB a b, false), (decide (U a ∧ U b), true), (decide (cl b > 3), false), lU b, (decide (cl a > 3), false), lU a] := ⟨by kernel_rfl, by kernel_rfl, by kernel_rfl, by kernel_rfl⟩
theorem rm_fin (a b m : Int) : Fits (reckon (tabH Try.prog extY conRB hcX) 300 29 [.int .u64 a, .int .u64 b, .int .i64 m] [cmp false, cmp false, cmp false, cmp false, cmp false]) (raT (sS (prN a b) (rnP m (prN a b) (vO (hM1 a b) (ad 0 0) (d16 (prV a b)).length) (prE a b))) (rnF m (prN a b) (vO (hM1 a b) (ad 0 0) (d16 (prV a b)).length) (prE a b))) [(okRo (hM1 a b) (ad 0 0) (d16 (prV a b)).length (d16 (prV a b)).length (prE a b), true), (decide (U a ∧ U b), true), (mag b == 9218868437227405312, false), lU b, (mag a == 9218868437227405312, false), lU a, (badB a b, false), (decide (U a ∧ U b), true), (decide (cl b > 3), false), lU b, (decide (cl a > 3), false), lU a] := ⟨by kernel_rfl, by kernel_rfl, by kernel_rfl, by kernel_rfl⟩
theorem rf_bad (a b c m : Int) : Fits (reckon (tabH Try.prog extY conRB hcX) 300 30 [.int .u64 a, .int .u64 b, .int .u64 c, .int .i64 m] [cmp true]) (raT 9221120237041090560 1) [(badB a b, true), (decide (U a ∧ U b), true)] := ⟨by kernel_rfl, by kernel_rfl, by kernel_rfl, by kernel_rfl⟩
theorem rf_a11 (a b c m : Int) : Fits (reckon (tabH Try.prog extY conRB hcX) 300 30 [.int .u64 a, .int .u64 b, .int .u64 c, .int .i64 m] [cmp false, cmp true, cmp true, cmp true, cmp false]) (raT 9221120237041090560 1) [(cl c == 5, true), lU c, (cl a == 5, true), lU a, (decide (cl a > 3), true), lU a, (badB a b, false), (decide (U a ∧ U b), true)] := ⟨by kernel_rfl, by kernel_rfl, by kernel_rfl, by kernel_rfl⟩
theorem rf_a10 (a b c m : Int) : Fits (reckon (tabH Try.prog extY conRB hcX) 300 30 [.int .u64 a, .int .u64 b, .int .u64 c, .int .i64 m] [cmp false, cmp true, cmp true, cmp false, cmp false, cmp false]) (raT 9221120237041090560 1) [(cl c == 5, false), lU c, (cl c == 5, false), lU c, (cl a == 5, true), lU a, (decide (cl a > 3), true), lU a, (badB a b, false), (decide (U a ∧ U b), true)] := ⟨by kernel_rfl, by kernel_rfl, by kernel_rfl, by kernel_rfl⟩
theorem rf_a21 (a b c m : Int) : Fits (reckon (tabH Try.prog extY conRB hcX) 300 30 [.int .u64 a, .int .u64 b, .int .u64 c, .int .i64 m] [cmp false, cmp true, cmp false, cmp true, cmp true, cmp false]) (raT 9221120237041090560 1) [(cl c == 5, true), lU c, (cl b == 5, true), lU b, (cl a == 5, false), lU a, (decide (cl a > 3), true), lU a, (badB a b, false), (decide (U a ∧ U b), true)] := ⟨by kernel_rfl, by kernel_rfl, by kernel_rfl, by kernel_rfl⟩
theorem rf_a20 (a b c m : Int) : Fits (reckon (tabH Try.prog extY conRB hcX) 300 30 [.int .u64 a, .int .u64 b, .int .u64 c, .int .i64 m] [cmp false, cmp true, cmp false, cmp true, cmp false, cmp false, cmp false]) (raT 9221120237041090560 1) [(cl c == 5, false), lU c, (cl c == 5, false), lU c, (cl b == 5, true), lU b, (cl a == 5, false), lU a, (decide (cl a > 3), true), lU a, (badB a b, false), (decide (U a ∧ U b), true)] := ⟨by kernel_rfl, by kernel_rfl, by kernel_rfl, by kernel_rfl⟩
theorem rf_a01 (a b c m : Int) : Fits (reckon (tabH Try.prog extY conRB hcX) 300 30 [.int .u64 a, .int .u64 b, .int .u64 c, .int .i64 m] [cmp false, cmp true, cmp false, cmp false, cmp true, cmp true]) (raT 9221120237041090560 1) [(cl c == 5, true), lU c, (cl b == 5, false), lU b, (cl a == 5, false), lU a, (decide (cl a > 3), true), lU a, (badB a b, false), (decide (U a ∧ U b), true)] := ⟨by kernel_rfl, by kernel_rfl, by kernel_rfl, by kernel_rfl⟩
theorem rf_a00 (a b c m : Int) : Fits (reckon (tabH Try.prog extY conRB hcX) 300 30 [.int .u64 a, .int .u64 b, .int .u64 c, .int .i64 m] [cmp false, cmp true, cmp false, cmp false, cmp false, cmp false, cmp false]) (raT 9221120237041090560 0) [(cl c == 5, false), lU c, (cl c == 5, false), lU c, (cl b == 5, false), lU b, (cl a == 5, false), lU a, (decide (cl a > 3), true), lU a, (badB a b, false), (decide (U a ∧ U b), true)] := ⟨by kernel_rfl, by kernel_rfl, by kernel_rfl, by kernel_rfl⟩
theorem rf_b21 (a b c m : Int) : Fits (reckon (tabH Try.prog extY conRB hcX) 300 30 [.int .u64 a, .int .u64 b, .int .u64 c, .int .i64 m] [cmp false, cmp false, cmp true, cmp false, cmp true, cmp true, cmp false]) (raT 9221120237041090560 1) [(cl c == 5, true), lU c, (cl b == 5, true), lU b, (cl a == 5, false), lU a, (decide (cl b > 3), true), lU b, (decide (cl a > 3), false), lU a, (badB a b, false), (decide (U a ∧ U b), true)] := ⟨by kernel_rfl, by kernel_rfl, by kernel_rfl, by kernel_rfl⟩
theorem rf_b20 (a b c m : Int) : Fits (reckon (tabH Try.prog extY conRB hcX) 300 30 [.int .u64 a, .int .u64 b, .int .u64 c, .int .i64 m] [cmp false, cmp false, cmp true, cmp false, cmp true, cmp false, cmp false, cmp false]) (raT 9221120237041090560 1) [(cl c == 5, false), lU c, (cl c == 5, false), lU c, (cl b == 5, true), lU b, (cl a == 5, false), lU a, (decide (cl b > 3), true), lU b, (decide (cl a > 3), false), lU a, (badB a b, false), (decide (U a ∧ U b), true)] := ⟨by kernel_rfl, by kernel_rfl, by kernel_rfl, by kernel_rfl⟩
theorem rf_b01 (a b c m : Int) : Fits (reckon (tabH Try.prog extY conRB hcX) 300 30 [.int .u64 a, .int .u64 b, .int .u64 c, .int .i64 m] [cmp false, cmp false, cmp true, cmp false, cmp false, cmp true, cmp true]) (raT 9221120237041090560 1) [(cl c == 5, true), lU c, (cl b == 5, false), lU b, (cl a == 5, false), lU a, (decide (cl b > 3), true), lU b, (decide (cl a > 3), false), lU a, (badB a b, false), (decide (U a ∧ U b), true)] := ⟨by kernel_rfl, by kernel_rfl, by kernel_rfl, by kernel_rfl⟩
theorem rf_b00 (a b c m : Int) : Fits (reckon (tabH Try.prog extY conRB hcX) 300 30 [.int .u64 a, .int .u64 b, .int .u64 c, .int .i64 m] [cmp false, cmp false, cmp true, cmp false, cmp false, cmp false, cmp false, cmp false]) (raT 9221120237041090560 0) [(cl c == 5, false), lU c, (cl c == 5, false), lU c, (cl b == 5, false), lU b, (cl a == 5, false), lU a, (decide (cl b > 3), true), lU b, (decide (cl a > 3), false), lU a, (badB a b, false), (decide (U a ∧ U b), true)] := ⟨by kernel_rfl, by kernel_rfl, by kernel_rfl, by kernel_rfl⟩
theorem rf_c01 (a b c m : Int) : Fits (reckon (tabH Try.prog extY conRB hcX) 300 30 [.int .u64 a, .int .u64 b, .int .u64 c, .int .i64 m] [cmp false, cmp false, cmp false, cmp true, cmp false, cmp false, cmp true, cmp true]) (raT 9221120237041090560 1) [(cl c == 5, true), lU c, (cl b == 5, false), lU b, (cl a == 5, false), lU a, (decide (cl c > 3), true), lU c, (decide (cl b > 3), false), lU b, (decide (cl a > 3), false), lU a, (badB a b, false), (decide (U a ∧ U b), true)] := ⟨by kernel_rfl, by kernel_rfl, by kernel_rfl, by kernel_rfl⟩
theorem rf_c00 (a b c m : Int) : Fits (reckon (tabH Try.prog extY conRB hcX) 300 30 [.int .u64 a, .int .u64 b, .int .u64 c, .int .i64 m] [cmp false, cmp false, cmp false, cmp true, cmp false, cmp false, cmp false, cmp false, cmp false]) (raT 9221120237041090560 0) [(cl c == 5, false), lU c, (cl c == 5, false), lU c, (cl b == 5, false), lU b, (cl a == 5, false), lU a, (decide (cl c > 3), true), lU c, (decide (cl b > 3), false), lU b, (decide (cl a > 3), false), lU a, (badB a b, false), (decide (U a ∧ U b), true)] := ⟨by kernel_rfl, by kernel_rfl, by kernel_rfl, by kernel_rfl⟩
theorem rf_eaF (a b c m : Int) : Fits (reckon (tabH Try.prog extY conRB hcX) 300 30 [.int .u64 a, .int .u64 b, .int .u64 c, .int .i64 m] [cmp false, cmp false, cmp false, cmp false, cmp true, cmp false]) (raT (sgB 9218868437227405312 a b) 0) [(mag c == 9218868437227405312, false), lU c, (decide ((0 : Int) ≤ 9218868437227405312 ∧ (9218868437227405312 : Int) < 9223372036854775808), true), (mag a == 9218868437227405312, true), lU a, (decide (cl c > 3), false), lU c, (decide (cl b > 3), false), lU b, (decide (cl a > 3), false), lU a, (badB a b, false), (decide (U a ∧ U b), true)] := ⟨by kernel_rfl, by kernel_rfl, by kernel_rfl, by kernel_rfl⟩
theorem rf_eaTF (a b c m : Int) : Fits (reckon (tabH Try.prog extY conRB hcX) 300 30 [.int .u64 a, .int .u64 b, .int .u64 c, .int .i64 m] [cmp false, cmp false, cmp false, cmp false, cmp true, cmp true, cmp false]) (raT (sgB 9218868437227405312 a b) 0) [(c != sgB 9218868437227405312 a b, false), (mag c == 9218868437227405312, true), lU c, (decide ((0 : Int) ≤ 9218868437227405312 ∧ (9218868437227405312 : Int) < 9223372036854775808), true), (mag a == 9218868437227405312, true), lU a, (decide (cl c > 3), false), lU c, (decide (cl b > 3), false), lU b, (decide (cl a > 3), false), lU a, (badB a b, false), (decide (U a ∧ U b), true)] := ⟨by kernel_rfl, by kernel_rfl, by kernel_rfl, by kernel_rfl⟩
theorem rf_eaTT (a b c m : Int) : Fits (reckon (tabH Try.prog extY conRB hcX) 300 30 [.int .u64 a, .int .u64 b, .int .u64 c, .int .i64 m] [cmp false, cmp false, cmp false, cmp false, cmp true, cmp true, cmp true]) (raT 9221120237041090560 1) [(c != sgB 9218868437227405312 a b, true), (mag c == 9218868437227405312, true), lU c, (decide ((0 : Int) ≤ 9218868437227405312 ∧ (9218868437227405312 : Int) < 9223372036854775808), true), (mag a == 9218868437227405312, true), lU a, (decide (cl c > 3), false), lU c, (decide (cl b > 3), false), lU b, (decide (cl a > 3), false), lU a, (badB a b, false), (decide (U a ∧ U b), true)] := ⟨by kernel_rfl, by kernel_rfl, by kernel_rfl, by kernel_rfl⟩
theorem rf_ebF (a b c m : Int) : Fits (reckon (tabH Try.prog extY conRB hcX) 300 30 [.int .u64 a, .int .u64 b, .int .u64 c, .int .i64 m] [cmp false, cmp false, cmp false, cmp false, cmp false, cmp true, cmp false]) (raT (sgB 9218868437227405312 a b) 0) [(mag c == 9218868437227405312, false), lU c, (decide ((0 : Int) ≤ 9218868437227405312 ∧ (9218868437227405312 : Int) < 9223372036854775808), true), (mag b == 9218868437227405312, true), lU b, (mag a == 9218868437227405312, false), lU a, (decide (cl c > 3), false), lU c, (decide (cl b > 3), false), lU b, (decide (cl a > 3), false), lU a, (badB a b, false), (decide (U a ∧ U b), true)] := ⟨by kernel_rfl, by kernel_rfl, by kernel_rfl, by kernel_rfl⟩
theorem rf_ebTF (a b c m : Int) : Fits (reckon (tabH Try.prog extY conRB hcX) 300 30 [.int .u64 a, .int .u64 b, .int .u64 c, .int .i64 m] [cmp false, cmp false, cmp false, cmp false, cmp false, cmp true, cmp true, cmp false]) (raT (sgB 9218868437227405312 a b) 0) [(c != sgB 9218868437227405312 a b, false), (mag c == 9218868437227405312, true), lU c, (decide ((0 : Int) ≤ 9218868437227405312 ∧ (9218868437227405312 : Int) < 9223372036854775808), true), (mag b == 9218868437227405312, true), lU b, (mag a == 9218868437227405312, false), lU a, (decide (cl c > 3), false), lU c, (decide (cl b > 3), false), lU b, (decide (cl a > 3), false), lU a, (badB a b, false), (decide (U a ∧ U b), true)] := ⟨by kernel_rfl, by kernel_rfl, by kernel_rfl, by kernel_rfl⟩
theorem rf_ebTT (a b c m : Int) : Fits (reckon (tabH Try.prog extY conRB hcX) 300 30 [.int .u64 a, .int .u64 b, .int .u64 c, .int .i64 m] [cmp false, cmp false, cmp false, cmp false, cmp false, cmp true, cmp true, cmp true]) (raT 9221120237041090560 1) [(c != sgB 9218868437227405312 a b, true), (mag c == 9218868437227405312, true), lU c, (decide ((0 : Int) ≤ 9218868437227405312 ∧ (9218868437227405312 : Int) < 9223372036854775808), true), (mag b == 9218868437227405312, true), lU b, (mag a == 9218868437227405312, false), lU a, (decide (cl c > 3), false), lU c, (decide (cl b > 3), false), lU b, (decide (cl a > 3), false), lU a, (badB a b, false), (decide (U a ∧ U b), true)] := ⟨by kernel_rfl, by kernel_rfl, by kernel_rfl, by kernel_rfl⟩
theorem rf_ec (a b c m : Int) : Fits (reckon (tabH Try.prog extY conRB hcX) 300 30 [.int .u64 a, .int .u64 b, .int .u64 c, .int .i64 m] [cmp false, cmp false, cmp false, cmp false, cmp false, cmp false, cmp true]) (raT c 0) [(mag c == 9218868437227405312, true), lU c, (mag b == 9218868437227405312, false), lU b, (mag a == 9218868437227405312, false), lU a, (decide (cl c > 3), false), lU c, (decide (cl b > 3), false), lU b, (decide (cl a > 3), false), lU a, (badB a b, false), (decide (U a ∧ U b), true)] := ⟨by kernel_rfl, by kernel_rfl, by kernel_rfl, by kernel_rfl⟩
theorem rf_fz (a b c m : Int) : Fits (reckon (tabH Try.prog extY conRB hcX) 300 30 [.int .u64 a, .int .u64 b, .int .u64 c, .int .i64 m] [cmp false, cmp false, cmp false, cmp false, cmp false, cmp false, cmp false, cmp false]) (raT (sS (nM m a b c) 0) 0) [(decide (sM a b c ≠ 0), false), (okSm (hM2 a b c) (ad 0 0) (ad 1 0) (d16 (prV a b)).length (d16 (prV a b)).length (d16 (sg c).toNat).length (d16 (sg c).toNat).length (prE a b) (xp c), true), lU c, (decide (U a ∧ U b), true), (mag c == 9218868437227405312, false), lU c, (mag b == 9218868437227405312, false), lU b, (mag a == 9218868437227405312, false), lU a, (decide (cl c > 3), false), lU c, (decide (cl b > 3), false), lU b, (decide (cl a > 3), false), lU a, (badB a b, false), (decide (U a ∧ U b), true)] := ⟨by kernel_rfl, by kernel_rfl, by kernel_rfl, by kernel_rfl⟩
theorem rf_fr (a b c m : Int) : Fits (reckon (tabH Try.prog extY conRB hcX) 300 30 [.int .u64 a, .int .u64 b, .int .u64 c, .int .i64 m] [cmp false, cmp false, cmp false, cmp false, cmp false, cmp false, cmp false, cmp true]) (raT (sS (nM m a b c) (rnP m (nM m a b c) (vO (hM3f a b c) (ad 2 0) (d16 (sM a b c).natAbs).length) (lM a b c))) (rnF m (nM m a b c) (vO (hM3f a b c) (ad 2 0) (d16 (sM a b c).natAbs).length) (lM a b c))) [(okRo (hM3f a b c) (ad 2 0) (d16 (sM a b c).natAbs).length (d16 (sM a b c).natAbs).length (lM a b c), true), (decide (sM a b c ≠ 0), true), (okSm (hM2 a b c) (ad 0 0) (ad 1 0) (d16 (prV a b)).length (d16 (prV a b)).length (d16 (sg c).toNat).length (d16 (sg c).toNat).length (prE a b) (xp c), true), lU c, (decide (U a ∧ U b), true), (mag c == 9218868437227405312, false), lU c, (mag b == 9218868437227405312, false), lU b, (mag a == 9218868437227405312, false), lU a, (decide (cl c > 3), false), lU c, (decide (cl b > 3), false), lU b, (decide (cl a > 3), false), lU a, (badB a b, false), (decide (U a ∧ U b), true)] := ⟨by kernel_rfl, by kernel_rfl, by kernel_rfl, by kernel_rfl⟩
/-! ### its numbers -/
theorem len7 (a b : Int) : (d16 (prV a b)).length ≤ 7 := by
  have := prV_lt a b
  refine d16_len (k := 7) ?_
  have e : (2 : Nat) ^ (16 * 7) = 5192296858534827628530496329220096 := rfl
  omega
theorem okRo_1 (a b : Int) : okRo (hM1 a b) (ad 0 0) (d16 (prV a b)).length (d16 (prV a b)).length (prE a b) = true := by
  have h0 : (hM1 a b).blk? 0 = some (wU (d16 (prV a b)), tU) := rfl
  have l := len7 a b
  have hE := prE_bd a b
  unfold okRo ad
  rw [rowP_d16 h0 (by omega), rowOf_d16 h0, show canB (d16 (prV a b)) = true from canB_mk (can_db (by omega) _), blt_iff.2 (by omega), decide_eq_true (by omega)]
  rfl
theorem okSm_2 (a b c : Int) : okSm (hM2 a b c) (ad 0 0) (ad 1 0) (d16 (prV a b)).length (d16 (prV a b)).length (d16 (sg c).toNat).length (d16 (sg c).toNat).length (prE a b) (xp c) = true := by
  have h0 : (hM2 a b c).blk? 0 = some (wU (d16 (prV a b)), tU) := rfl
  have h1 : (hM2 a b c).blk? 1 = some (wU (d16 (sg c).toNat), tU) := rfl
  have l := len7 a b
  have lc := len4 c
  have hE := prE_bd a b
  have xc := xp_bd c
  unfold okSm ad
  rw [rowP_d16 h0 (by omega), rowOf_d16 h0, rowP_d16 h1 (by omega), rowOf_d16 h1, show canB (d16 (prV a b)) = true from canB_mk (can_db (by omega) _), show canB (d16 (sg c).toNat) = true from canB_mk (can_db (by omega) _), blt_iff.2 (by omega), blt_iff.2 (by omega), decide_eq_true ⟨⟨by omega, by omega⟩, by omega, by omega⟩]
  rfl
theorem sM_eq (a b c : Int) : sM a b c = smI (lM a b c) (prN a b) (prE a b) (prV a b) (sgn c) (xp c) (sg c).toNat := by
  have h0 : (hM2 a b c).blk? 0 = some (wU (d16 (prV a b)), tU) := rfl
  have h1 : (hM2 a b c).blk? 1 = some (wU (d16 (sg c).toNat), tU) := rfl
  unfold sM smH smS
  rw [vO_ad h0, vO_ad h1]
  rfl
theorem lM_bd (a b c : Int) : -2148 ≤ lM a b c ∧ (lM a b c = prE a b ∨ lM a b c = xp c) := by
  have hE := prE_bd a b
  have xc := xp_bd c
  exact ⟨lowF_bd (by omega) (by omega) _ _, low_nearF _ _⟩
theorem sM_fs (a b c : Int) : fsI a b c = sM a b c * ((2 ^ (lM a b c - -2148).toNat : Nat) : Int) := by
  have hE := prE_bd a b
  have xc := xp_bd c
  rw [sM_eq]
  exact sm_lowF (by omega) (by omega) (len_zeroF _) (len_zeroF _) _ _
theorem sM_sgn (m a b c : Int) : nM m a b c = fsN m a b c := by
  unfold nM fsN
  rw [sM_fs, sgS_mul m _ _ _ (Nat.pow_pos (by omega))]
theorem sM_round (m : Int) (n : Bool) (a b c : Int) : rnP m n (sM a b c).natAbs (lM a b c) = rnP m n (fsI a b c).natAbs (-2148) ∧ rnF m n (sM a b c).natAbs (lM a b c) = rnF m n (fsI a b c).natAbs (-2148) := by
  have hl := (lM_bd a b c).1
  have ea : (fsI a b c).natAbs = (sM a b c).natAbs * 2 ^ (lM a b c - -2148).toNat := by rw [sM_fs, Int.natAbs_mul, Int.natAbs_natCast]
  have eG : lM a b c - ((lM a b c - -2148).toNat : Int) = -2148 := by omega
  have sp := rnP_scale m n (sM a b c).natAbs (lM a b c - -2148).toNat (lM a b c)
  have sf := rnF_scale m n (sM a b c).natAbs (lM a b c - -2148).toNat (lM a b c)
  rw [eG, ← ea] at sp sf
  exact ⟨sp.symm, sf.symm⟩
theorem sM_zero {a b c : Int} (h : sM a b c = 0) : fsI a b c = 0 := by rw [sM_fs, h, Int.zero_mul]
theorem sM_lt (a b c : Int) : (sM a b c).natAbs < 2 ^ (16 * 300) := by
  have hE := prE_bd a b
  have xc := xp_bd c
  have hV := prV_lt a b
  have hc := sg_lt c
  obtain ⟨hl, hn⟩ := lM_bd a b c
  have e106 : (2 : Nat) ^ 106 = 81129638414606681695789005144064 := rfl
  obtain ⟨j, hj⟩ : ∃ j : Nat, j = 4200 := ⟨_, rfl⟩
  have p1 := szF_ltF (F := lM a b c) (E := prE a b) (X := prV a b) (k := 106) (j := j) (by omega) (by omega)
  have p2 := szF_ltF (F := lM a b c) (E := xp c) (X := (sg c).toNat) (k := 106) (j := j) (by omega) (by omega)
  obtain ⟨i, hi⟩ : ∃ i : Nat, i = 494 := ⟨_, rfl⟩
  have e : (2 : Nat) ^ (16 * 300) = 2 ^ i * 2 ^ (106 + j) := by rw [← Nat.pow_add]; congr 1; omega
  have h2 : 2 ^ 1 ≤ 2 ^ i := Nat.pow_le_pow_right (by omega) (by omega)
  have h3 := Nat.mul_le_mul_right (2 ^ (106 + j)) h2
  have h4 : 2 ^ 1 * 2 ^ (106 + j) = 2 * 2 ^ (106 + j) := rfl
  rw [sM_eq]
  unfold smI
  rw [e]
  rw [h4] at h3
  clear h4 h2 e
  generalize szF (lM a b c) (prE a b) (prV a b) = P at *
  generalize szF (lM a b c) (xp c) (sg c).toNat = Q at *
  generalize (2 : Nat) ^ (106 + j) = Z at *
  generalize (2 : Nat) ^ i * Z = Y at *
  cases prN a b <;> cases sgn c <;> simp only [sgI] <;> omega
theorem okRo_3 (a b c : Int) : okRo (hM3f a b c) (ad 2 0) (d16 (sM a b c).natAbs).length (d16 (sM a b c).natAbs).length (lM a b c) = true := by
  have h2 : (hM3f a b c).blk? 2 = some (wU (d16 (sM a b c).natAbs), tU) := rfl
  have hl : (d16 (sM a b c).natAbs).length ≤ 300 := d16_len (sM_lt a b c)
  have hE := prE_bd a b
  have xc := xp_bd c
  have hn := (lM_bd a b c).2
  unfold okRo ad
  rw [rowP_d16 h2 (by omega), rowOf_d16 h2, show canB (d16 (sM a b c).natAbs) = true from canB_mk (can_db (by omega) _), blt_iff.2 (by omega), decide_eq_true (by omega)]
  rfl
theorem rmul_calls6 (a b m : Int) (ha : U a) (hb : U b) (w : World) : Calls Try.prog 29 #[.int .u64 a, .int .u64 b, .int .i64 m] w fun r w' => r = .returned (raT (muP m a b) (muF m a b)) ∧ Tidy w w' := by
  have hv : ([.int .u64 a, .int .u64 b, .int .i64 m].all (lt 0)) = true := rfl
  have T := tabH_ok conRB_ok hcX_ok
  have ka : decide (U a) = true := decide_eq_true ha
  have kb : decide (U b) = true := decide_eq_true hb
  have kab : decide (U a ∧ U b) = true := decide_eq_true ⟨ha, hb⟩
  obtain ⟨a1, a2, a3⟩ := mag_cl a
  obtain ⟨b1, b2, b3⟩ := mag_cl b
  by_cases ha3 : 3 < cl a
  · obtain ⟨p1, p2⟩ := muP_nan (m := m) (a := a) (b := b) (.inl ha3)
    rw [p1, p2]
    by_cases a5 : cl a = 5
    · rw [if_pos (.inl a5)]
      exact fits_calls T (rm_n1 a b m) (okCons (beq_t a5) (okCons ka (okCons (decide_eq_true ha3) (okL1 ka)))) hv (by rfl) w
    · by_cases b5 : cl b = 5
      · rw [if_pos (.inr b5)]
        exact fits_calls T (rm_n2 a b m) (okCons (beq_t b5) (okCons kb (okCons (beq_f (by omega)) (okCons ka (okCons (decide_eq_true ha3) (okL1 ka)))))) hv (by rfl) w
      · rw [if_neg (by omega)]
        exact fits_calls T (rm_n3 a b m) (okCons (beq_f (by omega)) (okCons kb (okCons (beq_f (by omega)) (okCons ka (okCons (decide_eq_true ha3) (okL1 ka)))))) hv (by rfl) w
  · by_cases hb3 : 3 < cl b
    · obtain ⟨p1, p2⟩ := muP_nan (m := m) (a := a) (b := b) (.inr hb3)
      rw [p1, p2]
      by_cases b5 : cl b = 5
      · rw [if_pos (.inr b5)]
        exact fits_calls T (rm_m2 a b m) (okCons (beq_t b5) (okCons kb (okCons (beq_f (by omega)) (okCons ka (okCons (decide_eq_true hb3) (okCons kb (okCons (decide_eq_false ha3) (okL1 ka)))))))) hv (by rfl) w
      · rw [if_neg (by omega)]
        exact fits_calls T (rm_m3 a b m) (okCons (beq_f (by omega)) (okCons kb (okCons (beq_f (by omega)) (okCons ka (okCons (decide_eq_true hb3) (okCons kb (okCons (decide_eq_false ha3) (okL1 ka)))))))) hv (by rfl) w
    · by_cases hbd : badB a b = true
      · obtain ⟨p1, p2⟩ := muP_bad (m := m) hbd
        rw [p1, p2]
        exact fits_calls T (rm_bad a b m) (okCons hbd (okCons kab (okCons (decide_eq_false hb3) (okCons kb (okCons (decide_eq_false ha3) (okL1 ka)))))) hv (by rfl) w
      · have hb0 : badB a b = false := by simpa using hbd
        by_cases ae : cl a = 3
        · obtain ⟨p1, p2⟩ := muP_inf (m := m) hbd (by omega) (.inl ae)
          rw [p1, p2]
          exact fits_calls T (rm_ea a b m) (okCons (by decide) (okCons (beq_t (a2.1 ae)) (okCons ka (okCons hb0 (okCons kab (okCons (decide_eq_false hb3) (okCons kb (okCons (decide_eq_false ha3) (okL1 ka))))))))) hv (by rfl) w
        · by_cases be : cl b = 3
          · obtain ⟨p1, p2⟩ := muP_inf (m := m) hbd (by omega) (.inr be)
            rw [p1, p2]
            exact fits_calls T (rm_eb a b m) (okCons (by decide) (okCons (beq_t (b2.1 be)) (okCons kb (okCons (beq_f (fun e => ae (a2.2 e))) (okCons ka (okCons hb0 (okCons kab (okCons (decide_eq_false hb3) (okCons kb (okCons (decide_eq_false ha3) (okL1 ka))))))))))) hv (by rfl) w
          · obtain ⟨p1, p2⟩ := muP_fin (m := m) (a := a) (b := b) (by omega) (by omega)
            have h0 : (hM1 a b).blk? 0 = some (wU (d16 (prV a b)), tU) := rfl
            have hf := rm_fin a b m
            rw [vO_ad h0] at hf
            rw [p1, p2]
            exact fits_calls T hf (okCons (okRo_1 a b) (okCons kab (okCons (beq_f (fun e => be (b2.2 e))) (okCons kb (okCons (beq_f (fun e => ae (a2.2 e))) (okCons ka (okCons hb0 (okCons kab (okCons (decide_eq_false hb3) (okCons kb (okCons (decide_eq_false ha3) (okL1 ka)))))))))))) hv (by rfl) w
theorem rfma_calls6 (a b c m : Int) (ha : U a) (hb : U b) (hcU : U c) (w : World) : Calls Try.prog 30 #[.int .u64 a, .int .u64 b, .int .u64 c, .int .i64 m] w fun r w' => r = .returned (raT (fmP m a b c) (fmF m a b c)) ∧ Tidy w w' := by
  have hv : ([.int .u64 a, .int .u64 b, .int .u64 c, .int .i64 m].all (lt 0)) = true := rfl
  have T := tabH_ok conRB_ok hcX_ok
  have ka : decide (U a) = true := decide_eq_true ha
  have kb : decide (U b) = true := decide_eq_true hb
  have kc : decide (U c) = true := decide_eq_true hcU
  have kab : decide (U a ∧ U b) = true := decide_eq_true ⟨ha, hb⟩
  obtain ⟨a1, a2, a3⟩ := mag_cl a
  obtain ⟨b1, b2, b3⟩ := mag_cl b
  obtain ⟨c1, c2, c3⟩ := mag_cl c
  unfold fmP fmF
  by_cases hbd : badB a b = true
  · rw [if_pos hbd, if_pos hbd]
    exact fits_calls T (rf_bad a b c m) (okCons hbd (okL1 kab)) hv (by rfl) w
  · have hb0 : badB a b = false := by simpa using hbd
    rw [if_neg hbd, if_neg hbd]
    by_cases ha3 : 3 < cl a
    · rw [if_pos (.inl ha3), if_pos (.inl ha3)]
      by_cases a5 : cl a = 5
      · by_cases c5 : cl c = 5
        · rw [if_pos (by omega)]
          exact fits_calls T (rf_a11 a b c m) (okCons (beq_t c5) (okCons kc (okCons (beq_t a5) (okCons ka (okCons (decide_eq_true ha3) (okCons ka (okCons hb0 (okL1 kab)))))))) hv (by rfl) w
        · rw [if_pos (by omega)]
          exact fits_calls T (rf_a10 a b c m) (okCons (beq_f (by omega)) (okCons kc (okCons (beq_f (by omega)) (okCons kc (okCons (beq_t a5) (okCons ka (okCons (decide_eq_true ha3) (okCons ka (okCons hb0 (okL1 kab)))))))))) hv (by rfl) w
      · by_cases b5 : cl b = 5
        · by_cases c5 : cl c = 5
          · rw [if_pos (by omega)]
            exact fits_calls T (rf_a21 a b c m) (okCons (beq_t c5) (okCons kc (okCons (beq_t b5) (okCons kb (okCons (beq_f (by omega)) (okCons ka (okCons (decide_eq_true ha3) (okCons ka (okCons hb0 (okL1 kab)))))))))) hv (by rfl) w
          · rw [if_pos (by omega)]
            exact fits_calls T (rf_a20 a b c m) (okCons (beq_f (by omega)) (okCons kc (okCons (beq_f (by omega)) (okCons kc (okCons (beq_t b5) (okCons kb (okCons (beq_f (by omega)) (okCons ka (okCons (decide_eq_true ha3) (okCons ka (okCons hb0 (okL1 kab)))))))))))) hv (by rfl) w
        · by_cases c5 : cl c = 5
          · rw [if_pos (by omega)]
            exact fits_calls T (rf_a01 a b c m) (okCons (beq_t c5) (okCons kc (okCons (beq_f (by omega)) (okCons kb (okCons (beq_f (by omega)) (okCons ka (okCons (decide_eq_true ha3) (okCons ka (okCons hb0 (okL1 kab)))))))))) hv (by rfl) w
          · rw [if_neg (by omega)]
            exact fits_calls T (rf_a00 a b c m) (okCons (beq_f (by omega)) (okCons kc (okCons (beq_f (by omega)) (okCons kc (okCons (beq_f (by omega)) (okCons kb (okCons (beq_f (by omega)) (okCons ka (okCons (decide_eq_true ha3) (okCons ka (okCons hb0 (okL1 kab)))))))))))) hv (by rfl) w
    · by_cases hb3 : 3 < cl b
      · rw [if_pos (.inr (.inl hb3)), if_pos (.inr (.inl hb3))]
        by_cases b5 : cl b = 5
        · by_cases c5 : cl c = 5
          · rw [if_pos (by omega)]
            exact fits_calls T (rf_b21 a b c m) (okCons (beq_t c5) (okCons kc (okCons (beq_t b5) (okCons kb (okCons (beq_f (by omega)) (okCons ka (okCons (decide_eq_true hb3) (okCons kb (okCons (decide_eq_false ha3) (okCons ka (okCons hb0 (okL1 kab)))))))))))) hv (by rfl) w
          · rw [if_pos (by omega)]
            exact fits_calls T (rf_b20 a b c m) (okCons (beq_f (by omega)) (okCons kc (okCons (beq_f (by omega)) (okCons kc (okCons (beq_t b5) (okCons kb (okCons (beq_f (by omega)) (okCons ka (okCons (decide_eq_true hb3) (okCons kb (okCons (decide_eq_false ha3) (okCons ka (okCons hb0 (okL1 kab)))))))))))))) hv (by rfl) w
        · by_cases c5 : cl c = 5
          · rw [if_pos (by omega)]
            exact fits_calls T (rf_b01 a b c m) (okCons (beq_t c5) (okCons kc (okCons (beq_f (by omega)) (okCons kb (okCons (beq_f (by omega)) (okCons ka (okCons (decide_eq_true hb3) (okCons kb (okCons (decide_eq_false ha3) (okCons ka (okCons hb0 (okL1 kab)))))))))))) hv (by rfl) w
          · rw [if_neg (by omega)]
            exact fits_calls T (rf_b00 a b c m) (okCons (beq_f (by omega)) (okCons kc (okCons (beq_f (by omega)) (okCons kc (okCons (beq_f (by omega)) (okCons kb (okCons (beq_f (by omega)) (okCons ka (okCons (decide_eq_true hb3) (okCons kb (okCons (decide_eq_false ha3) (okCons ka (okCons hb0 (okL1 kab)))))))))))))) hv (by rfl) w
      · by_cases hc3 : 3 < cl c
        · rw [if_pos (.inr (.inr hc3)), if_pos (.inr (.inr hc3))]
          by_cases c5 : cl c = 5
          · rw [if_pos (by omega)]
            exact fits_calls T (rf_c01 a b c m) (okCons (beq_t c5) (okCons kc (okCons (beq_f (by omega)) (okCons kb (okCons (beq_f (by omega)) (okCons ka (okCons (decide_eq_true hc3) (okCons kc (okCons (decide_eq_false hb3) (okCons kb (okCons (decide_eq_false ha3) (okCons ka (okCons hb0 (okL1 kab)))))))))))))) hv (by rfl) w
          · rw [if_neg (by omega)]
            exact fits_calls T (rf_c00 a b c m) (okCons (beq_f (by omega)) (okCons kc (okCons (beq_f (by omega)) (okCons kc (okCons (beq_f (by omega)) (okCons kb (okCons (beq_f (by omega)) (okCons ka (okCons (decide_eq_true hc3) (okCons kc (okCons (decide_eq_false hb3) (okCons kb (okCons (decide_eq_false ha3) (okCons ka (okCons hb0 (okL1 kab)))))))))))))))) hv (by rfl) w
        · have hno : ¬ (3 < cl a ∨ 3 < cl b ∨ 3 < cl c) := by omega
          rw [if_neg hno, if_neg hno]
          have ci : cl (sS (prN a b) inf) = 3 := by cases prN a b <;> decide
          by_cases ae : cl a = 3
          · rw [if_pos (.inl ae), if_pos (.inl ae)]
            by_cases ce : cl c = 3
            · by_cases hc : c = sgB 9218868437227405312 a b
              · obtain ⟨p1, p2⟩ := suP_infa (m := m) (b := c) ci (by omega) (fun h => h.2 hc.symm)
                rw [p1, p2]
                exact fits_calls T (rf_eaTF a b c m) (okCons (bne_f hc) (okCons (beq_t (c2.1 ce)) (okCons kc (okCons (by decide) (okCons (beq_t (a2.1 ae)) (okCons ka (okCons (decide_eq_false hc3) (okCons kc (okCons (decide_eq_false hb3) (okCons kb (okCons (decide_eq_false ha3) (okCons ka (okCons hb0 (okL1 kab)))))))))))))) hv (by rfl) w
              · obtain ⟨p1, p2⟩ := suP_infi (m := m) (b := c) ci ce (fun h => hc h.symm)
                rw [p1, p2]
                exact fits_calls T (rf_eaTT a b c m) (okCons (bne_t hc) (okCons (beq_t (c2.1 ce)) (okCons kc (okCons (by decide) (okCons (beq_t (a2.1 ae)) (okCons ka (okCons (decide_eq_false hc3) (okCons kc (okCons (decide_eq_false hb3) (okCons kb (okCons (decide_eq_false ha3) (okCons ka (okCons hb0 (okL1 kab)))))))))))))) hv (by rfl) w
            · obtain ⟨p1, p2⟩ := suP_infa (m := m) (b := c) ci (by omega) (fun h => ce h.1)
              rw [p1, p2]
              exact fits_calls T (rf_eaF a b c m) (okCons (beq_f (fun e => ce (c2.2 e))) (okCons kc (okCons (by decide) (okCons (beq_t (a2.1 ae)) (okCons ka (okCons (decide_eq_false hc3) (okCons kc (okCons (decide_eq_false hb3) (okCons kb (okCons (decide_eq_false ha3) (okCons ka (okCons hb0 (okL1 kab))))))))))))) hv (by rfl) w
          · by_cases be : cl b = 3
            · rw [if_pos (.inr be), if_pos (.inr be)]
              by_cases ce : cl c = 3
              · by_cases hc : c = sgB 9218868437227405312 a b
                · obtain ⟨p1, p2⟩ := suP_infa (m := m) (b := c) ci (by omega) (fun h => h.2 hc.symm)
                  rw [p1, p2]
                  exact fits_calls T (rf_ebTF a b c m) (okCons (bne_f hc) (okCons (beq_t (c2.1 ce)) (okCons kc (okCons (by decide) (okCons (beq_t (b2.1 be)) (okCons kb (okCons (beq_f (fun e => ae (a2.2 e))) (okCons ka (okCons (decide_eq_false hc3) (okCons kc (okCons (decide_eq_false hb3) (okCons kb (okCons (decide_eq_false ha3) (okCons ka (okCons hb0 (okL1 kab)))))))))))))))) hv (by rfl) w
                · obtain ⟨p1, p2⟩ := suP_infi (m := m) (b := c) ci ce (fun h => hc h.symm)
                  rw [p1, p2]
                  exact fits_calls T (rf_ebTT a b c m) (okCons (bne_t hc) (okCons (beq_t (c2.1 ce)) (okCons kc (okCons (by decide) (okCons (beq_t (b2.1 be)) (okCons kb (okCons (beq_f (fun e => ae (a2.2 e))) (okCons ka (okCons (decide_eq_false hc3) (okCons kc (okCons (decide_eq_false hb3) (okCons kb (okCons (decide_eq_false ha3) (okCons ka (okCons hb0 (okL1 kab)))))))))))))))) hv (by rfl) w
              · obtain ⟨p1, p2⟩ := suP_infa (m := m) (b := c) ci (by omega) (fun h => ce h.1)
                rw [p1, p2]
                exact fits_calls T (rf_ebF a b c m) (okCons (beq_f (fun e => ce (c2.2 e))) (okCons kc (okCons (by decide) (okCons (beq_t (b2.1 be)) (okCons kb (okCons (beq_f (fun e => ae (a2.2 e))) (okCons ka (okCons (decide_eq_false hc3) (okCons kc (okCons (decide_eq_false hb3) (okCons kb (okCons (decide_eq_false ha3) (okCons ka (okCons hb0 (okL1 kab))))))))))))))) hv (by rfl) w
            · have hno2 : ¬ (cl a = 3 ∨ cl b = 3) := by omega
              rw [if_neg hno2, if_neg hno2]
              by_cases ce : cl c = 3
              · rw [if_pos ce, if_pos ce]
                exact fits_calls T (rf_ec a b c m) (okCons (beq_t (c2.1 ce)) (okCons kc (okCons (beq_f (fun e => be (b2.2 e))) (okCons kb (okCons (beq_f (fun e => ae (a2.2 e))) (okCons ka (okCons (decide_eq_false hc3) (okCons kc (okCons (decide_eq_false hb3) (okCons kb (okCons (decide_eq_false ha3) (okCons ka (okCons hb0 (okL1 kab)))))))))))))) hv (by rfl) w
              · rw [if_neg ce, if_neg ce]
                by_cases hz : sM a b c = 0
                · have hp := sM_zero hz
                  have e1 : fsP m a b c = 0 := by unfold fsP; rw [hp]; simp [rnP]
                  have e2 : fsF m a b c = 0 := by unfold fsF; rw [hp]; simp [rnF]
                  have hf := rf_fz a b c m
                  rw [sM_sgn] at hf
                  rw [e1, e2]
                  exact fits_calls T hf (okCons (decide_eq_false (fun h => h hz)) (okCons (okSm_2 a b c) (okCons kc (okCons kab (okCons (beq_f (fun e => ce (c2.2 e))) (okCons kc (okCons (beq_f (fun e => be (b2.2 e))) (okCons kb (okCons (beq_f (fun e => ae (a2.2 e))) (okCons ka (okCons (decide_eq_false hc3) (okCons kc (okCons (decide_eq_false hb3) (okCons kb (okCons (decide_eq_false ha3) (okCons ka (okCons hb0 (okL1 kab)))))))))))))))))) hv (by rfl) w
                · have hf := rf_fr a b c m
                  have h2 : (hM3f a b c).blk? 2 = some (wU (d16 (sM a b c).natAbs), tU) := rfl
                  have hr := sM_round m (fsN m a b c) a b c
                  rw [sM_sgn, vO_ad h2, hr.1, hr.2] at hf
                  exact fits_calls T hf (okCons (okRo_3 a b c) (okCons (decide_eq_true hz) (okCons (okSm_2 a b c) (okCons kc (okCons kab (okCons (beq_f (fun e => ce (c2.2 e))) (okCons kc (okCons (beq_f (fun e => be (b2.2 e))) (okCons kb (okCons (beq_f (fun e => ae (a2.2 e))) (okCons ka (okCons (decide_eq_false hc3) (okCons kc (okCons (decide_eq_false hb3) (okCons kb (okCons (decide_eq_false ha3) (okCons ka (okCons hb0 (okL1 kab))))))))))))))))))) hv (by rfl) w
def gRM : Ans := fun vals s =>
  match vals with
  | [.int .u64 a, .int .u64 b, .int .i64 m] => some (raT (muP m a b) (muF m a b), s, [(decide (U a ∧ U b), true)])
  | _ => none
theorem gRM_ok : AnsOk 29 gRM := by
  intro vals s v s' lg h hl w
  unfold gRM at h
  split at h
  · cases h
    obtain ⟨h1, h2⟩ := of_decide_eq_true (hl _ (List.mem_singleton.2 rfl))
    exact rmul_calls6 _ _ _ h1 h2 w
  · cases h
def gRF : Ans := fun vals s =>
  match vals with
  | [.int .u64 a, .int .u64 b, .int .u64 c, .int .i64 m] => some (raT (fmP m a b c) (fmF m a b c), s, [(decide (U a ∧ U b ∧ U c), true)])
  | _ => none
theorem gRF_ok : AnsOk 30 gRF := by
  intro vals s v s' lg h hl w
  unfold gRF at h
  split at h
  · cases h
    obtain ⟨h1, h2, h3⟩ := of_decide_eq_true (hl _ (List.mem_singleton.2 rfl))
    exact rfma_calls6 _ _ _ _ h1 h2 h3 w
  · cases h
end Go.Proofs.Ytekebccjflilnaa
namespace Go.Proofs.Ytekebccjflilnaa
open Go.KRun Go.Wd Go.Pt Go.Rn
set_option maxRecDepth 100000
/-- flags that are told together, as bytes and as whole numbers -/
def orB (f g : Int) : Int := IntKind.u8.wrap ((BitVec.ofInt IntKind.u8.bits f ||| BitVec.ofInt IntKind.u8.bits g).toNat : Nat)
/-- a pair and flags -/
def cpB (p q f : Int) : Value := .tuple #[.agg #[.int .u64 p, .int .u64 q], .int .u8 f]
theorem png_p (p : Int) : Fits (reckon (tabOf Try.prog extY conN true) 300 28 [.int .u64 p] []) (.int .u64 (bXor p 9223372036854775808)) [] := ⟨by kernel_rfl, by kernel_rfl, by kernel_rfl, by kernel_rfl⟩
theorem rng_m (p : Int) : Fits (reckon (tabOf Try.prog extY conN true) 300 31 [.int .u64 p] [cmp true]) (.int .u64 (IntKind.u64.wrap (p - 9223372036854775808))) [(decide (p ≥ 9223372036854775808), true)] := ⟨by kernel_rfl, by kernel_rfl, by kernel_rfl, by kernel_rfl⟩
theorem rng_p (p : Int) : Fits (reckon (tabOf Try.prog extY conN true) 300 31 [.int .u64 p] [cmp false]) (.int .u64 (IntKind.u64.wrap (p + 9223372036854775808))) [(decide (p ≥ 9223372036854775808), false)] := ⟨by kernel_rfl, by kernel_rfl, by kernel_rfl, by kernel_rfl⟩
theorem png_calls (p : Int) (hp : U p) (w : World) : Calls Try.prog 28 #[.int .u64 p] w fun r w' => r = .returned (.int .u64 (ng p)) ∧ Tidy w w' := by
  have hv : ([.int .u64 p].all (lt 0)) = true := rfl
  rw [← bXor_ng hp]
  exact fits_calls (tabY_ok conN_ok) (png_p p) (fun _ h => by cases h) hv (by rfl) w
theorem rng_calls (p : Int) (hp : U p) (w : World) : Calls Try.prog 31 #[.int .u64 p] w fun r w' => r = .returned (.int .u64 (ng p)) ∧ Tidy w w' := by
  have hv : ([.int .u64 p].all (lt 0)) = true := rfl
  have hp' := hp
  unfold U at hp'
  by_cases hs : p ≥ 9223372036854775808
  · have e : IntKind.u64.wrap (p - 9223372036854775808) = ng p := by rw [wrapU' ⟨by omega, by omega⟩]; unfold ng; omega
    rw [← e]
    exact fits_calls (tabY_ok conN_ok) (rng_m p) (okL1 (decide_eq_true hs)) hv (by rfl) w
  · have e : IntKind.u64.wrap (p + 9223372036854775808) = ng p := by rw [wrapU' ⟨by omega, by omega⟩]; unfold ng; omega
    rw [← e]
    exact fits_calls (tabY_ok conN_ok) (rng_p p) (okL1 (decide_eq_false hs)) hv (by rfl) w
def conCg : Con := alt 28 (gU fun p => .int .u64 (ng p)) (alt 31 (gU fun p => .int .u64 (ng p)) conN)
theorem conCg_ok : ConOk conCg := alt_ok Try.func28 rfl (gU_ok png_calls) (alt_ok Try.func31 rfl (gU_ok rng_calls) conN_ok)
/-- what is known of calls, for the products of pairs -/
def conC2 : Con := alt 26 gPM (alt 27 gPF (alt 29 gRM (alt 30 gRF conCg)))
theorem conC2_ok : ConOk conC2 := alt_ok Try.func26 rfl gPM_ok (alt_ok Try.func27 rfl gPF_ok (alt_ok Try.func29 rfl gRM_ok (alt_ok Try.func30 rfl gRF_ok conCg_ok)))
/-- a pair of patterns -/
def pX (a b : Int) : Value := .agg #[.int .u64 a, .int .u64 b]
def gXY (k : Int → Int → Int → Int → Value) : Ans := fun vals s =>
  match vals with
  | [.agg ⟨[.int .u64 a, .int .u64 b]⟩, .agg ⟨[.int .u64 c, .int .u64 d]⟩] => some (k a b c d, s, [(decide (U a ∧ U b ∧ U c ∧ U d), true)])
  | _ => none
theorem gXY_ok {f : Nat} {k : Int → Int → Int → Int → Value} (hk : ∀ a b c d : Int, U a → U b → U c → U d → ∀ w, Calls Try.prog f #[pX a b, pX c d] w fun e w' => e = .returned (k a b c d) ∧ Tidy w w') : AnsOk f (gXY k) := by
  intro vals s v s' lg h hl w
  unfold gXY at h
  split at h
  · cases h
    obtain ⟨h1, h2, h3, h4⟩ := of_decide_eq_true (hl _ (List.mem_singleton.2 rfl))
    exact hk _ _ _ _ h1 h2 h3 h4 w
  · cases h
def gXB (k : Int → Int → Bool → Value) : Ans := fun vals s =>
  match vals with
  | [.agg ⟨[.int .u64 a, .int .u64 b]⟩, .bool t] => some (k a b t, s, [(decide (U a ∧ U b), true)])
  | _ => none
theorem gXB_ok {f : Nat} {k : Int → Int → Bool → Value} (hk : ∀ (a b : Int) (t : Bool), U a → U b → ∀ w, Calls Try.prog f #[pX a b, .bool t] w fun e w' => e = .returned (k a b t) ∧ Tidy w w') : AnsOk f (gXB k) := by
  intro vals s v s' lg h hl w
  unfold gXB at h
  split at h
  · cases h
    obtain ⟨h1, h2⟩ := of_decide_eq_true (hl _ (List.mem_singleton.2 rfl))
    exact hk _ _ _ h1 h2 w
  · cases h
def gX1 (k : Int → Int → Value) : Ans := fun vals s =>
  match vals with
  | [.agg ⟨[.int .u64 a, .int .u64 b]⟩] => some (k a b, s, [(decide (U a ∧ U b), true)])
  | _ => none
theorem gX1_ok {f : Nat} {k : Int → Int → Value} (hk : ∀ (a b : Int), U a → U b → ∀ w, Calls Try.prog f #[pX a b] w fun e w' => e = .returned (k a b) ∧ Tidy w w') : AnsOk f (gX1 k) := by
  intro vals s v s' lg h hl w
  unfold gX1 at h
  split at h
  · cases h
    obtain ⟨h1, h2⟩ := of_decide_eq_true (hl _ (List.mem_singleton.2 rfl))
    exact hk _ _ h1 h2 w
  · cases h
/-- a product's parts -/
def reP (a b c d : Int) : Int := fmP 0 a c (ng (muP 0 b d))
def imP (a b c d : Int) : Int := fmP 0 a d (muP 0 b c)
def cmV (a b c d : Int) : Value := cpB (reP a b c d) (imP a b c d) (orB (orB (orB (muF 0 b d) (fmF 0 a c (ng (muP 0 b d)))) (muF 0 b c)) (fmF 0 a d (muP 0 b c)))
def tnV (a b : Int) (t : Bool) : Value := bif t then pX b (ng a) else pX (ng b) a
def cjV (a b : Int) : Value := pX a (ng b)
theorem cm (a b c d : Int) : Fits (reckon (tabOf Try.prog extY conC2 true) 300 14 [.agg #[.int .u64 a, .int .u64 b], .agg #[.int .u64 c, .int .u64 d]] []) (cpB (fmP 0 a c (ng (muP 0 b d))) (fmP 0 a d (muP 0 b c)) (orB (orB (orB (muF 0 b d) (fmF 0 a c (ng (muP 0 b d)))) (muF 0 b c)) (fmF 0 a d (muP 0 b c)))) [(decide (U a ∧ U d ∧ U (muP 0 b c)), true), (decide (U b ∧ U c), true), (decide (U a ∧ U c ∧ U (ng (muP 0 b d))), true), (decide (U (muP 0 b d)), true), (decide (U b ∧ U d), true)] := ⟨by kernel_rfl, by kernel_rfl, by kernel_rfl, by kernel_rfl⟩
theorem cm_calls (a b c d : Int) (ha : U a) (hb : U b) (hc : U c) (hd : U d) (w : World) : Calls Try.prog 14 #[pX a b, pX c d] w fun r w' => r = .returned (cmV a b c d) ∧ Tidy w w' :=
  fits_calls (tabY_ok conC2_ok) (cm a b c d) (okCons (decide_eq_true ⟨ha, hd, mu_U _ _ _⟩) (okCons (decide_eq_true ⟨hb, hc⟩) (okCons (decide_eq_true ⟨ha, hc, (ng_parts (mu_U 0 b d)).1⟩) (okCons (decide_eq_true (mu_U 0 b d)) (okL1 (decide_eq_true ⟨hb, hd⟩)))))) rfl (by rfl) w
theorem ctt (a b : Int) : Fits (reckon (tabOf Try.prog extY conC2 true) 300 16 [.agg #[.int .u64 a, .int .u64 b], .bool true] []) (.agg #[.int .u64 b, .int .u64 (ng a)]) [(decide (U a), true)] := ⟨by kernel_rfl, by kernel_rfl, by kernel_rfl, by kernel_rfl⟩
theorem ctf (a b : Int) : Fits (reckon (tabOf Try.prog extY conC2 true) 300 16 [.agg #[.int .u64 a, .int .u64 b], .bool false] []) (.agg #[.int .u64 (ng b), .int .u64 a]) [(decide (U b), true)] := ⟨by kernel_rfl, by kernel_rfl, by kernel_rfl, by kernel_rfl⟩
theorem ct_calls (a b : Int) (t : Bool) (ha : U a) (hb : U b) (w : World) : Calls Try.prog 16 #[pX a b, .bool t] w fun r w' => r = .returned (tnV a b t) ∧ Tidy w w' := by
  cases t
  · exact fits_calls (tabY_ok conC2_ok) (ctf a b) (okL1 (decide_eq_true hb)) rfl (by rfl) w
  · exact fits_calls (tabY_ok conC2_ok) (ctt a b) (okL1 (decide_eq_true ha)) rfl (by rfl) w
theorem rtt (a b : Int) : Fits (reckon (tabOf Try.prog extY conC2 true) 300 17 [.agg #[.int .u64 a, .int .u64 b], .bool true] []) (.agg #[.int .u64 b, .int .u64 (ng a)]) [(decide (U a), true)] := ⟨by kernel_rfl, by kernel_rfl, by kernel_rfl, by kernel_rfl⟩
theorem rtf (a b : Int) : Fits (reckon (tabOf Try.prog extY conC2 true) 300 17 [.agg #[.int .u64 a, .int .u64 b], .bool false] []) (.agg #[.int .u64 (ng b), .int .u64 a]) [(decide (U b), true)] := ⟨by kernel_rfl, by kernel_rfl, by kernel_rfl, by kernel_rfl⟩
theorem rt_calls (a b : Int) (t : Bool) (ha : U a) (hb : U b) (w : World) : Calls Try.prog 17 #[pX a b, .bool t] w fun r w' => r = .returned (tnV a b t) ∧ Tidy w w' := by
  cases t
  · exact fits_calls (tabY_ok conC2_ok) (rtf a b) (okL1 (decide_eq_true hb)) rfl (by rfl) w
  · exact fits_calls (tabY_ok conC2_ok) (rtt a b) (okL1 (decide_eq_true ha)) rfl (by rfl) w
theorem cc (a b : Int) : Fits (reckon (tabOf Try.prog extY conC2 true) 300 18 [.agg #[.int .u64 a, .int .u64 b]] []) (.agg #[.int .u64 a, .int .u64 (ng b)]) [(decide (U b), true)] := ⟨by kernel_rfl, by kernel_rfl, by kernel_rfl, by kernel_rfl⟩
theorem cc_calls (a b : Int) (_ : U a) (hb : U b) (w : World) : Calls Try.prog 18 #[pX a b] w fun r w' => r = .returned (cjV a b) ∧ Tidy w w' :=
  fits_calls (tabY_ok conC2_ok) (cc a b) (okL1 (decide_eq_true hb)) rfl (by rfl) w
theorem rc (a b : Int) : Fits (reckon (tabOf Try.prog extY conC2 true) 300 19 [.agg #[.int .u64 a, .int .u64 b]] []) (.agg #[.int .u64 a, .int .u64 (ng b)]) [(decide (U b), true)] := ⟨by kernel_rfl, by kernel_rfl, by kernel_rfl, by kernel_rfl⟩
theorem rc_calls (a b : Int) (_ : U a) (hb : U b) (w : World) : Calls Try.prog 19 #[pX a b] w fun r w' => r = .returned (cjV a b) ∧ Tidy w w' :=
  fits_calls (tabY_ok conC2_ok) (rc a b) (okL1 (decide_eq_true hb)) rfl (by rfl) w
def conCM : Con := alt 14 (gXY cmV) conCg
theorem conCM_ok : ConOk conCM := alt_ok Try.func14 rfl (gXY_ok cm_calls) conCg_ok
theorem one_sq : reP 4607182418800017408 4607182418800017408 4607182418800017408 4607182418800017408 = 0 ∧ imP 4607182418800017408 4607182418800017408 4607182418800017408 4607182418800017408 = 4611686018427387904 ∧ muF 0 4607182418800017408 4607182418800017408 = 0 ∧ fmF 0 4607182418800017408 4607182418800017408 (ng (muP 0 4607182418800017408 4607182418800017408)) = 0 ∧ fmF 0 4607182418800017408 4607182418800017408 (muP 0 4607182418800017408 4607182418800017408) = 0 := ⟨by kernel_rfl, by kernel_rfl, by kernel_rfl, by kernel_rfl, by kernel_rfl⟩
theorem sure17 : Fits (reckon (tabOf Try.prog extY conCM true) 300 13 [] [sam true, cmp true]) (.bool true) [(orB (orB (orB (muF 0 4607182418800017408 4607182418800017408) (fmF 0 4607182418800017408 4607182418800017408 (ng (muP 0 4607182418800017408 4607182418800017408)))) (muF 0 4607182418800017408 4607182418800017408)) (fmF 0 4607182418800017408 4607182418800017408 (muP 0 4607182418800017408 4607182418800017408)) == 0, true), (reP 4607182418800017408 4607182418800017408 4607182418800017408 4607182418800017408 == 0 && (imP 4607182418800017408 4607182418800017408 4607182418800017408 4607182418800017408 == 4611686018427387904 && true), true), (decide (U 4607182418800017408 ∧ U 4607182418800017408 ∧ U 4607182418800017408 ∧ U 4607182418800017408), true)] := ⟨by kernel_rfl, by kernel_rfl, by kernel_rfl, by kernel_rfl⟩
def gSure17 : Ans := fun vals s => match vals with | [] => some (.bool true, s, []) | _ => none
theorem gSure17_ok : AnsOk 13 gSure17 := by
  intro vals s v s' lg h hl w
  unfold gSure17 at h
  split at h
  · cases h
    obtain ⟨s1, s2, s3, s4, s5⟩ := one_sq
    exact fits_calls (tabY_ok conCM_ok) sure17 (okCons (beq_t (by rw [s3, s4, s5]; rfl)) (okCons (by rw [s1, s2]; rfl) (okL1 (by decide)))) (by rfl) (by rfl) w
  · cases h
def conCS : Con := alt 13 gSure17 conCM
theorem conCS_ok : ConOk conCS := alt_ok Try.func13 rfl gSure17_ok conCM_ok
def conL3 : Con := alt 16 (gXB tnV) (alt 17 (gXB tnV) (alt 18 (gX1 cjV) (alt 19 (gX1 cjV) conCS)))
theorem conL3_ok : ConOk conL3 := alt_ok Try.func16 rfl (gXB_ok ct_calls) (alt_ok Try.func17 rfl (gXB_ok rt_calls) (alt_ok Try.func18 rfl (gX1_ok cc_calls) (alt_ok Try.func19 rfl (gX1_ok rc_calls) conCS_ok)))
end Go.Proofs.Ytekebccjflilnaa
namespace Go.Proofs.Ytekebccjflilnaa
open Go.KRun Go.Wd Go.Pt Go.Rn
theorem mu_turn {b c : Int} (hb : U b) : muF 0 (ng b) c = muF 0 b c ∧ ((muP 0 b c = 9221120237041090560 ∧ muP 0 (ng b) c = 9221120237041090560) ∨ muP 0 (ng b) c = ng (muP 0 b c)) := by
  have e : swM 0 = 0 := rfl
  obtain ⟨f, h⟩ := mu_ng (m := 0) (b := c) hb
  rw [e] at f h
  refine ⟨f, ?_⟩
  rcases h with h | ⟨_, h⟩
  · exact .inl h
  · exact .inr (by rw [h, ng_ng (mu_U 0 (ng b) c)])
theorem fm_nan3 {a d : Int} (hd : U d) : fmP 0 a d 9221120237041090560 = 9221120237041090560 ∧ fmP 0 a (ng d) 9221120237041090560 = 9221120237041090560 ∧ fmF 0 a (ng d) 9221120237041090560 = fmF 0 a d 9221120237041090560 := by
  have c1 := (ng_num hd).2.2.1
  have cn : 3 < cl 9221120237041090560 := by decide
  by_cases hb : badB a d = true
  · have hb' : badB a (ng d) = true := by rw [badB_ng2 hd]; exact hb
    obtain ⟨p1, p2⟩ := fmP_bad (m := 0) (c := 9221120237041090560) hb
    obtain ⟨q1, q2⟩ := fmP_bad (m := 0) (c := 9221120237041090560) hb'
    exact ⟨p1, q1, by rw [p2, q2]⟩
  · have hb' : ¬ badB a (ng d) = true := by rw [badB_ng2 hd]; exact hb
    obtain ⟨p1, p2⟩ := fmP_nan (m := 0) (c := 9221120237041090560) hb (.inr (.inr cn))
    obtain ⟨q1, q2⟩ := fmP_nan (m := 0) (c := 9221120237041090560) hb' (.inr (.inr cn))
    exact ⟨p1, q1, by rw [p2, q2, c1]⟩
theorem im_turn {a b c d : Int} (hb : U b) (hd : U d) : fmF 0 a (ng d) (muP 0 (ng b) c) = fmF 0 a d (muP 0 b c) ∧ (imP a b c d = 9221120237041090560 ∨ mag (imP a b c d) = 0 ∨ imP a (ng b) c (ng d) = ng (imP a b c d)) := by
  unfold imP
  rcases (mu_turn (c := c) hb).2 with ⟨h1, h2⟩ | h
  · rw [h1, h2]
    obtain ⟨n1, n2, n3⟩ := fm_nan3 (a := a) hd
    exact ⟨n3, .inl n1⟩
  · rw [h]
    have e : swM 0 = 0 := rfl
    obtain ⟨f, g⟩ := fm_ng (m := 0) (a := a) hd (mu_U 0 b c)
    rw [e] at f g
    refine ⟨f, ?_⟩
    rcases g with ⟨g, _⟩ | ⟨g, _⟩ | ⟨_, _, g⟩
    · exact .inr (.inl g)
    · exact .inl g
    · exact .inr (.inr (by rw [g, ng_ng (fm_U _ _ _ (ng_parts (mu_U 0 b c)).1)]))
theorem tw_flags {a b c d : Int} (hb : U b) (hd : U d) : orB (orB (orB (muF 0 b d) (fmF 0 a c (ng (muP 0 b d)))) (muF 0 b c)) (fmF 0 a d (muP 0 b c)) = orB (orB (orB (muF 0 (ng b) (ng d)) (fmF 0 a c (ng (muP 0 (ng b) (ng d))))) (muF 0 (ng b) c)) (fmF 0 a (ng d) (muP 0 (ng b) c)) := by
  obtain ⟨d1, d2⟩ := mu_ng2 (m := 0) hb hd
  rw [d1, d2, (mu_turn (c := c) hb).1, (im_turn (a := a) (c := c) hb hd).1]
theorem tw_same {a b c d : Int} (hb : U b) (hd : U d) (h1 : imP a b c d ≠ 9221120237041090560) (h2 : mag (imP a b c d) ≠ 0) : (reP a (ng b) c (ng d) == reP a b c d && (imP a (ng b) c (ng d) == ng (imP a b c d) && true)) = true := by
  have e : reP a (ng b) c (ng d) = reP a b c d := by unfold reP; rw [(mu_ng2 (m := 0) hb hd).1]
  have h := ((im_turn (a := a) (c := c) hb hd).2.resolve_left h1).resolve_left h2
  rw [e, h]
  simp
end Go.Proofs.Ytekebccjflilnaa
namespace Go.KRun
open Go.ChangeShapes Go.WideShapes Go.ChangeAt Go.RowKit Go.Joins
theorem tidy_frozen {w w' : World} (h : Tidy w w') (a : Addr) : w'.frozen? a = w.frozen? a := by
  unfold World.frozen?
  by_cases h1 : a.block < w.heap.size
  · rw [h.1.block _ h1]
  · rw [Array.getElem?_eq_none (by omega : w.heap.size ≤ a.block)]
    by_cases h2 : a.block < w'.heap.size
    · have h3 := h.2 a.block (by omega) h2
      unfold iced at h3
      split
      · rename_i c e lo hi hc
        have := h3 _ _ _ hc
        cases this
        simp
      · rfl
    · rw [Array.getElem?_eq_none (by omega : w'.heap.size ≤ a.block)]
theorem u64_bounds {n : Int} (h : (Lit.int .u64 n).wf = true) : 0 ≤ n ∧ n < 18446744073709551616 := by
  simp [Lit.wf, IntKind.min, IntKind.max, IntKind.signed, IntKind.bits] at h
  omega
end Go.KRun
