/-
  whole.Rem, whole.Mod and whole.Round, as calls in every world.
-/
import Derived.Test.YtbcpnpchioncbaaG35
import Derived.Test.YtbcpnpchioncbaaG19
namespace Go.Proofs.Ytbcpnpchioncbaa
open Go.KRun Go.Wd Go.Pt Go.Rn
set_option maxRecDepth 100000

theorem wr_n1 (a b : Int) : Fits (reckon (tabOf Try.prog extY conW2 true) 300 8 [.int .u64 a, .int .u64 b] [cmp true, cmp true, cmp true]) (rdT 9221120237041090560 1) [(cl a == 5, true), lU a, (decide ((0 : Int) < ((2 : Nat) : Int)), true), (decide (cl a > 3), true), lU a] := ⟨by kernel_rfl, by kernel_rfl, by kernel_rfl, by kernel_rfl⟩
theorem wr_n2 (a b : Int) : Fits (reckon (tabOf Try.prog extY conW2 true) 300 8 [.int .u64 a, .int .u64 b] [cmp true, cmp true, cmp false, cmp true, cmp true]) (rdT 9221120237041090560 1) [(cl b == 5, true), lU b, (decide (IntKind.i64.wrap (0 + 1) < ((2 : Nat) : Int)), true), (cl a == 5, false), lU a, (decide ((0 : Int) < ((2 : Nat) : Int)), true), (decide (cl a > 3), true), lU a] := ⟨by kernel_rfl, by kernel_rfl, by kernel_rfl, by kernel_rfl⟩
theorem wr_n3 (a b : Int) : Fits (reckon (tabOf Try.prog extY conW2 true) 300 8 [.int .u64 a, .int .u64 b] [cmp true, cmp true, cmp false, cmp true, cmp false, cmp false]) (rdT 9221120237041090560 0) [(decide (IntKind.i64.wrap (IntKind.i64.wrap (0 + 1) + 1) < ((2 : Nat) : Int)), false), (cl b == 5, false), lU b, (decide (IntKind.i64.wrap (0 + 1) < ((2 : Nat) : Int)), true), (cl a == 5, false), lU a, (decide ((0 : Int) < ((2 : Nat) : Int)), true), (decide (cl a > 3), true), lU a] := ⟨by kernel_rfl, by kernel_rfl, by kernel_rfl, by kernel_rfl⟩
theorem wr_m2 (a b : Int) : Fits (reckon (tabOf Try.prog extY conW2 true) 300 8 [.int .u64 a, .int .u64 b] [cmp false, cmp true, cmp true, cmp false, cmp true, cmp true]) (rdT 9221120237041090560 1) [(cl b == 5, true), lU b, (decide (IntKind.i64.wrap (0 + 1) < ((2 : Nat) : Int)), true), (cl a == 5, false), lU a, (decide ((0 : Int) < ((2 : Nat) : Int)), true), (decide (cl b > 3), true), lU b, (decide (cl a > 3), false), lU a] := ⟨by kernel_rfl, by kernel_rfl, by kernel_rfl, by kernel_rfl⟩
theorem wr_m3 (a b : Int) : Fits (reckon (tabOf Try.prog extY conW2 true) 300 8 [.int .u64 a, .int .u64 b] [cmp false, cmp true, cmp true, cmp false, cmp true, cmp false, cmp false]) (rdT 9221120237041090560 0) [(decide (IntKind.i64.wrap (IntKind.i64.wrap (0 + 1) + 1) < ((2 : Nat) : Int)), false), (cl b == 5, false), lU b, (decide (IntKind.i64.wrap (0 + 1) < ((2 : Nat) : Int)), true), (cl a == 5, false), lU a, (decide ((0 : Int) < ((2 : Nat) : Int)), true), (decide (cl b > 3), true), lU b, (decide (cl a > 3), false), lU a] := ⟨by kernel_rfl, by kernel_rfl, by kernel_rfl, by kernel_rfl⟩
theorem wr_i (a b : Int) : Fits (reckon (tabOf Try.prog extY conW2 true) 300 8 [.int .u64 a, .int .u64 b] [cmp false, cmp false, cmp true]) (rdT 9221120237041090560 1) [(cl a == 3, true), lU a, (decide (cl b > 3), false), lU b, (decide (cl a > 3), false), lU a] := ⟨by kernel_rfl, by kernel_rfl, by kernel_rfl, by kernel_rfl⟩
theorem wr_z (a b : Int) : Fits (reckon (tabOf Try.prog extY conW2 true) 300 8 [.int .u64 a, .int .u64 b] [cmp false, cmp false, cmp false, cmp true]) (rdT 9221120237041090560 1) [(cl b == 0, true), lU b, (cl a == 3, false), lU a, (decide (cl b > 3), false), lU b, (decide (cl a > 3), false), lU a] := ⟨by kernel_rfl, by kernel_rfl, by kernel_rfl, by kernel_rfl⟩
theorem wr_e (a b : Int) : Fits (reckon (tabOf Try.prog extY conW2 true) 300 8 [.int .u64 a, .int .u64 b] [cmp false, cmp false, cmp false, cmp false, cmp true]) (rdT a 0) [(cl b == 3, true), lU b, (cl b == 0, false), lU b, (cl a == 3, false), lU a, (decide (cl b > 3), false), lU b, (decide (cl a > 3), false), lU a] := ⟨by kernel_rfl, by kernel_rfl, by kernel_rfl, by kernel_rfl⟩
theorem wm_n1 (a b : Int) : Fits (reckon (tabOf Try.prog extY conW2 true) 300 10 [.int .u64 a, .int .u64 b] [cmp true, cmp true, cmp true]) (rdT 9221120237041090560 1) [(cl a == 5, true), lU a, (decide ((0 : Int) < ((2 : Nat) : Int)), true), (decide (cl a > 3), true), lU a] := ⟨by kernel_rfl, by kernel_rfl, by kernel_rfl, by kernel_rfl⟩
theorem wm_n2 (a b : Int) : Fits (reckon (tabOf Try.prog extY conW2 true) 300 10 [.int .u64 a, .int .u64 b] [cmp true, cmp true, cmp false, cmp true, cmp true]) (rdT 9221120237041090560 1) [(cl b == 5, true), lU b, (decide (IntKind.i64.wrap (0 + 1) < ((2 : Nat) : Int)), true), (cl a == 5, false), lU a, (decide ((0 : Int) < ((2 : Nat) : Int)), true), (decide (cl a > 3), true), lU a] := ⟨by kernel_rfl, by kernel_rfl, by kernel_rfl, by kernel_rfl⟩
theorem wm_n3 (a b : Int) : Fits (reckon (tabOf Try.prog extY conW2 true) 300 10 [.int .u64 a, .int .u64 b] [cmp true, cmp true, cmp false, cmp true, cmp false, cmp false]) (rdT 9221120237041090560 0) [(decide (IntKind.i64.wrap (IntKind.i64.wrap (0 + 1) + 1) < ((2 : Nat) : Int)), false), (cl b == 5, false), lU b, (decide (IntKind.i64.wrap (0 + 1) < ((2 : Nat) : Int)), true), (cl a == 5, false), lU a, (decide ((0 : Int) < ((2 : Nat) : Int)), true), (decide (cl a > 3), true), lU a] := ⟨by kernel_rfl, by kernel_rfl, by kernel_rfl, by kernel_rfl⟩
theorem wm_m2 (a b : Int) : Fits (reckon (tabOf Try.prog extY conW2 true) 300 10 [.int .u64 a, .int .u64 b] [cmp false, cmp true, cmp true, cmp false, cmp true, cmp true]) (rdT 9221120237041090560 1) [(cl b == 5, true), lU b, (decide (IntKind.i64.wrap (0 + 1) < ((2 : Nat) : Int)), true), (cl a == 5, false), lU a, (decide ((0 : Int) < ((2 : Nat) : Int)), true), (decide (cl b > 3), true), lU b, (decide (cl a > 3), false), lU a] := ⟨by kernel_rfl, by kernel_rfl, by kernel_rfl, by kernel_rfl⟩
theorem wm_m3 (a b : Int) : Fits (reckon (tabOf Try.prog extY conW2 true) 300 10 [.int .u64 a, .int .u64 b] [cmp false, cmp true, cmp true, cmp false, cmp true, cmp false, cmp false]) (rdT 9221120237041090560 0) [(decide (IntKind.i64.wrap (IntKind.i64.wrap (0 + 1) + 1) < ((2 : Nat) : Int)), false), (cl b == 5, false), lU b, (decide (IntKind.i64.wrap (0 + 1) < ((2 : Nat) : Int)), true), (cl a == 5, false), lU a, (decide ((0 : Int) < ((2 : Nat) : Int)), true), (decide (cl b > 3), true), lU b, (decide (cl a > 3), false), lU a] := ⟨by kernel_rfl, by kernel_rfl, by kernel_rfl, by kernel_rfl⟩
theorem wm_i (a b : Int) : Fits (reckon (tabOf Try.prog extY conW2 true) 300 10 [.int .u64 a, .int .u64 b] [cmp false, cmp false, cmp true]) (rdT 9221120237041090560 1) [(cl a == 3, true), lU a, (decide (cl b > 3), false), lU b, (decide (cl a > 3), false), lU a] := ⟨by kernel_rfl, by kernel_rfl, by kernel_rfl, by kernel_rfl⟩
theorem wm_z (a b : Int) : Fits (reckon (tabOf Try.prog extY conW2 true) 300 10 [.int .u64 a, .int .u64 b] [cmp false, cmp false, cmp false, cmp true]) (rdT 9221120237041090560 1) [(cl b == 0, true), lU b, (cl a == 3, false), lU a, (decide (cl b > 3), false), lU b, (decide (cl a > 3), false), lU a] := ⟨by kernel_rfl, by kernel_rfl, by kernel_rfl, by kernel_rfl⟩
theorem wm_e (a b : Int) : Fits (reckon (tabOf Try.prog extY conW2 true) 300 10 [.int .u64 a, .int .u64 b] [cmp false, cmp false, cmp false, cmp false, cmp true]) (rdT a 0) [(cl b == 3, true), lU b, (cl b == 0, false), lU b, (cl a == 3, false), lU a, (decide (cl b > 3), false), lU b, (decide (cl a > 3), false), lU a] := ⟨by kernel_rfl, by kernel_rfl, by kernel_rfl, by kernel_rfl⟩
theorem wm_f (a b : Int) (d : Bool) : Fits (reckon (tabOf Try.prog extY conW2 true) 300 10 [.int .u64 a, .int .u64 b] [cmp false, cmp false, cmp false, cmp false, cmp false, cmp d]) (rdV 0 (sgn a) (tw (ofN (rsM a b)) false) (clp (wlE a b) - 1)) [(decide (ofN (rsM a b)).ok, true), (paO a b, d), (okPg a b, true), (decide (U a ∧ U b), true), (cl b == 3, false), lU b, (cl b == 0, false), lU b, (cl a == 3, false), lU a, (decide (cl b > 3), false), lU b, (decide (cl a > 3), false), lU a] := ⟨by kernel_rfl, by kernel_rfl, by kernel_rfl, by kernel_rfl⟩
theorem wr_f1 (a b : Int) (d : Bool) : Fits (reckon (tabOf Try.prog extY conW2 true) 300 8 [.int .u64 a, .int .u64 b] [cmp false, cmp false, cmp false, cmp false, cmp false, cmp d, num 1, cmp true]) (rdV 0 (!(sgn a)) (tw (W4.of ((ofN (paV a b)).val - (ofN (rsM a b)).val)) false) (clp (wlE a b) - 1)) [(decide (W4.of ((ofN (paV a b)).val - (ofN (rsM a b)).val)).ok, true), (decide ((ofN (paV a b)).ok ∧ (ofN (rsM a b)).ok), true), (decide ((1 : Int) > 0), true), (decide ((shlW (ofN (rsM a b)) 1).ok ∧ (ofN (paV a b)).ok), true), (decide (cmpI (shlW (ofN (rsM a b)) 1) (ofN (paV a b)) = 1), true), (decide ((ofN (rsM a b)).ok ∧ -9223372036854775808 ≤ (1 : Int) ∧ (1 : Int) ≤ 9223372036854775807), true), (paO a b, d), (okPg a b, true), (decide (U a ∧ U b), true), (cl b == 3, false), lU b, (cl b == 0, false), lU b, (cl a == 3, false), lU a, (decide (cl b > 3), false), lU b, (decide (cl a > 3), false), lU a] := ⟨by kernel_rfl, by kernel_rfl, by kernel_rfl, by kernel_rfl⟩
theorem wr_f0t (a b : Int) : Fits (reckon (tabOf Try.prog extY conW2 true) 300 8 [.int .u64 a, .int .u64 b] [cmp false, cmp false, cmp false, cmp false, cmp false, cmp true, num 0, cmp false, cmp true]) (rdV 0 (!(sgn a)) (tw (W4.of ((ofN (paV a b)).val - (ofN (rsM a b)).val)) false) (clp (wlE a b) - 1)) [(decide (W4.of ((ofN (paV a b)).val - (ofN (rsM a b)).val)).ok, true), (decide ((ofN (paV a b)).ok ∧ (ofN (rsM a b)).ok), true), ((0 : Int) == 0, true), (decide ((0 : Int) > 0), false), (decide ((shlW (ofN (rsM a b)) 1).ok ∧ (ofN (paV a b)).ok), true), (decide (cmpI (shlW (ofN (rsM a b)) 1) (ofN (paV a b)) = 0), true), (decide ((ofN (rsM a b)).ok ∧ -9223372036854775808 ≤ (1 : Int) ∧ (1 : Int) ≤ 9223372036854775807), true), (paO a b, true), (okPg a b, true), (decide (U a ∧ U b), true), (cl b == 3, false), lU b, (cl b == 0, false), lU b, (cl a == 3, false), lU a, (decide (cl b > 3), false), lU b, (decide (cl a > 3), false), lU a] := ⟨by kernel_rfl, by kernel_rfl, by kernel_rfl, by kernel_rfl⟩
theorem wr_f0f (a b : Int) : Fits (reckon (tabOf Try.prog extY conW2 true) 300 8 [.int .u64 a, .int .u64 b] [cmp false, cmp false, cmp false, cmp false, cmp false, cmp false, num 0, cmp false, cmp true]) (rdV 0 (sgn a) (tw (ofN (rsM a b)) false) (clp (wlE a b) - 1)) [(decide (ofN (rsM a b)).ok, true), ((0 : Int) == 0, true), (decide ((0 : Int) > 0), false), (decide ((shlW (ofN (rsM a b)) 1).ok ∧ (ofN (paV a b)).ok), true), (decide (cmpI (shlW (ofN (rsM a b)) 1) (ofN (paV a b)) = 0), true), (decide ((ofN (rsM a b)).ok ∧ -9223372036854775808 ≤ (1 : Int) ∧ (1 : Int) ≤ 9223372036854775807), true), (paO a b, false), (okPg a b, true), (decide (U a ∧ U b), true), (cl b == 3, false), lU b, (cl b == 0, false), lU b, (cl a == 3, false), lU a, (decide (cl b > 3), false), lU b, (decide (cl a > 3), false), lU a] := ⟨by kernel_rfl, by kernel_rfl, by kernel_rfl, by kernel_rfl⟩
theorem wr_fm (a b : Int) (d : Bool) : Fits (reckon (tabOf Try.prog extY conW2 true) 300 8 [.int .u64 a, .int .u64 b] [cmp false, cmp false, cmp false, cmp false, cmp false, cmp d, num (-1), cmp false, cmp false]) (rdV 0 (sgn a) (tw (ofN (rsM a b)) false) (clp (wlE a b) - 1)) [(decide (ofN (rsM a b)).ok, true), ((-1 : Int) == 0, false), (decide ((-1 : Int) > 0), false), (decide ((shlW (ofN (rsM a b)) 1).ok ∧ (ofN (paV a b)).ok), true), (decide (cmpI (shlW (ofN (rsM a b)) 1) (ofN (paV a b)) = -1), true), (decide ((ofN (rsM a b)).ok ∧ -9223372036854775808 ≤ (1 : Int) ∧ (1 : Int) ≤ 9223372036854775807), true), (paO a b, d), (okPg a b, true), (decide (U a ∧ U b), true), (cl b == 3, false), lU b, (cl b == 0, false), lU b, (cl a == 3, false), lU a, (decide (cl b > 3), false), lU b, (decide (cl a > 3), false), lU a] := ⟨by kernel_rfl, by kernel_rfl, by kernel_rfl, by kernel_rfl⟩
theorem wo_n1t (a m : Int) : Fits (reckon (tabOf Try.prog extY conW2 true) 300 12 [.int .u64 a, .int .i64 m, .bool true] [cmp true, cmp true, cmp true]) (rdT 9221120237041090560 1) [(cl a == 5, true), lU a, (decide ((0 : Int) < ((1 : Nat) : Int)), true), (decide (cl a > 3), true), lU a] := ⟨by kernel_rfl, by kernel_rfl, by kernel_rfl, by kernel_rfl⟩
theorem wo_n0t (a m : Int) : Fits (reckon (tabOf Try.prog extY conW2 true) 300 12 [.int .u64 a, .int .i64 m, .bool true] [cmp true, cmp true, cmp false, cmp false]) (rdT 9221120237041090560 0) [(decide (IntKind.i64.wrap (0 + 1) < ((1 : Nat) : Int)), false), (cl a == 5, false), lU a, (decide ((0 : Int) < ((1 : Nat) : Int)), true), (decide (cl a > 3), true), lU a] := ⟨by kernel_rfl, by kernel_rfl, by kernel_rfl, by kernel_rfl⟩
theorem wo_et (a m : Int) : Fits (reckon (tabOf Try.prog extY conW2 true) 300 12 [.int .u64 a, .int .i64 m, .bool true] [cmp false, cmp true]) (rdT a 0) [(cl a == 3, true), lU a, (decide (cl a > 3), false), lU a] := ⟨by kernel_rfl, by kernel_rfl, by kernel_rfl, by kernel_rfl⟩
theorem wo_wt (a m : Int) : Fits (reckon (tabOf Try.prog extY conW2 true) 300 12 [.int .u64 a, .int .i64 m, .bool true] [cmp false, cmp false, cmp true, cmp true]) (rdV 0 (sgn a) (tw (wSg a) false) (clp (xp a) - 1)) [(decide (wSg a).ok, true), (early (xp a) false, true), lU a, (decide (cl a ≤ 2), true), lU a, (cl a == 3, false), lU a, (decide (cl a > 3), false), lU a] := ⟨by kernel_rfl, by kernel_rfl, by kernel_rfl, by kernel_rfl⟩
theorem wo_ftt (a m : Int) : Fits (reckon (tabOf Try.prog extY conW2 true) 300 12 [.int .u64 a, .int .i64 m, .bool true] [cmp false, cmp false, cmp true, cmp false, cmp true, cmp true]) (rdT (sS (sgn a) (rnP 0 (sgn a) (tw (ofN (whQ m (sgn a) (wSg a) false (xp a))) false) (clp 0 - 1))) (IntKind.u8.wrap ((BitVec.ofInt 8 (rnF 0 (sgn a) (tw (ofN (whQ m (sgn a) (wSg a) false (xp a))) false) (clp 0 - 1)) ||| BitVec.ofInt 8 16).toNat : Nat))) [(decide (ofN (whQ m (sgn a) (wSg a) false (xp a))).ok, true), (whL (wSg a) false (xp a), true), (decide (whQ m (sgn a) (wSg a) false (xp a) < 2 ^ 256), true), (early (xp a) false, false), (decide (wSg a).ok, true), lU a, (decide (cl a ≤ 2), true), lU a, (cl a == 3, false), lU a, (decide (cl a > 3), false), lU a] := ⟨by kernel_rfl, by kernel_rfl, by kernel_rfl, by kernel_rfl⟩
theorem wo_ftf (a m : Int) : Fits (reckon (tabOf Try.prog extY conW2 true) 300 12 [.int .u64 a, .int .i64 m, .bool true] [cmp false, cmp false, cmp true, cmp false, cmp true, cmp false]) (rdV 0 (sgn a) (tw (ofN (whQ m (sgn a) (wSg a) false (xp a))) false) (clp 0 - 1)) [(decide (ofN (whQ m (sgn a) (wSg a) false (xp a))).ok, true), (whL (wSg a) false (xp a), false), (decide (whQ m (sgn a) (wSg a) false (xp a) < 2 ^ 256), true), (early (xp a) false, false), (decide (wSg a).ok, true), lU a, (decide (cl a ≤ 2), true), lU a, (cl a == 3, false), lU a, (decide (cl a > 3), false), lU a] := ⟨by kernel_rfl, by kernel_rfl, by kernel_rfl, by kernel_rfl⟩
theorem wo_n1f (a m : Int) : Fits (reckon (tabOf Try.prog extY conW2 true) 300 12 [.int .u64 a, .int .i64 m, .bool false] [cmp true, cmp true, cmp true]) (rdT 9221120237041090560 1) [(cl a == 5, true), lU a, (decide ((0 : Int) < ((1 : Nat) : Int)), true), (decide (cl a > 3), true), lU a] := ⟨by kernel_rfl, by kernel_rfl, by kernel_rfl, by kernel_rfl⟩
theorem wo_n0f (a m : Int) : Fits (reckon (tabOf Try.prog extY conW2 true) 300 12 [.int .u64 a, .int .i64 m, .bool false] [cmp true, cmp true, cmp false, cmp false]) (rdT 9221120237041090560 0) [(decide (IntKind.i64.wrap (0 + 1) < ((1 : Nat) : Int)), false), (cl a == 5, false), lU a, (decide ((0 : Int) < ((1 : Nat) : Int)), true), (decide (cl a > 3), true), lU a] := ⟨by kernel_rfl, by kernel_rfl, by kernel_rfl, by kernel_rfl⟩
theorem wo_ef (a m : Int) : Fits (reckon (tabOf Try.prog extY conW2 true) 300 12 [.int .u64 a, .int .i64 m, .bool false] [cmp false, cmp true]) (rdT a 0) [(cl a == 3, true), lU a, (decide (cl a > 3), false), lU a] := ⟨by kernel_rfl, by kernel_rfl, by kernel_rfl, by kernel_rfl⟩
theorem wo_wf (a m : Int) : Fits (reckon (tabOf Try.prog extY conW2 true) 300 12 [.int .u64 a, .int .i64 m, .bool false] [cmp false, cmp false, cmp true, cmp true]) (rdV 0 (sgn a) (tw (wSg a) false) (clp (xp a) - 1)) [(decide (wSg a).ok, true), (early (xp a) false, true), lU a, (decide (cl a ≤ 2), true), lU a, (cl a == 3, false), lU a, (decide (cl a > 3), false), lU a] := ⟨by kernel_rfl, by kernel_rfl, by kernel_rfl, by kernel_rfl⟩
theorem wo_fft (a m : Int) : Fits (reckon (tabOf Try.prog extY conW2 true) 300 12 [.int .u64 a, .int .i64 m, .bool false] [cmp false, cmp false, cmp true, cmp false, cmp true, cmp true]) (rdV 0 (sgn a) (tw (ofN (whQ m (sgn a) (wSg a) false (xp a))) false) (clp 0 - 1)) [(decide (ofN (whQ m (sgn a) (wSg a) false (xp a))).ok, true), (whL (wSg a) false (xp a), true), (decide (whQ m (sgn a) (wSg a) false (xp a) < 2 ^ 256), true), (early (xp a) false, false), (decide (wSg a).ok, true), lU a, (decide (cl a ≤ 2), true), lU a, (cl a == 3, false), lU a, (decide (cl a > 3), false), lU a] := ⟨by kernel_rfl, by kernel_rfl, by kernel_rfl, by kernel_rfl⟩
theorem wo_fff (a m : Int) : Fits (reckon (tabOf Try.prog extY conW2 true) 300 12 [.int .u64 a, .int .i64 m, .bool false] [cmp false, cmp false, cmp true, cmp false, cmp true, cmp false]) (rdV 0 (sgn a) (tw (ofN (whQ m (sgn a) (wSg a) false (xp a))) false) (clp 0 - 1)) [(decide (ofN (whQ m (sgn a) (wSg a) false (xp a))).ok, true), (whL (wSg a) false (xp a), false), (decide (whQ m (sgn a) (wSg a) false (xp a) < 2 ^ 256), true), (early (xp a) false, false), (decide (wSg a).ok, true), lU a, (decide (cl a ≤ 2), true), lU a, (cl a == 3, false), lU a, (decide (cl a > 3), false), lU a] := ⟨by kernel_rfl, by kernel_rfl, by kernel_rfl, by kernel_rfl⟩
theorem rd_even (m : Int) (n : Bool) {X : Nat} (hX : X < 2 ^ 256) (E : Int) : rdV m n (tw (ofN X) false) (clp E - 1) = rdT (sS n (rnP m n X E)) (rnF m n X E) := by
  obtain ⟨c1, c2⟩ := clp_round m n (ofN_ok X) false E
  have e := tw_of hX false
  have e1 : 2 * X + bN false = X * 2 ^ 1 := by simp only [bN]; omega
  unfold rdV
  rw [c1, c2, e, e1]
  have p := rnP_scale m n X 1 E
  have f := rnF_scale m n X 1 E
  rw [show E - ((1 : Nat) : Int) = E - 1 by omega] at p f
  rw [p, f]
theorem ofN_val {X : Nat} (h : X < 2 ^ 256) : (ofN X).val = (X : Int) := by
  have h2 : (2 : Nat) ^ 256 = 115792089237316195423570985008687907853269984665640564039457584007913129639936 := rfl
  unfold ofN
  rw [W4.val_of, Int.emod_eq_of_lt (by omega) (by omega)]
/-- what Mod answers; what Rem answers; the flags of both -/
def moP (a b : Int) : Int := if 3 < cl a ∨ 3 < cl b then 9221120237041090560 else if cl a = 3 ∨ cl b = 0 then 9221120237041090560 else if cl b = 3 then a else sS (sgn a) (mdP a b)
def reP (a b : Int) : Int := if 3 < cl a ∨ 3 < cl b then 9221120237041090560 else if cl a = 3 ∨ cl b = 0 then 9221120237041090560 else if cl b = 3 then a else sS (sgn a != rsB a b) (rmP a b)
def moF (a b : Int) : Int := if 3 < cl a ∨ 3 < cl b then (if cl a = 5 ∨ cl b = 5 then 1 else 0) else if cl a = 3 ∨ cl b = 0 then 1 else 0
theorem rs_small {a b : Int} (hb : sg b ≠ 0) : rsM a b < 2 ^ 256 ∧ paV a b < 2 ^ 256 ∧ rsM a b < paV a b := by
  obtain ⟨_, h2, _, _⟩ := rs_bd (a := a) hb
  have pv := paV_bd a b
  have := (pa_num (a := a) hb).1
  refine ⟨Nat.lt_trans h2 (by decide), Nat.lt_trans pv.1 (by decide), ?_⟩
  rw [← this]
  exact Nat.mod_lt _ (pv.2 hb)
theorem mod_calls8 (a b : Int) (ha : U a) (hb : U b) (w : World) : Calls Try.prog 10 #[.int .u64 a, .int .u64 b] w fun r w' => r = .returned (rdT (moP a b) (moF a b)) ∧ Tidy w w' := by
  have hv : ([.int .u64 a, .int .u64 b].all (lt 0)) = true := rfl
  have T := tabY_ok conW2_ok
  have ka : decide (U a) = true := decide_eq_true ha
  have kb : decide (U b) = true := decide_eq_true hb
  have kab : decide (U a ∧ U b) = true := decide_eq_true ⟨ha, hb⟩
  have ba := cl_bd a
  have bb := cl_bd b
  unfold moP moF
  by_cases ha3 : 3 < cl a
  · rw [if_pos (.inl ha3), if_pos (.inl ha3)]
    by_cases a5 : cl a = 5
    · rw [if_pos (.inl a5)]
      exact fits_calls T (wm_n1 a b) (okCons (beq_t (by omega)) (okCons ka (okCons (by decide) (okCons (decide_eq_true (by omega)) (okL1 ka))))) hv (by rfl) w
    · by_cases b5 : cl b = 5
      · rw [if_pos (.inr b5)]
        exact fits_calls T (wm_n2 a b) (okCons (beq_t (by omega)) (okCons kb (okCons (by decide) (okCons (beq_f (by omega)) (okCons ka (okCons (by decide) (okCons (decide_eq_true (by omega)) (okL1 ka)))))))) hv (by rfl) w
      · rw [if_neg (by omega)]
        exact fits_calls T (wm_n3 a b) (okCons (by decide) (okCons (beq_f (by omega)) (okCons kb (okCons (by decide) (okCons (beq_f (by omega)) (okCons ka (okCons (by decide) (okCons (decide_eq_true (by omega)) (okL1 ka))))))))) hv (by rfl) w
  by_cases hb3 : 3 < cl b
  · rw [if_pos (.inr hb3), if_pos (.inr hb3)]
    by_cases b5 : cl b = 5
    · rw [if_pos (.inr b5)]
      exact fits_calls T (wm_m2 a b) (okCons (beq_t (by omega)) (okCons kb (okCons (by decide) (okCons (beq_f (by omega)) (okCons ka (okCons (by decide) (okCons (decide_eq_true (by omega)) (okCons kb (okCons (decide_eq_false (by omega)) (okL1 ka)))))))))) hv (by rfl) w
    · rw [if_neg (by omega)]
      exact fits_calls T (wm_m3 a b) (okCons (by decide) (okCons (beq_f (by omega)) (okCons kb (okCons (by decide) (okCons (beq_f (by omega)) (okCons ka (okCons (by decide) (okCons (decide_eq_true (by omega)) (okCons kb (okCons (decide_eq_false (by omega)) (okL1 ka))))))))))) hv (by rfl) w
  have hno : ¬ (3 < cl a ∨ 3 < cl b) := by omega
  rw [if_neg hno, if_neg hno]
  by_cases a3 : cl a = 3
  · rw [if_pos (.inl a3), if_pos (.inl a3)]
    exact fits_calls T (wm_i a b) (okCons (beq_t (by omega)) (okCons ka (okCons (decide_eq_false (by omega)) (okCons kb (okCons (decide_eq_false (by omega)) (okL1 ka)))))) hv (by rfl) w
  by_cases bz : cl b = 0
  · rw [if_pos (.inr bz), if_pos (.inr bz)]
    exact fits_calls T (wm_z a b) (okCons (beq_t (by omega)) (okCons kb (okCons (beq_f (by omega)) (okCons ka (okCons (decide_eq_false (by omega)) (okCons kb (okCons (decide_eq_false (by omega)) (okL1 ka)))))))) hv (by rfl) w
  have hn2 : ¬ (cl a = 3 ∨ cl b = 0) := by omega
  rw [if_neg hn2, if_neg hn2]
  by_cases b3 : cl b = 3
  · rw [if_pos b3]
    exact fits_calls T (wm_e a b) (okCons (beq_t (by omega)) (okCons kb (okCons (beq_f (by omega)) (okCons kb (okCons (beq_f (by omega)) (okCons ka (okCons (decide_eq_false (by omega)) (okCons kb (okCons (decide_eq_false (by omega)) (okL1 ka)))))))))) hv (by rfl) w
  rw [if_neg b3]
  have nz : sg b ≠ 0 := fun h0 => bz ((sg_zero (p := b) (by omega)).1 h0)
  have fb := fin_ex (p := b) (by omega)
  obtain ⟨hM, hV, hMV⟩ := rs_small (a := a) nz
  obtain ⟨d, hd⟩ : ∃ d, d = paO a b := ⟨_, rfl⟩
  obtain ⟨m1, m2, _⟩ := md_num (a := a) nz fb 0 (sgn a)
  have hf := wm_f a b d
  rw [rd_even 0 (sgn a) hM, m1, m2] at hf
  exact fits_calls T hf (okCons (decide_eq_true (ofN_ok _)) (okCons hd.symm (okCons (decide_eq_true ⟨by omega, by omega, by omega⟩) (okCons kab (okCons (beq_f (by omega)) (okCons kb (okCons (beq_f (by omega)) (okCons kb (okCons (beq_f (by omega)) (okCons ka (okCons (decide_eq_false (by omega)) (okCons kb (okCons (decide_eq_false (by omega)) (okL1 ka)))))))))))))) hv (by rfl) w
theorem rem_calls8 (a b : Int) (ha : U a) (hb : U b) (w : World) : Calls Try.prog 8 #[.int .u64 a, .int .u64 b] w fun r w' => r = .returned (rdT (reP a b) (moF a b)) ∧ Tidy w w' := by
  have hv : ([.int .u64 a, .int .u64 b].all (lt 0)) = true := rfl
  have T := tabY_ok conW2_ok
  have ka : decide (U a) = true := decide_eq_true ha
  have kb : decide (U b) = true := decide_eq_true hb
  have kab : decide (U a ∧ U b) = true := decide_eq_true ⟨ha, hb⟩
  have ba := cl_bd a
  have bb := cl_bd b
  unfold reP moF
  by_cases ha3 : 3 < cl a
  · rw [if_pos (.inl ha3), if_pos (.inl ha3)]
    by_cases a5 : cl a = 5
    · rw [if_pos (.inl a5)]
      exact fits_calls T (wr_n1 a b) (okCons (beq_t (by omega)) (okCons ka (okCons (by decide) (okCons (decide_eq_true (by omega)) (okL1 ka))))) hv (by rfl) w
    · by_cases b5 : cl b = 5
      · rw [if_pos (.inr b5)]
        exact fits_calls T (wr_n2 a b) (okCons (beq_t (by omega)) (okCons kb (okCons (by decide) (okCons (beq_f (by omega)) (okCons ka (okCons (by decide) (okCons (decide_eq_true (by omega)) (okL1 ka)))))))) hv (by rfl) w
      · rw [if_neg (by omega)]
        exact fits_calls T (wr_n3 a b) (okCons (by decide) (okCons (beq_f (by omega)) (okCons kb (okCons (by decide) (okCons (beq_f (by omega)) (okCons ka (okCons (by decide) (okCons (decide_eq_true (by omega)) (okL1 ka))))))))) hv (by rfl) w
  by_cases hb3 : 3 < cl b
  · rw [if_pos (.inr hb3), if_pos (.inr hb3)]
    by_cases b5 : cl b = 5
    · rw [if_pos (.inr b5)]
      exact fits_calls T (wr_m2 a b) (okCons (beq_t (by omega)) (okCons kb (okCons (by decide) (okCons (beq_f (by omega)) (okCons ka (okCons (by decide) (okCons (decide_eq_true (by omega)) (okCons kb (okCons (decide_eq_false (by omega)) (okL1 ka)))))))))) hv (by rfl) w
    · rw [if_neg (by omega)]
      exact fits_calls T (wr_m3 a b) (okCons (by decide) (okCons (beq_f (by omega)) (okCons kb (okCons (by decide) (okCons (beq_f (by omega)) (okCons ka (okCons (by decide) (okCons (decide_eq_true (by omega)) (okCons kb (okCons (decide_eq_false (by omega)) (okL1 ka))))))))))) hv (by rfl) w
  have hno : ¬ (3 < cl a ∨ 3 < cl b) := by omega
  rw [if_neg hno, if_neg hno]
  by_cases a3 : cl a = 3
  · rw [if_pos (.inl a3), if_pos (.inl a3)]
    exact fits_calls T (wr_i a b) (okCons (beq_t (by omega)) (okCons ka (okCons (decide_eq_false (by omega)) (okCons kb (okCons (decide_eq_false (by omega)) (okL1 ka)))))) hv (by rfl) w
  by_cases bz : cl b = 0
  · rw [if_pos (.inr bz), if_pos (.inr bz)]
    exact fits_calls T (wr_z a b) (okCons (beq_t (by omega)) (okCons kb (okCons (beq_f (by omega)) (okCons ka (okCons (decide_eq_false (by omega)) (okCons kb (okCons (decide_eq_false (by omega)) (okL1 ka)))))))) hv (by rfl) w
  have hn2 : ¬ (cl a = 3 ∨ cl b = 0) := by omega
  rw [if_neg hn2, if_neg hn2]
  by_cases b3 : cl b = 3
  · rw [if_pos b3]
    exact fits_calls T (wr_e a b) (okCons (beq_t (by omega)) (okCons kb (okCons (beq_f (by omega)) (okCons kb (okCons (beq_f (by omega)) (okCons ka (okCons (decide_eq_false (by omega)) (okCons kb (okCons (decide_eq_false (by omega)) (okL1 ka)))))))))) hv (by rfl) w
  rw [if_neg b3]
  have nz : sg b ≠ 0 := fun h0 => bz ((sg_zero (p := b) (by omega)).1 h0)
  have fb := fin_ex (p := b) (by omega)
  obtain ⟨hM, hV, hMV⟩ := rs_small (a := a) nz
  obtain ⟨d, hd⟩ : ∃ d, d = paO a b := ⟨_, rfl⟩
  obtain ⟨os, vs⟩ := shl_nat (s := 1) (ofN_ok (rsM a b)) (ofN_val hM) (by omega) (by
    obtain ⟨_, h2, _, _⟩ := rs_bd (a := a) nz
    exact Nat.lt_of_le_of_lt (Nat.mul_le_mul_right (2 ^ 1) (Nat.le_of_lt h2)) (by decide))
  have os : (shlW (ofN (rsM a b)) 1).ok := os
  have vs : (shlW (ofN (rsM a b)) 1).val = ((rsM a b * 2 ^ 1 : Nat) : Int) := vs
  have vV := ofN_val hV
  obtain ⟨p1, p2, p3⟩ := pa_cmp (a := a) nz
  have flip : rsB a b = true → rdV 0 (!(sgn a)) (tw (W4.of ((ofN (paV a b)).val - (ofN (rsM a b)).val)) false) (clp (wlE a b) - 1) = rdT (sS (sgn a != rsB a b) (rmP a b)) 0 := by
    intro hB
    have hle : wlV a b ≤ 2 * rsM a b := by have := of_decide_eq_true hB; omega
    have eR : rsR a b = paV a b - rsM a b := by unfold rsR; rw [if_pos hB, p3 hle]
    have eW : W4.of ((ofN (paV a b)).val - (ofN (rsM a b)).val) = ofN (rsR a b) := by
      rw [vV, ofN_val hM, eR]
      unfold ofN
      congr 1
      omega
    obtain ⟨m1, m2, _⟩ := rm_num (a := a) nz fb 0 (!(sgn a))
    rw [eW, rd_even 0 (!(sgn a)) (by omega), m1, m2, hB]
    simp
  have keep : rsB a b = false → rdV 0 (sgn a) (tw (ofN (rsM a b)) false) (clp (wlE a b) - 1) = rdT (sS (sgn a != rsB a b) (rmP a b)) 0 := by
    intro hB
    have eR : rsR a b = rsM a b := by unfold rsR; rw [if_neg (by rw [hB]; decide)]
    obtain ⟨m1, m2, _⟩ := rm_num (a := a) nz fb 0 (sgn a)
    rw [eR] at m1 m2
    rw [rd_even 0 (sgn a) hM, m1, m2, hB]
    simp
  by_cases g1 : paV a b < 2 * rsM a b
  · have hc : cmpI (shlW (ofN (rsM a b)) 1) (ofN (paV a b)) = 1 := by unfold cmpI; rw [vs, vV, if_neg (by omega), if_neg (by omega)]
    have hf := wr_f1 a b d
    rw [flip (decide_eq_true (.inl (p1.1 g1)))] at hf
    exact fits_calls T hf (okCons (decide_eq_true (W4.ok_of _)) (okCons (decide_eq_true ⟨ofN_ok _, ofN_ok _⟩) (okCons (by decide) (okCons (decide_eq_true ⟨os, ofN_ok _⟩) (okCons (decide_eq_true hc) (okCons (decide_eq_true ⟨ofN_ok _, by omega, by omega⟩) (okCons hd.symm (okCons (decide_eq_true ⟨by omega, by omega, by omega⟩) (okCons kab (okCons (beq_f (by omega)) (okCons kb (okCons (beq_f (by omega)) (okCons kb (okCons (beq_f (by omega)) (okCons ka (okCons (decide_eq_false (by omega)) (okCons kb (okCons (decide_eq_false (by omega)) (okL1 ka))))))))))))))))))) hv (by rfl) w
  by_cases g2 : 2 * rsM a b = paV a b
  · have hc : cmpI (shlW (ofN (rsM a b)) 1) (ofN (paV a b)) = 0 := by unfold cmpI; rw [vs, vV, if_neg (by omega), if_pos (by omega)]
    cases d with
    | true =>
      have hd := hd.symm
      have hf := wr_f0t a b
      rw [flip (decide_eq_true (.inr ⟨p2.1 g2, of_decide_eq_true hd⟩))] at hf
      exact fits_calls T hf (okCons (decide_eq_true (W4.ok_of _)) (okCons (decide_eq_true ⟨ofN_ok _, ofN_ok _⟩) (okCons (by decide) (okCons (by decide) (okCons (decide_eq_true ⟨os, ofN_ok _⟩) (okCons (decide_eq_true hc) (okCons (decide_eq_true ⟨ofN_ok _, by omega, by omega⟩) (okCons hd (okCons (decide_eq_true ⟨by omega, by omega, by omega⟩) (okCons kab (okCons (beq_f (by omega)) (okCons kb (okCons (beq_f (by omega)) (okCons kb (okCons (beq_f (by omega)) (okCons ka (okCons (decide_eq_false (by omega)) (okCons kb (okCons (decide_eq_false (by omega)) (okL1 ka)))))))))))))))))))) hv (by rfl) w
    | false =>
      have hd := hd.symm
      have hf := wr_f0f a b
      rw [keep (decide_eq_false (fun h => by
        have h1 := of_decide_eq_false hd
        omega))] at hf
      exact fits_calls T hf (okCons (decide_eq_true (ofN_ok _)) (okCons (by decide) (okCons (by decide) (okCons (decide_eq_true ⟨os, ofN_ok _⟩) (okCons (decide_eq_true hc) (okCons (decide_eq_true ⟨ofN_ok _, by omega, by omega⟩) (okCons hd (okCons (decide_eq_true ⟨by omega, by omega, by omega⟩) (okCons kab (okCons (beq_f (by omega)) (okCons kb (okCons (beq_f (by omega)) (okCons kb (okCons (beq_f (by omega)) (okCons ka (okCons (decide_eq_false (by omega)) (okCons kb (okCons (decide_eq_false (by omega)) (okL1 ka))))))))))))))))))) hv (by rfl) w
  · have hc : cmpI (shlW (ofN (rsM a b)) 1) (ofN (paV a b)) = -1 := by unfold cmpI; rw [vs, vV, if_pos (by omega)]
    have hf := wr_fm a b d
    rw [keep (decide_eq_false (by omega))] at hf
    exact fits_calls T hf (okCons (decide_eq_true (ofN_ok _)) (okCons (by decide) (okCons (by decide) (okCons (decide_eq_true ⟨os, ofN_ok _⟩) (okCons (decide_eq_true hc) (okCons (decide_eq_true ⟨ofN_ok _, by omega, by omega⟩) (okCons hd.symm (okCons (decide_eq_true ⟨by omega, by omega, by omega⟩) (okCons kab (okCons (beq_f (by omega)) (okCons kb (okCons (beq_f (by omega)) (okCons kb (okCons (beq_f (by omega)) (okCons ka (okCons (decide_eq_false (by omega)) (okCons kb (okCons (decide_eq_false (by omega)) (okL1 ka))))))))))))))))))) hv (by rfl) w
/-- what Round answers -/
def woP (m a : Int) : Int := if 3 < cl a then 9221120237041090560 else if cl a = 3 then a else sS (sgn a) (whP m a)
def woF (a : Int) (t : Bool) : Int := if 3 < cl a then (if cl a = 5 then 1 else 0) else if cl a = 3 then 0 else if t = true ∧ Go.Rn.whL a = true then 16 else 0
theorem whQ_eq8 (m a : Int) : whQ m (sgn a) (wSg a) false (xp a) = Go.Rn.whQ m a ∧ whL (wSg a) false (xp a) = Go.Rn.whL a := by
  have xa := xp_bd a
  have sa := sg_lt a
  have ec : clp (xp a) = xp a := by unfold clp; split <;> split <;> omega
  have et : tw (wSg a) false = (sg a).toNat * 2 ^ 1 := by
    unfold tw
    rw [wSg_nat]
    simp only
    omega
  have q := toQ_scale m (sgn a) (sg a).toNat 1 (xp a) 0
  have l := toL_scale (sg a).toNat 1 (xp a) 0
  rw [show xp a - ((1 : Nat) : Int) = xp a - 1 by omega] at q l
  unfold whQ whL Go.Rn.whQ Go.Rn.whL
  rw [ec, et, q, l]
  exact ⟨rfl, rfl⟩
theorem round_calls8 (a m : Int) (t : Bool) (ha : U a) (w : World) : Calls Try.prog 12 #[.int .u64 a, .int .i64 m, .bool t] w fun r w' => r = .returned (rdT (woP m a) (woF a t)) ∧ Tidy w w' := by
  have T := tabY_ok conW2_ok
  have ka : decide (U a) = true := decide_eq_true ha
  have ba := cl_bd a
  have xa := xp_bd a
  have hv : ([.int .u64 a, .int .i64 m, .bool t].all (lt 0)) = true := rfl
  unfold woP woF
  by_cases ha3 : 3 < cl a
  · rw [if_pos ha3, if_pos ha3]
    by_cases a5 : cl a = 5
    · rw [if_pos a5]
      cases t with
      | true => exact fits_calls T (wo_n1t a m) (okCons (beq_t (by omega)) (okCons ka (okCons (by decide) (okCons (decide_eq_true (by omega)) (okL1 ka))))) hv (by rfl) w
      | false => exact fits_calls T (wo_n1f a m) (okCons (beq_t (by omega)) (okCons ka (okCons (by decide) (okCons (decide_eq_true (by omega)) (okL1 ka))))) hv (by rfl) w
    · rw [if_neg a5]
      cases t with
      | true => exact fits_calls T (wo_n0t a m) (okCons (by decide) (okCons (beq_f (by omega)) (okCons ka (okCons (by decide) (okCons (decide_eq_true (by omega)) (okL1 ka)))))) hv (by rfl) w
      | false => exact fits_calls T (wo_n0f a m) (okCons (by decide) (okCons (beq_f (by omega)) (okCons ka (okCons (by decide) (okCons (decide_eq_true (by omega)) (okL1 ka)))))) hv (by rfl) w
  rw [if_neg ha3, if_neg ha3]
  by_cases a3 : cl a = 3
  · rw [if_pos a3, if_pos a3]
    cases t with
    | true => exact fits_calls T (wo_et a m) (okCons (beq_t (by omega)) (okCons ka (okCons (decide_eq_false (by omega)) (okL1 ka)))) hv (by rfl) w
    | false => exact fits_calls T (wo_ef a m) (okCons (beq_t (by omega)) (okCons ka (okCons (decide_eq_false (by omega)) (okL1 ka)))) hv (by rfl) w
  rw [if_neg a3, if_neg a3]
  have fa := fin_ex (p := a) (by omega)
  by_cases h0 : 0 ≤ xp a
  · have he : early (xp a) false = true := by
      unfold early
      rcases Int.lt_or_eq_of_le h0 with h | h
      · rw [decide_eq_true h]; rfl
      · rw [← h]; rfl
    have eP : whP m a = mag a := by unfold whP; rw [if_pos h0]
    have eL : Go.Rn.whL a = false := by unfold Go.Rn.whL toL; rw [if_pos h0]
    rw [eP, if_neg (by rw [eL]; simp)]
    obtain ⟨o1, o2⟩ := own_pat (m := 0) (neg := sgn a) fa
    have sa := sg_lt a
    have ew : wSg a = ofN (sg a).toNat := of_nat _ (wSg_ok a) (by rw [wSg_val]; omega)
    have hr : rdV 0 (sgn a) (tw (wSg a) false) (clp (xp a) - 1) = rdT (sS (sgn a) (mag a)) 0 := by
      rw [ew, rd_even 0 (sgn a) (Nat.lt_of_lt_of_le (show (sg a).toNat < 9007199254740992 by omega) (by decide)), o1, o2]
    cases t with
    | true =>
      have hf := wo_wt a m
      rw [hr] at hf
      exact fits_calls T hf (okCons (decide_eq_true (wSg_ok a)) (okCons he (okCons ka (okCons (decide_eq_true (by omega)) (okCons ka (okCons (beq_f (by omega)) (okCons ka (okCons (decide_eq_false (by omega)) (okL1 ka))))))))) hv (by rfl) w
    | false =>
      have hf := wo_wf a m
      rw [hr] at hf
      exact fits_calls T hf (okCons (decide_eq_true (wSg_ok a)) (okCons he (okCons ka (okCons (decide_eq_true (by omega)) (okCons ka (okCons (beq_f (by omega)) (okCons ka (okCons (decide_eq_false (by omega)) (okL1 ka))))))))) hv (by rfl) w
  · have he : early (xp a) false = false := by
      unfold early
      rw [decide_eq_false (by omega), decide_eq_false (by omega)]
      rfl
    obtain ⟨eQ, eL⟩ := whQ_eq8 m a
    have qb := whQ_bd (m := m) (a := a) (by omega)
    have q256 : Go.Rn.whQ m a < 2 ^ 256 := Nat.lt_of_le_of_lt qb (by decide)
    have kq : decide (whQ m (sgn a) (wSg a) false (xp a) < 2 ^ 256) = true := decide_eq_true (by rw [eQ]; exact q256)
    obtain ⟨j, hj⟩ : ∃ j : Nat, (j : Int) = 1074 := ⟨1074, rfl⟩
    obtain ⟨f0, _⟩ := int_num hj qb 0 (sgn a)
    have eP : whP m a = rnP 0 (sgn a) (Go.Rn.whQ m a) 0 := by unfold whP; rw [if_neg h0]
    have hr := rd_even 0 (sgn a) q256 0
    rw [f0, ← eP, ← eQ] at hr
    have hr2 := hr
    unfold rdV rdT at hr2
    have hp : sS (sgn a) (rnP 0 (sgn a) (tw (ofN (whQ m (sgn a) (wSg a) false (xp a))) false) (clp 0 - 1)) = sS (sgn a) (whP m a) ∧ rnF 0 (sgn a) (tw (ofN (whQ m (sgn a) (wSg a) false (xp a))) false) (clp 0 - 1) = 0 := by
      simpa using hr2
    cases hL : Go.Rn.whL a with
    | true =>
      cases t with
      | true =>
        rw [if_pos ⟨rfl, rfl⟩]
        have hf := wo_ftt a m
        rw [hp.1, hp.2] at hf
        exact fits_calls T hf (okCons (decide_eq_true (ofN_ok _)) (okCons (eL.trans hL) (okCons kq (okCons he (okCons (decide_eq_true (wSg_ok a)) (okCons ka (okCons (decide_eq_true (by omega)) (okCons ka (okCons (beq_f (by omega)) (okCons ka (okCons (decide_eq_false (by omega)) (okL1 ka)))))))))))) hv (by rfl) w
      | false =>
        rw [if_neg (by simp)]
        have hf := wo_fft a m
        rw [hr] at hf
        exact fits_calls T hf (okCons (decide_eq_true (ofN_ok _)) (okCons (eL.trans hL) (okCons kq (okCons he (okCons (decide_eq_true (wSg_ok a)) (okCons ka (okCons (decide_eq_true (by omega)) (okCons ka (okCons (beq_f (by omega)) (okCons ka (okCons (decide_eq_false (by omega)) (okL1 ka)))))))))))) hv (by rfl) w
    | false =>
      rw [if_neg (by simp)]
      cases t with
      | true =>
        have hf := wo_ftf a m
        rw [hr] at hf
        exact fits_calls T hf (okCons (decide_eq_true (ofN_ok _)) (okCons (eL.trans hL) (okCons kq (okCons he (okCons (decide_eq_true (wSg_ok a)) (okCons ka (okCons (decide_eq_true (by omega)) (okCons ka (okCons (beq_f (by omega)) (okCons ka (okCons (decide_eq_false (by omega)) (okL1 ka)))))))))))) hv (by rfl) w
      | false =>
        have hf := wo_fff a m
        rw [hr] at hf
        exact fits_calls T hf (okCons (decide_eq_true (ofN_ok _)) (okCons (eL.trans hL) (okCons kq (okCons he (okCons (decide_eq_true (wSg_ok a)) (okCons ka (okCons (decide_eq_true (by omega)) (okCons ka (okCons (beq_f (by omega)) (okCons ka (okCons (decide_eq_false (by omega)) (okL1 ka)))))))))))) hv (by rfl) w
def gWR : Ans := gUU (fun a b => rdT (reP a b) (moF a b)) (fun _ _ => true)
def gWM : Ans := gUU (fun a b => rdT (moP a b) (moF a b)) (fun _ _ => true)
def gWO : Ans := fun vals s =>
  match vals with
  | [.int .u64 a, .int .i64 m, .bool t] => some (rdT (woP m a) (woF a t), s, [(decide (U a), true)])
  | _ => none
theorem gWO_ok : AnsOk 12 gWO := by
  intro vals s v s' lg h hl w
  unfold gWO at h
  split at h
  · cases h
    exact round_calls8 _ _ _ (of_decide_eq_true (hl _ (List.mem_singleton.2 rfl))) w
  · cases h
def conW3 : Con := alt 8 gWR (alt 10 gWM (alt 12 gWO conN))
theorem conW3_ok : ConOk conW3 := alt_ok Try.func8 rfl (gUU_ok fun a b ha hb _ w => rem_calls8 a b ha hb w) (alt_ok Try.func10 rfl (gUU_ok fun a b ha hb _ w => mod_calls8 a b ha hb w) (alt_ok Try.func12 rfl gWO_ok conN_ok))
end Go.Proofs.Ytbcpnpchioncbaa

/-
  A pattern's size and sign, in plain terms.
-/
namespace Go.Proofs.Ytbcpnpchioncbaa
open Go.KRun Go.Wd Go.Pt Go.Rn

theorem mag_eq (p : Int) : mag p = 4503599627370496 * ex p + fr p := by unfold mag ex fr; omega
theorem mag_cl (p : Int) : (3 < cl p ↔ 9218868437227405312 < mag p) ∧ (cl p = 3 ↔ mag p = 9218868437227405312) ∧ (cl p ≤ 2 ↔ mag p < 9218868437227405312) := by
  have h1 := mag_eq p
  have h2 := ex_lt p
  have h3 := fr_lt p
  rw [h1]
  unfold cl
  split
  · split <;> omega
  · split
    · split
      · omega
      · split <;> omega
    · omega
theorem mag_lt {p : Int} : 0 ≤ mag p ∧ mag p < 9223372036854775808 := by unfold mag; omega
theorem sS_mag {n : Bool} {r : Int} (h0 : 0 ≤ r) (h1 : r < 9223372036854775808) : mag (sS n r) = r ∧ sgn (sS n r) = n ∧ U (sS n r) ∧ uV (sS n r) = uV r := by
  have e : ex (sS n r) = ex r ∧ fr (sS n r) = fr r := by unfold ex fr sS; split <;> omega
  refine ⟨by unfold mag sS; split <;> omega, ?_, by unfold U sS; split <;> omega, ?_⟩
  · cases n
    · simp only [sS, Bool.false_eq_true, if_false, sgn]; exact decide_eq_false (by omega)
    · simp only [sS, if_true, sgn]; exact decide_eq_true (by omega)
  · unfold uV xp sg; rw [e.1, e.2]
theorem sS_own {p : Int} (hp : U p) : sS (sgn p) (mag p) = p := by
  unfold sS sgn mag U at *
  split <;> rename_i h <;> simp only [decide_eq_true_eq] at h <;> omega
theorem bNot_mag {p : Int} (hp : U p) : bNot p 9223372036854775808 = mag p := bNot_sign hp
theorem bXor_ng {p : Int} (hp : U p) : bXor p 9223372036854775808 = ng p := bXor_sign hp
theorem ng_sS {n : Bool} {r : Int} (h0 : 0 ≤ r) (h1 : r < 9223372036854775808) : ng (sS n r) = sS (!n) r := by
  cases n <;> simp [sS, ng] <;> omega
theorem ng_ng {p : Int} (hp : U p) : ng (ng p) = p := by unfold ng U at *; omega
theorem ng_ne {p : Int} (_hp : U p) : p ≠ ng p := by unfold ng; omega
theorem nan_mag : mag 9221120237041090560 = 9221120237041090560 := by decide
end Go.Proofs.Ytbcpnpchioncbaa
