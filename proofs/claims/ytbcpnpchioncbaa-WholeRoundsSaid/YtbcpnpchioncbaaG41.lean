/-
  whole.Rem, whole.Mod and whole.Round, as calls in every world.
-/
import Derived.Test.YtbcpnpchioncbaaG40
import Derived.Test.YtbcpnpchioncbaaG26
import Derived.Test.YtbcpnpchioncbaaG33
namespace Go.Proofs.Ytbcpnpchioncbaa
open Go.KRun Go.Wd Go.Pt Go.Rn
set_option maxRecDepth 100000

theorem wr_n1 (a b : Int) : Fits (reckon (tabOf Try.prog extY conW2 true) 300 8 [.int .u64 a, .int .u64 b] [cmp true, cmp true, cmp true]) (rdT 9221120237041090560 1) [(cl a == 5, true), lU a, (decide ((0 : Int) < ((2 : Nat) : Int)), true), (decide (cl a > 3), true), lU a] := ⟨by kernel_rfl, by kernel_rfl, by kernel_rfl, by kernel_rfl⟩
theorem wr_n2 (a b : Int) : Fits (reckon (tabOf Try.prog extY conW2 true) 300 8 [.int .u64 a, .int .u64 b] [cmp true, cmp true, cmp false, cmp true, cmp true]) (rdT 9221120237041090560 1) [(cl b == 5, true), lU b, (decide (IntKind.i64.wrap (0 + 1) < ((2 : Nat) : Int)), true), (cl a == 5, false), lU a, (decide ((0 : Int) < ((2 : Nat) : Int)), true), (decide (cl a > 3), true), lU a] := ⟨by kernel_rfl, by kernel_rfl, by kernel_rfl, by kernel_rfl⟩
theorem wr_n3 (a b : Int) : Fits (reckon (tabOf Try.prog extY conW2 true) 300 8 [.int .u64 a, .int .u64 b] [cmp true, cmp true, cmp false, cmp true, cmp false, cmp false]) (rdT 9221120237041090560 0) [(decide (IntKind.i64.wrap (IntKind.i64.wrap (0 + 1) + 1) < ((2 : Nat) : Int)), false), (cl b == 5, false), lU b, (decide (IntKind.i64.wrap (0 + 1) < ((2 : Nat) : Int)), true), (cl a == 5, false), lU a, (decide ((0 : Int) < ((2 : Nat) : Int)), true), (decide (cl a > 3), true), lU a] := ⟨by kernel_rfl, by kernel_rfl, by kernel_rfl, by kernel_rfl⟩
theorem wr_m2 (a b : Int) : Fits (reckon (tabOf Try.prog extY conW2 true) 300 8 [.int .u64 a, .int .u64 b] [cmp false, cmp true, cmp true, cmp false, cmp true, cmp true]) (rdT 9221120237041090560 1) [(cl b == 5, true), lU b, (decide (IntKind.i64.wrap (0 + 1) < ((2 : Nat) : Int)), true), (cl a == 5, false), lU a, (decide ((0 : Int) < ((2 : Nat) : Int)), true), (decide (cl b > 3), true), lU b, (decide (cl a > 3), false), lU a] := ⟨by kernel_rfl, by kernel_rfl, by kernel_rfl, by kernel_rfl⟩
theorem wr_m3 (a b : Int) : Fits (reckon (tabOf Try.prog extY conW2 true) 300 8 [.int .u64 a, .int .u64 b] [cmp false, cmp true, cmp true, cmp false, cmp true, cmp false, cmp false]) (rdT 9221120237041090560 0) [(decide (IntKind.i64.wrap (IntKind.i64.wrap (0 + 1) + 1) < ((2 : Nat) : Int)), false), (cl b == 5, false), lU b, (decide (IntKind.i64.wrap (0 + 1) < ((2 : Nat) : Int)), true), (cl a == 5, false), lU a, (decide ((0 : Int) < ((2 : Nat) : Int)), true), (decide (cl b > 3), true), lU b, (decide (cl a > 3), false), lU a] := ⟨by kernel_rfl, by kernel_rfl, by kernel_rfl, by kernel_rfl⟩
theorem wr_i (a b : Int) : Fits (reckon (tabOf Try.prog extY conW2 true) 300 8 [.int .u64 a, .int .u64 b] [cmp false, cmp false, cmp true]) (rdT 9221120237041090560 1) [(cl a == 3, true), lU a, (decide (cl b > 3), false), lU b, (decide (cl a > 3), false), lU a] := ⟨by kernel_rfl, by kernel_rfl, by kernel_rfl, by kernel_rfl⟩
theorem wr_z (a b : Int) : Fits (reckon (tabOf Try.prog extY conW2 true) 300 8 [.int .u64 a, .int .u64 b] [cmp false, cmp false, cmp false, cmp true]) (rdT 9221120237041090560 1) [(cl b == 0, true), lU b, (cl a == 3, false), lU a, (decide (cl b > 3), false), lU b, (decide (cl a > 3), false), lU a] := ⟨by kernel_rfl, by kernel_rfl, by kernel_rfl, by kernel_rfl⟩
theorem wr_e (a b : Int) : Fits (reckon (tabOf Try.prog extY conW2 true) 300 8 [.int .u64 a, .int .u64 b] [cmp false, cmp false, cmp false, cmp false, cmp true]) (rdT a 0) [(cl b == 3, true), lU b, (cl b == 0, false), lU b, (cl a == 3, false), lU a, (decide (cl b > 3), false), lU b, (decide (cl a > 3), false), lU a] := ⟨by kernel_rfl, by kernel_rfl, by kernel_rfl, by kernel_rfl⟩
theorem wm_n1 (a b : Int) : Fits (reckon (tabOf Try.prog extY conW2 true) 300 10 [.int .u64 a, .int .u64 b] [cmp true, cmp true, cmp true]) (rdT 9221120237041090560 1) [(cl a == 5, true), lU a, (decide ((0 : Int) < ((2 : Nat) : Int)), true), (decide (cl a > 3), true), lU a] := ⟨by kernel_rfl, by kernel_rfl, by kernel_rfl, by kernel_rfl⟩
theorem wm_n2 (a b : Int) : Fits (reckon (tabOf Try.prog extY conW2 true) 300 10 [.int .u64 a, .int .u64 b] [cmp true, cmp true, cmp false, cmp true, cmp true]) (rdT 9221120237041090560 1) [(cl b == 5, true), lU b, (decide (IntKind.i64.wrap (0 + 1) < ((2 : Nat) : Int)), true), (cl a == 5, false), lU a, (decide ((0 : Int) < ((2 : Nat) : Int)), true), (decide (cl a > 3), true), lU a] := ⟨by kernel_rfl, by kernel_rfl, by kernel_rfl, by kernel_rfl⟩
theorem wm_n3 (a b : Int) : Fits (reckon (tabOf Try.prog extY conW2 true) 300 10 [.int .u64 a, .int .u64 b] [cmp true, cmp true, cmp false, cmp true, cmp false, cmp false]) (rdT 9221120237041090560 0) [(decide (IntKind.i64.wrap (IntKind.i64.wrap (0 + 1) + 1) < ((2 : Nat) : Int)), false), (cl b == 5, false), lU b, (decide (IntKind.i64.wrap (0 + 1) < ((2 : Nat) : Int)), true), (cl a == 5, false), lU a, (decide ((0 : Int) < ((2 : Nat) : Int)), true), (decide (cl a > 3), true), lU a] := ⟨by kernel_rfl, by kernel_rfl, by kernel_rfl, by kernel_rfl⟩
theorem wm_m2 (a b : Int) : Fits (reckon (tabOf Try.prog extY conW2 true) 300 10 [.int .u64 a, .int .u64 b] [cmp false, cmp true, cmp true, cmp false, cmp true, cmp true]) (rdT 9221120237041090560 1) [(cl b == 5, true), lU b, (decide (IntKind.i64.wrap (0 + 1) < ((2 : Nat) : Int)), true), (cl a == 5, false), lU a, (decide ((0 : Int) < ((2 : Nat) : Int)), true), (decide (cl b > 3), true), lU b, (decide (cl a > 3), false), lU a] := ⟨by kernel_rfl, by kernel_rfl, by kernel_rfl, by kernel_rfl⟩
theorem wm_m3 (a b : Int) : Fits (reckon (tabOf Try.prog extY conW2 true) 300 10 [.int .u64 a, .int .u64 b] [cmp false, cmp true, cmp true, cmp false, cmp true, cmp false, cmp false]) (rdT 9221120237041090560 0) [(decide (IntKind.i64.wrap (IntKind.i64.wrap (0 + 1) + 1) < ((2 : Nat) : Int)), false), (cl b == 5, false), lU b, (decide (IntKind.i64.wrap (0 + 1) < ((2 : Nat) : Int)), true), (cl a == 5, false), lU a, (decide ((0 : Int) < ((2 : Nat) : Int)), true), (decide (cl b > 3), true), lU b, (decide (cl a > 3), false), lU a] := ⟨by kernel_rfl, by kernel_rfl, by kernel_rfl, by kernel_rfl⟩
theorem wm_i (a b : Int) : Fits (reckon (tabOf Try.prog extY conW2 true) 300 10 [.int .u64 a, .int .u64 b] [cmp false, cmp false, cmp true]) (rdT 9221120237041090560 1) [(cl a == 3, true), lU a, (decide (cl b > 3), false), lU b, (decide (cl a > 3), false), lU a] := ⟨by kernel_rfl, by kernel_rfl, by kernel_rfl, by kernel_rfl⟩
theorem wm_z (a b : Int) : Fits (reckon (tabOf Try.prog extY conW2 true) 300 10 [.int .u64 a, .int .u64 b] [cmp false, cmp false, cmp false, cmp true]) (rdT 9221120237041090560 1) [(cl b == 0, true), lU b, (cl a == 3, false), lU a, (decide (cl b > 3), false), lU b, (decide (cl a > 3), false), lU a] := ⟨by kernel_rfl, by kernel_rfl, by kernel_rfl, by kernel_rfl⟩
theorem wm_e (a b : Int) : Fits (reckon (tabOf Try.prog extY conW2 true) 300 10 [.int .u64 a, .int .u64 b] [cmp false, cmp false, cmp false, cmp false, cmp true]) (rdT a 0) [(cl b == 3, true), lU b, (cl b == 0, false), lU b, (cl a == 3, false), lU a, (decide (cl b > 3), false), lU b, (decide (cl a > 3), false), lU a] := ⟨by kernel_rfl, by kernel_rfl, by kernel_rfl, by kernel_rfl⟩
theorem wm_f (a b : Int) (d : Bool) : Fits (reckon (tabOf Try.prog extY conW2 true) 300 10 [.int .u64 a, .int .u64 b] [cmp false, cmp false, cmp false, cmp false, cmp false, cmp d]) (rdV 0 (sgn a) (tw (ofN (rsM a b)) false) (clp (wlE a b) - 1)) [(decide (ofN (rsM a b)).ok, true), (paO a b, d), (okPg a b, true), (decide (U a ∧ U b), true), (cl b == 3, false), lU b, (cl b == 0, false), lU b, (cl a == 3, false), lU a, (decide (cl b > 3), false), lU b, (decide (cl a > 3), false), lU a] := ⟨by kernel_rfl, by kernel_rfl, by kernel_rfl, by kernel_rfl⟩
theorem wr_f1 (a b : Int) (d : Bool) : Fits (reckon (tabOf Try.prog extY conW2 true) 300 8 [.int .u64 a, .int .u64 b] [cmp false, cmp false, cmp false, cmp false, cmp false, cmp d, num 1, cmp true]) (rdV 0 (!(sgn a)) (tw (W4.of ((ofN (paV a b)).val - (ofN (rsM a b)).val)) false) (clp (wlE a b) - 1)) [(decide (W4.of ((ofN (paV a b)).val - (ofN (rsM a b)).val)).ok, true), (decide ((ofN (paV a b)).ok ∧ (ofN (rsM a b)).ok), true), (decide ((1 : Int) > 0), true), (decide ((shlW (ofN (rsM a b)) 1).ok ∧ (ofN (paV a b)).ok), true), (decide (cmpI (shlW (ofN (rsM a b)) 1) (ofN (paV a b)) = 1), true), (decide ((ofN (rsM a b)).ok ∧ -9223372036854775808 ≤ (1 : Int) ∧ (1 : Int) ≤ 9223372036854775807), true), (paO a b, d), (okPg a b, true), (decide (U a ∧ U b), true), (cl b == 3, false), lU b, (cl b == 0, false), lU b, (cl a == 3, false), lU a, (decide (cl b > 3), false), lU b, (decide (cl a > 3), false), lU a] := ⟨by kernel_rfl, by kernel_rfl, by kernel_rfl, by kernel_rfl⟩
theorem wr_f0t (a b : Int) : Fits (reckon (tabOf Try.prog extY conW2 true) 300 8 [.int .u64 a, .int .u64 b] [cmp false, cmp false, cmp false, cmp false, cmp false, cmp true, num 0, cmp false, cmp true]) (rdV 0 (!(sgn a)) (tw (W4.of ((ofN (paV a b)).val - (ofN (rsM a b)).val)) false) (clp (wlE a b) - 1)) [(decide (W4.of ((ofN (paV a b)).val - (ofN (rsM a b)).val)).ok, true), (decide ((ofN (paV a b)).ok ∧ (ofN (rsM a b)).ok), true), ((0 : Int) == 0, true), (decide ((0 : Int) > 0), false), (decide ((shlW (ofN (rsM a b)) 1).ok ∧ (ofN (paV a b)).ok), true), (decide (cmpI (shlW (ofN (rsM a b)) 1) (ofN (paV a b)) = 0), true), (decide ((ofN (rsM a b)).ok ∧ -9223372036854775808 ≤ (1 : Int) ∧ (1 : Int) ≤ 9223372036854775807), true), (paO a b, true), (okPg a b, true), (decide (U a ∧ U b), true), (cl b == 3, false), lU b, (cl b == 0, false), lU b, (cl a == 3, false), lU a, (decide (cl b > 3), false), lU b, (decide (cl a > 3), false), lU a] := ⟨by kernel_rfl, by kernel_rfl, by kernel_rfl, by kernel_rfl⟩
theorem wr_f0f (a b : Int) : Fits (reckon (tabOf Try.prog extY conW2 true) 300 8 [.int .u64 a, .int .u64 b] [cmp false, cmp false, cmp false, cmp false, cmp false, cmp false, num 0, cmp false, cmp true]) (rdV 0 (sgn a) (tw (ofN (rsM a b)) false) (clp (wlE a b) - 1)) [(decide (ofN (rsM a b)).ok, true), ((0 : Int) == 0, true), (decide ((0 : Int) > 0), false), (decide ((shlW (ofN (rsM a b)) 1).ok ∧ (ofN (paV a b)).ok), true), (decide (cmpI (shlW (ofN (rsM a b)) 1) (ofN (paV a b)) = 0), true), (decide ((ofN (rsM a b)).ok ∧ -9223372036854775808 ≤ (1 : Int) ∧ (1 : Int) ≤ 9223372036854775807), true), (paO a b, false), (okPg a b, true), (decide (U a ∧ U b), true), (cl b == 3, false), lU b, (cl b == 0, false), lU b, (cl a == 3, false), lU a, (decide (cl b > 3), false), lU b, (decide (cl a > 3), false), lU a] := ⟨by kernel_rfl, by kernel_rfl, by kernel_rfl, by kernel_rfl⟩
theorem wr_fm (a b : Int) (d : Bool) : Fits (reckon (tabOf Try.prog extY conW2 true) 300 8 [.int .u64 a, .int .u64 b] [cmp false, cmp false, cmp false, cmp false, cmp false, cmp d, num (-1), cmp false, cmp false]) (rdV 0 (sgn a) (tw (ofN (rsM a b)) false) (clp (wlE a b) - 1)) [(decide (ofN (rsM a b)).ok, true), ((-1 : Int) == 0, false), (decide ((-1 : Int) > 0), false), (decide ((shlW (ofN (rsM a b)) 1).ok ∧ (ofN (paV a b)).ok), true), (decide (cmpI (shlW (ofN (rsM a b)) 1) (ofN (paV a b)) = -1), true), (decide ((ofN (rsM a b)).ok ∧ -9223372036854775808 ≤ (1 : Int) ∧ (1 : Int) ≤ 9223372036854775807), true), (paO a b, d), (okPg a b, true), (decide (U a ∧ U b), true), (cl b == 3, false), lU b, (cl b == 0, false), lU b, (cl a == 3, false), lU a, (decide (cl b > 3), false), lU b, (decide (cl a > 3), false), lU a] := ⟨by kernel_rfl, by kernel_rfl, by kernel_rfl, by kernel_rfl⟩
theorem wo_n1t (a m : Int) : Fits (reckon (tabOf Try.prog extY conW2 true) 300 12 [.int .u64 a, .int .i64 m, .bool true] [cmp true, cmp true, cmp true]) (rdT 9221120237041090560 1) [(cl a == 5, true), lU a, (decide ((0 : Int) < ((1 : Nat) : Int)), true), (decide (cl a > 3), true), lU a] := ⟨by kernel_rfl, by kernel_rfl, by kernel_rfl, by kernel_rfl⟩
theorem wo_n0t (a m : Int) : Fits (reckon (tabOf Try.prog extY conW2 true) 300 12 [.int .u64 a, .int .i64 m, .bool true] [cmp true, cmp true, cmp false, cmp false]) (rdT 9221120237041090560 0) [(decide (IntKind.i64.wrap (0 + 1) < ((1 : Nat) : Int)), false), (cl a == 5, false), lU a, (decide ((0 : Int) < ((1 : Nat) : Int)), true), (decide (cl a > 3), true), lU a] := ⟨by kernel_rfl, by kernel_rfl, by kernel_rfl, by kernel_rfl⟩
theorem wo_et (a m : Int) : Fits (reckon (tabOf Try.prog extY conW2 true) 300 12 [.int .u64 a, .int .i64 m, .bool true] [cmp false, cmp true]) (rdT a 0) [(cl a == 3, true), lU a, (decide (cl a > 3), false), lU a] := ⟨by kernel_rfl, by kernel_rfl, by kernel_rfl, by kernel_rfl⟩
theorem wo_wt (a m : Int) : Fits (reckon (tabOf Try.prog extY conW2 true) 300 12 [.int .u64 a, .int .i64 m, .bool true] [cmp false, cmp false, cmp true, cmp true]) (rdV 0 (sgn a) (tw (wSg a) false) (clp (xp a) - 1)) [(decide (wSg a).ok, true), (early (xp a) false, true), lU a, (decide (cl a ≤ 2), true), lU a, (cl a == 3, false), lU a, (decide (cl a > 3), false), lU a] := ⟨by kernel_rfl, by kernel_rfl, by kernel_rfl, by kernel_rfl⟩
theorem wo_ftt (a m : Int) : Fits (reckon (tabOf Try.prog extY conW2 true) 300 12 [.int .u64 a, .int .i64 m, .bool true] [cmp false, cmp false, cmp true, cmp false, cmp true, cmp true]) (rdT (sS (sgn a) (rnP 0 (sgn a) (tw (ofN (whQ m (sgn a) (wSg a) false (xp a))) false) (clp 0 - 1))) (IntKind.u8.wrap ((BitVec.ofInt 8 (rnF 0 (sgn a) (tw (ofN (whQ m (sgn a) (wSg a) false (xp a))) false) (clp 0 - 1)) ||| BitVec.ofInt 8 16).toNat : Nat))) [(decide (ofN (whQ m (sgn a) (wSg a) false (xp a))).ok, true), (whL (wSg a) false (xp a), true), (decide (whQ m (sgn a) (wSg a) false (xp a) < 2 ^ 256), true), (early (xp a) false, false), (decide (wSg a).ok, true), lU a, (decide (cl a ≤ 2), true), lU a, (cl a == 3, false), lU a, (decide (cl a > 3), false), lU a] := ⟨by kernel_rfl, by kernel_rfl, by kernel_rfl, by kernel_rfl⟩
theorem wo_ftf (a m : Int) : Fits (reckon (tabOf Try.prog extY conW2 true) 300 12 [.int .u64 a, .int .i64 m, .bool true] [cmp false, cmp false, cmp true, cmp false, cmp true, cmp false]) (rdV 0 (sgn a) (tw (ofN (whQ m (sgn a) (wSg a) false (xp a))) false) (clp 0 - 1)) [(decide (ofN (whQ m (sgn a) (wSg a) false (xp a))).ok, true), (whL (wSg a) false (xp a), false), (decide (whQ m (sgn a) (wSg a) false (xp a) < 2 ^ 256), true), (early (xp a) false, false), (decide (wSg a).ok, true), lU a, (decide (cl a ≤ 2), true), lU a, (cl a == 3, false), lU a, (decide (cl a > 3), false), lU a] := ⟨by kernel_rfl, by kernel_rfl, by kernel_rfl, by kernel_rfl⟩
theorem wo_n1f (a m : Int) : Fits (reckon (tabOf Try.prog extY conW2 true) 300 12 [.int .u64 a, .int .i64 m, .bool false] [cmp true, cmp true, cmp true]) (rdT 9221120237041090560 1) [(cl a == 5, true), lU a, (decide ((0 : Int) < ((1 : Nat) : Int)), true), (decide (cl a > 3), true), lU a] := ⟨by kernel_rfl, by kernel_rfl, by kernel_rfl, by kernel_rfl⟩
theorem wo_n0f (a m : Int) : Fits (reckon (tabOf Try.prog extY conW2 true) 300 12 [.int .u64 a, .int .i64 m, .bool false] [cmp true, cmp true, cmp false, cmp false]) (rdT 9221120237041090560 0) [(decide (IntKind.i64.wrap (0 + 1) < ((1 : Nat) : Int)), false), (cl a == 5, false), lU a, (decide ((0 : Int) < ((1 : Nat) : Int)), true), (decide (cl a > 3), true), lU a] := ⟨by kernel_rfl, by kernel_rfl, by kernel_rfl, by kernel_rfl⟩
theorem wo_ef (a m : Int) : Fits (reckon (tabOf Try.prog extY conW2 true) 300 12 [.int .u64 a, .int .i64 m, .bool false] [cmp false, cmp true]) (rdT a 0) [(cl a == 3, true), lU a, (decide (cl a > 3), false), lU a] := ⟨by kernel_rfl, by kernel_rfl, by kernel_rfl, by kernel_rfl⟩
theorem wo_wf (a m : Int) : Fits (reckon (tabOf Try.prog extY conW2 true) 300 12 [.int .u64 a, .int .i64 m, .bool false] [cmp false, cmp false, cmp true, cmp true]) (rdV 0 (sgn a) (tw (wSg a) false) (clp (xp a) - 1)) [(decide (wSg a).ok, true), (early (xp a) false, true), lU a, (decide (cl a ≤ 2), true), lU a, (cl a == 3, false), lU a, (decide (cl a > 3), false), lU a] := ⟨by kernel_rfl, by kernel_rfl, by kernel_rfl, by kernel_rfl⟩
theorem wo_fft (a m : Int) : Fits (reckon (tabOf Try.prog extY conW2 true) 300 12 [.int .u64 a, .int .i64 m, .bool false] [cmp false, cmp false, cmp true, cmp false, cmp true, cmp true]) (rdV 0 (sgn a) (tw (ofN (whQ m (sgn a) (wSg a) false (xp a))) false) (clp 0 - 1)) [(decide (ofN (whQ m (sgn a) (wSg a) false (xp a))).ok, true), (whL (wSg a) false (xp a), true), (decide (whQ m (sgn a) (wSg a) false (xp a) < 2 ^ 256), true), (early (xp a) false, false), (decide (wSg a).ok, true), lU a, (decide (cl a ≤ 2), true), lU a, (cl a == 3, false), lU a, (decide (cl a > 3), false), lU a] := ⟨by kernel_rfl, by kernel_rfl, by kernel_rfl, by kernel_rfl⟩
theorem wo_fff (a m : Int) : Fits (reckon (tabOf Try.prog extY conW2 true) 300 12 [.int .u64 a, .int .i64 m, .bool false] [cmp false, cmp false, cmp true, cmp false, cmp true, cmp false]) (rdV 0 (sgn a) (tw (ofN (whQ m (sgn a) (wSg a) false (xp a))) false) (clp 0 - 1)) [(decide (ofN (whQ m (sgn a) (wSg a) false (xp a))).ok, true), (whL (wSg a) false (xp a), false), (decide (whQ m (sgn a) (wSg a) false (xp a) < 2 ^ 256), true), (early (xp a) false, false), (decide (wSg a).ok, true), lU a, (decide (cl a ≤ 2), true), lU a, (cl a == 3, false), lU a, (decide (cl a > 3), false), lU a] := ⟨by kernel_rfl, by kernel_rfl, by kernel_rfl, by kernel_rfl⟩
theorem rd_even (m : Int) (n : Bool) {X : Nat} (hX : X < 2 ^ 256) (E : Int) : rdV m n (tw (ofN X) false) (clp E - 1) = rdT (sS n (rnP m n X E)) (rnF m n X E) := by
  obtain ⟨c1, c2⟩ := clp_round m n (ofN_ok X) false E
  have e := tw_of hX false
  have e1 : 2 * X + bN false = X * 2 ^ 1 := by simp only [bN]; omega
  unfold rdV
  rw [c1, c2, e, e1]
  have p := rnP_scale m n X 1 E
  have f := rnF_scale m n X 1 E
  rw [show E - ((1 : Nat) : Int) = E - 1 by omega] at p f
  rw [p, f]
theorem ofN_val {X : Nat} (h : X < 2 ^ 256) : (ofN X).val = (X : Int) := by
  have h2 : (2 : Nat) ^ 256 = 115792089237316195423570985008687907853269984665640564039457584007913129639936 := rfl
  unfold ofN
  rw [W4.val_of, Int.emod_eq_of_lt (by omega) (by omega)]
/-- what Mod answers; what Rem answers; the flags of both -/
def moP (a b : Int) : Int := if 3 < cl a ∨ 3 < cl b then 9221120237041090560 else if cl a = 3 ∨ cl b = 0 then 9221120237041090560 else if cl b = 3 then a else sS (sgn a) (mdP a b)
def reP (a b : Int) : Int := if 3 < cl a ∨ 3 < cl b then 9221120237041090560 else if cl a = 3 ∨ cl b = 0 then 9221120237041090560 else if cl b = 3 then a else sS (sgn a != rsB a b) (rmP a b)
def moF (a b : Int) : Int := if 3 < cl a ∨ 3 < cl b then (if cl a = 5 ∨ cl b = 5 then 1 else 0) else if cl a = 3 ∨ cl b = 0 then 1 else 0
theorem rs_small {a b : Int} (hb : sg b ≠ 0) : rsM a b < 2 ^ 256 ∧ paV a b < 2 ^ 256 ∧ rsM a b < paV a b := by
  obtain ⟨_, h2, _, _⟩ := rs_bd (a := a) hb
  have pv := paV_bd a b
  have := (pa_num (a := a) hb).1
  refine ⟨Nat.lt_trans h2 (by decide), Nat.lt_trans pv.1 (by decide), ?_⟩
  rw [← this]
  exact Nat.mod_lt _ (pv.2 hb)
theorem mod_calls8 (a b : Int) (ha : U a) (hb : U b) (w : World) : Calls Try.prog 10 #[.int .u64 a, .int .u64 b] w fun r w' => r = .returned (rdT (moP a b) (moF a b)) ∧ Tidy w w' := by
  have hv : ([.int .u64 a, .int .u64 b].all (lt 0)) = true := rfl
  have T := tabY_ok conW2_ok
  have ka : decide (U a) = true := decide_eq_true ha
  have kb : decide (U b) = true := decide_eq_true hb
  have kab : decide (U a ∧ U b) = true := decide_eq_true ⟨ha, hb⟩
  have ba := cl_bd a
  have bb := cl_bd b
  unfold moP moF
  by_cases ha3 : 3 < cl a
  · rw [if_pos (.inl ha3), if_pos (.inl ha3)]
    by_cases a5 : cl a = 5
    · rw [if_pos (.inl a5)]
      exact fits_calls T (wm_n1 a b) (okCons (beq_t (by omega)) (okCons ka (okCons (by decide) (okCons (decide_eq_true (by omega)) (okL1 ka))))) hv (by rfl) w
    · by_cases b5 : cl b = 5
      · rw [if_pos (.inr b5)]
        exact fits_calls T (wm_n2 a b) (okCons (beq_t (by omega)) (okCons kb (okCons (by decide) (okCons (beq_f (by omega)) (okCons ka (okCons (by decide) (okCons (decide_eq_true (by omega)) (okL1 ka)))))))) hv (by rfl) w
      · rw [if_neg (by omega)]
        exact fits_calls T (wm_n3 a b) (okCons (by decide) (okCons (beq_f (by omega)) (okCons kb (okCons (by decide) (okCons (beq_f (by omega)) (okCons ka (okCons (by decide) (okCons (decide_eq_true (by omega)) (okL1 ka))))))))) hv (by rfl) w
  by_cases hb3 : 3 < cl b
  · rw [if_pos (.inr hb3), if_pos (.inr hb3)]
    by_cases b5 : cl b = 5
    · rw [if_pos (.inr b5)]
      exact fits_calls T (wm_m2 a b) (okCons (beq_t (by omega)) (okCons kb (okCons (by decide) (okCons (beq_f (by omega)) (okCons ka (okCons (by decide) (okCons (decide_eq_true (by omega)) (okCons kb (okCons (decide_eq_false (by omega)) (okL1 ka)))))))))) hv (by rfl) w
    · rw [if_neg (by omega)]
      exact fits_calls T (wm_m3 a b) (okCons (by decide) (okCons (beq_f (by omega)) (okCons kb (okCons (by decide) (okCons (beq_f (by omega)) (okCons ka (okCons (by decide) (okCons (decide_eq_true (by omega)) (okCons kb (okCons (decide_eq_false (by omega)) (okL1 ka))))))))))) hv (by rfl) w
  have hno : ¬ (3 < cl a ∨ 3 < cl b) := by omega
  rw [if_neg hno, if_neg hno]
  by_cases a3 : cl a = 3
  · rw [if_pos (.inl a3), if_pos (.inl a3)]
    exact fits_calls T (wm_i a b) (okCons (beq_t (by omega)) (okCons ka (okCons (decide_eq_false (by omega)) (okCons kb (okCons (decide_eq_false (by omega)) (okL1 ka)))))) hv (by rfl) w
  by_cases bz : cl b = 0
  · rw [if_pos (.inr bz), if_pos (.inr bz)]
    exact fits_calls T (wm_z a b) (okCons (beq_t (by omega)) (okCons kb (okCons (beq_f (by omega)) (okCons ka (okCons (decide_eq_false (by omega)) (okCons kb (okCons (decide_eq_false (by omega)) (okL1 ka)))))))) hv (by rfl) w
  have hn2 : ¬ (cl a = 3 ∨ cl b = 0) := by omega
  rw [if_neg hn2, if_neg hn2]
  by_cases b3 : cl b = 3
  · rw [if_pos b3]
    exact fits_calls T (wm_e a b) (okCons (beq_t (by omega)) (okCons kb (okCons (beq_f (by omega)) (okCons kb (okCons (beq_f (by omega)) (okCons ka (okCons (decide_eq_false (by omega)) (okCons kb (okCons (decide_eq_false (by omega)) (okL1 ka)))))))))) hv (by rfl) w
  rw [if_neg b3]
  have nz : sg b ≠ 0 := fun h0 => bz ((sg_zero (p := b) (by omega)).1 h0)
  have fb := fin_ex (p := b) (by omega)
  obtain ⟨hM, hV, hMV⟩ := rs_small (a := a) nz
  obtain ⟨d, hd⟩ : ∃ d, d = paO a b := ⟨_, rfl⟩
  obtain ⟨m1, m2, _⟩ := md_num (a := a) nz fb 0 (sgn a)
  have hf := wm_f a b d
  rw [rd_even 0 (sgn a) hM, m1, m2] at hf
  exact fits_calls T hf (okCons (decide_eq_true (ofN_ok _)) (okCons hd.symm (okCons (decide_eq_true ⟨by omega, by omega, by omega⟩) (okCons kab (okCons (beq_f (by omega)) (okCons kb (okCons (beq_f (by omega)) (okCons kb (okCons (beq_f (by omega)) (okCons ka (okCons (decide_eq_false (by omega)) (okCons kb (okCons (decide_eq_false (by omega)) (okL1 ka)))))))))))))) hv (by rfl) w
theorem rem_calls8 (a b : Int) (ha : U a) (hb : U b) (w : World) : Calls Try.prog 8 #[.int .u64 a, .int .u64 b] w fun r w' => r = .returned (rdT (reP a b) (moF a b)) ∧ Tidy w w' := by
  have hv : ([.int .u64 a, .int .u64 b].all (lt 0)) = true := rfl
  have T := tabY_ok conW2_ok
  have ka : decide (U a) = true := decide_eq_true ha
  have kb : decide (U b) = true := decide_eq_true hb
  have kab : decide (U a ∧ U b) = true := decide_eq_true ⟨ha, hb⟩
  have ba := cl_bd a
  have bb := cl_bd b
  unfold reP moF
  by_cases ha3 : 3 < cl a
  · rw [if_pos (.inl ha3), if_pos (.inl ha3)]
    by_cases a5 : cl a = 5
    · rw [if_pos (.inl a5)]
      exact fits_calls T (wr_n1 a b) (okCons (beq_t (by omega)) (okCons ka (okCons (by decide) (okCons (decide_eq_true (by omega)) (okL1 ka))))) hv (by rfl) w
    · by_cases b5 : cl b = 5
      · rw [if_pos (.inr b5)]
        exact fits_calls T (wr_n2 a b) (okCons (beq_t (by omega)) (okCons kb (okCons (by decide) (okCons (beq_f (by omega)) (okCons ka (okCons (by decide) (okCons (decide_eq_true (by omega)) (okL1 ka)))))))) hv (by rfl) w
      · rw [if_neg (by omega)]
        exact fits_calls T (wr_n3 a b) (okCons (by decide) (okCons (beq_f (by omega)) (okCons kb (okCons (by decide) (okCons (beq_f (by omega)) (okCons ka (okCons (by decide) (okCons (decide_eq_true (by omega)) (okL1 ka))))))))) hv (by rfl) w
  by_cases hb3 : 3 < cl b
  · rw [if_pos (.inr hb3), if_pos (.inr hb3)]
    by_cases b5 : cl b = 5
    · rw [if_pos (.inr b5)]
      exact fits_calls T (wr_m2 a b) (okCons (beq_t (by omega)) (okCons kb (okCons (by decide) (okCons (beq_f (by omega)) (okCons ka (okCons (by decide) (okCons (decide_eq_true (by omega)) (okCons kb (okCons (decide_eq_false (by omega)) (okL1 ka)))))))))) hv (by rfl) w
    · rw [if_neg (by omega)]
      exact fits_calls T (wr_m3 a b) (okCons (by decide) (okCons (beq_f (by omega)) (okCons kb (okCons (by decide) (okCons (beq_f (by omega)) (okCons ka (okCons (by decide) (okCons (decide_eq_true (by omega)) (okCons kb (okCons (decide_eq_false (by omega)) (okL1 ka))))))))))) hv (by rfl) w
  have hno : ¬ (3 < cl a ∨ 3 < cl b) := by omega
  rw [if_neg hno, if_neg hno]
  by_cases a3 : cl a = 3
  · rw [if_pos (.inl a3), if_pos (.inl a3)]
    exact fits_calls T (wr_i a b) (okCons (beq_t (by omega)) (okCons ka (okCons (decide_eq_false (by omega)) (okCons kb (okCons (decide_eq_false (by omega)) (okL1 ka)))))) hv (by rfl) w
  by_cases bz : cl b = 0
  · rw [if_pos (.inr bz), if_pos (.inr bz)]
    exact fits_calls T (wr_z a b) (okCons (beq_t (by omega)) (okCons kb (okCons (beq_f (by omega)) (okCons ka (okCons (decide_eq_false (by omega)) (okCons kb (okCons (decide_eq_false (by omega)) (okL1 ka)))))))) hv (by rfl) w
  have hn2 : ¬ (cl a = 3 ∨ cl b = 0) := by omega
  rw [if_neg hn2, if_neg hn2]
  by_cases b3 : cl b = 3
  · rw [if_pos b3]
    exact fits_calls T (wr_e a b) (okCons (beq_t (by omega)) (okCons kb (okCons (beq_f (by omega)) (okCons kb (okCons (beq_f (by omega)) (okCons ka (okCons (decide_eq_false (by omega)) (okCons kb (okCons (decide_eq_false (by omega)) (okL1 ka)))))))))) hv (by rfl) w
  rw [if_neg b3]
  have nz : sg b ≠ 0 := fun h0 => bz ((sg_zero (p := b) (by omega)).1 h0)
  have fb := fin_ex (p := b) (by omega)
  obtain ⟨hM, hV, hMV⟩ := rs_small (a := a) nz
  obtain ⟨d, hd⟩ : ∃ d, d = paO a b := ⟨_, rfl⟩
  obtain ⟨os, vs⟩ := shl_nat (s := 1) (ofN_ok (rsM a b)) (ofN_val hM) (by omega) (by
    obtain ⟨_, h2, _, _⟩ := rs_bd (a := a) nz
    exact Nat.lt_of_le_of_lt (Nat.mul_le_mul_right (2 ^ 1) (Nat.le_of_lt h2)) (by decide))
  have os : (shlW (ofN (rsM a b)) 1).ok := os
  have vs : (shlW (ofN (rsM a b)) 1).val = ((rsM a b * 2 ^ 1 : Nat) : Int) := vs
  have vV := ofN_val hV
  obtain ⟨p1, p2, p3⟩ := pa_cmp (a := a) nz
  have flip : rsB a b = true → rdV 0 (!(sgn a)) (tw (W4.of ((ofN (paV a b)).val - (ofN (rsM a b)).val)) false) (clp (wlE a b) - 1) = rdT (sS (sgn a != rsB a b) (rmP a b)) 0 := by
    intro hB
    have hle : wlV a b ≤ 2 * rsM a b := by have := of_decide_eq_true hB; omega
    have eR : rsR a b = paV a b - rsM a b := by unfold rsR; rw [if_pos hB, p3 hle]
    have eW : W4.of ((ofN (paV a b)).val - (ofN (rsM a b)).val) = ofN (rsR a b) := by
      rw [vV, ofN_val hM, eR]
      unfold ofN
      congr 1
      omega
    obtain ⟨m1, m2, _⟩ := rm_num (a := a) nz fb 0 (!(sgn a))
    rw [eW, rd_even 0 (!(sgn a)) (by omega), m1, m2, hB]
    simp
  have keep : rsB a b = false → rdV 0 (sgn a) (tw (ofN (rsM a b)) false) (clp (wlE a b) - 1) = rdT (sS (sgn a != rsB a b) (rmP a b)) 0 := by
    intro hB
    have eR : rsR a b = rsM a b := by unfold rsR; rw [if_neg (by rw [hB]; decide)]
    obtain ⟨m1, m2, _⟩ := rm_num (a := a) nz fb 0 (sgn a)
    rw [eR] at m1 m2
    rw [rd_even 0 (sgn a) hM, m1, m2, hB]
    simp
  by_cases g1 : paV a b < 2 * rsM a b
  · have hc : cmpI (shlW (ofN (rsM a b)) 1) (ofN (paV a b)) = 1 := by unfold cmpI; rw [vs, vV, if_neg (by omega), if_neg (by omega)]
    have hf := wr_f1 a b d
    rw [flip (decide_eq_true (.inl (p1.1 g1)))] at hf
    exact fits_calls T hf (okCons (decide_eq_true (W4.ok_of _)) (okCons (decide_eq_true ⟨ofN_ok _, ofN_ok _⟩) (okCons (by decide) (okCons (decide_eq_true ⟨os, ofN_ok _⟩) (okCons (decide_eq_true hc) (okCons (decide_eq_true ⟨ofN_ok _, by omega, by omega⟩) (okCons hd.symm (okCons (decide_eq_true ⟨by omega, by omega, by omega⟩) (okCons kab (okCons (beq_f (by omega)) (okCons kb (okCons (beq_f (by omega)) (okCons kb (okCons (beq_f (by omega)) (okCons ka (okCons (decide_eq_false (by omega)) (okCons kb (okCons (decide_eq_false (by omega)) (okL1 ka))))))))))))))))))) hv (by rfl) w
  by_cases g2 : 2 * rsM a b = paV a b
  · have hc : cmpI (shlW (ofN (rsM a b)) 1) (ofN (paV a b)) = 0 := by unfold cmpI; rw [vs, vV, if_neg (by omega), if_pos (by omega)]
    cases d with
    | true =>
      have hd := hd.symm
      have hf := wr_f0t a b
      rw [flip (decide_eq_true (.inr ⟨p2.1 g2, of_decide_eq_true hd⟩))] at hf
      exact fits_calls T hf (okCons (decide_eq_true (W4.ok_of _)) (okCons (decide_eq_true ⟨ofN_ok _, ofN_ok _⟩) (okCons (by decide) (okCons (by decide) (okCons (decide_eq_true ⟨os, ofN_ok _⟩) (okCons (decide_eq_true hc) (okCons (decide_eq_true ⟨ofN_ok _, by omega, by omega⟩) (okCons hd (okCons (decide_eq_true ⟨by omega, by omega, by omega⟩) (okCons kab (okCons (beq_f (by omega)) (okCons kb (okCons (beq_f (by omega)) (okCons kb (okCons (beq_f (by omega)) (okCons ka (okCons (decide_eq_false (by omega)) (okCons kb (okCons (decide_eq_false (by omega)) (okL1 ka)))))))))))))))))))) hv (by rfl) w
    | false =>
      have hd := hd.symm
      have hf := wr_f0f a b
      rw [keep (decide_eq_false (fun h => by
        have h1 := of_decide_eq_false hd
        omega))] at hf
      exact fits_calls T hf (okCons (decide_eq_true (ofN_ok _)) (okCons (by decide) (okCons (by decide) (okCons (decide_eq_true ⟨os, ofN_ok _⟩) (okCons (decide_eq_true hc) (okCons (decide_eq_true ⟨ofN_ok _, by omega, by omega⟩) (okCons hd (okCons (decide_eq_true ⟨by omega, by omega, by omega⟩) (okCons kab (okCons (beq_f (by omega)) (okCons kb (okCons (beq_f (by omega)) (okCons kb (okCons (beq_f (by omega)) (okCons ka (okCons (decide_eq_false (by omega)) (okCons kb (okCons (decide_eq_false (by omega)) (okL1 ka))))))))))))))))))) hv (by rfl) w
  · have hc : cmpI (shlW (ofN (rsM a b)) 1) (ofN (paV a b)) = -1 := by unfold cmpI; rw [vs, vV, if_pos (by omega)]
    have hf := wr_fm a b d
    rw [keep (decide_eq_false (by omega))] at hf
    exact fits_calls T hf (okCons (decide_eq_true (ofN_ok _)) (okCons (by decide) (okCons (by decide) (okCons (decide_eq_true ⟨os, ofN_ok _⟩) (okCons (decide_eq_true hc) (okCons (decide_eq_true ⟨ofN_ok _, by omega, by omega⟩) (okCons hd.symm (okCons (decide_eq_true ⟨by omega, by omega, by omega⟩) (okCons kab (okCons (beq_f (by omega)) (okCons kb (okCons (beq_f (by omega)) (okCons kb (okCons (beq_f (by omega)) (okCons ka (okCons (decide_eq_false (by omega)) (okCons kb (okCons (decide_eq_false (by omega)) (okL1 ka))))))))))))))))))) hv (by rfl) w
/-- what Round answers -/
def woP (m a : Int) : Int := if 3 < cl a then 9221120237041090560 else if cl a = 3 then a else sS (sgn a) (whP m a)
def woF (a : Int) (t : Bool) : Int := if 3 < cl a then (if cl a = 5 then 1 else 0) else if cl a = 3 then 0 else if t = true ∧ Go.Rn.whL a = true then 16 else 0
theorem whQ_eq8 (m a : Int) : whQ m (sgn a) (wSg a) false (xp a) = Go.Rn.whQ m a ∧ whL (wSg a) false (xp a) = Go.Rn.whL a := by
  have xa := xp_bd a
  have sa := sg_lt a
  have ec : clp (xp a) = xp a := by unfold clp; split <;> split <;> omega
  have et : tw (wSg a) false = (sg a).toNat * 2 ^ 1 := by
    unfold tw
    rw [wSg_nat]
    simp only
    omega
  have q := toQ_scale m (sgn a) (sg a).toNat 1 (xp a) 0
  have l := toL_scale (sg a).toNat 1 (xp a) 0
  rw [show xp a - ((1 : Nat) : Int) = xp a - 1 by omega] at q l
  unfold whQ whL Go.Rn.whQ Go.Rn.whL
  rw [ec, et, q, l]
  exact ⟨rfl, rfl⟩
theorem round_calls8 (a m : Int) (t : Bool) (ha : U a) (w : World) : Calls Try.prog 12 #[.int .u64 a, .int .i64 m, .bool t] w fun r w' => r = .returned (rdT (woP m a) (woF a t)) ∧ Tidy w w' := by
  have T := tabY_ok conW2_ok
  have ka : decide (U a) = true := decide_eq_true ha
  have ba := cl_bd a
  have xa := xp_bd a
  have hv : ([.int .u64 a, .int .i64 m, .bool t].all (lt 0)) = true := rfl
  unfold woP woF
  by_cases ha3 : 3 < cl a
  · rw [if_pos ha3, if_pos ha3]
    by_cases a5 : cl a = 5
    · rw [if_pos a5]
      cases t with
      | true => exact fits_calls T (wo_n1t a m) (okCons (beq_t (by omega)) (okCons ka (okCons (by decide) (okCons (decide_eq_true (by omega)) (okL1 ka))))) hv (by rfl) w
      | false => exact fits_calls T (wo_n1f a m) (okCons (beq_t (by omega)) (okCons ka (okCons (by decide) (okCons (decide_eq_true (by omega)) (okL1 ka))))) hv (by rfl) w
    · rw [if_neg a5]
      cases t with
      | true => exact fits_calls T (wo_n0t a m) (okCons (by decide) (okCons (beq_f (by omega)) (okCons ka (okCons (by decide) (okCons (decide_eq_true (by omega)) (okL1 ka)))))) hv (by rfl) w
      | false => exact fits_calls T (wo_n0f a m) (okCons (by decide) (okCons (beq_f (by omega)) (okCons ka (okCons (by decide) (okCons (decide_eq_true (by omega)) (okL1 ka)))))) hv (by rfl) w
  rw [if_neg ha3, if_neg ha3]
  by_cases a3 : cl a = 3
  · rw [if_pos a3, if_pos a3]
    cases t with
    | true => exact fits_calls T (wo_et a m) (okCons (beq_t (by omega)) (okCons ka (okCons (decide_eq_false (by omega)) (okL1 ka)))) hv (by rfl) w
    | false => exact fits_calls T (wo_ef a m) (okCons (beq_t (by omega)) (okCons ka (okCons (decide_eq_false (by omega)) (okL1 ka)))) hv (by rfl) w
  rw [if_neg a3, if_neg a3]
  have fa := fin_ex (p := a) (by omega)
  by_cases h0 : 0 ≤ xp a
  · have he : early (xp a) false = true := by
      unfold early
      rcases Int.lt_or_eq_of_le h0 with h | h
      · rw [decide_eq_true h]; rfl
      · rw [← h]; rfl
    have eP : whP m a = mag a := by unfold whP; rw [if_pos h0]
    have eL : Go.Rn.whL a = false := by unfold Go.Rn.whL toL; rw [if_pos h0]
    rw [eP, if_neg (by rw [eL]; simp)]
    obtain ⟨o1, o2⟩ := own_pat (m := 0) (neg := sgn a) fa
    have sa := sg_lt a
    have ew : wSg a = ofN (sg a).toNat := of_nat _ (wSg_ok a) (by rw [wSg_val]; omega)
    have hr : rdV 0 (sgn a) (tw (wSg a) false) (clp (xp a) - 1) = rdT (sS (sgn a) (mag a)) 0 := by
      rw [ew, rd_even 0 (sgn a) (Nat.lt_of_lt_of_le (show (sg a).toNat < 9007199254740992 by omega) (by decide)), o1, o2]
    cases t with
    | true =>
      have hf := wo_wt a m
      rw [hr] at hf
      exact fits_calls T hf (okCons (decide_eq_true (wSg_ok a)) (okCons he (okCons ka (okCons (decide_eq_true (by omega)) (okCons ka (okCons (beq_f (by omega)) (okCons ka (okCons (decide_eq_false (by omega)) (okL1 ka))))))))) hv (by rfl) w
    | false =>
      have hf := wo_wf a m
      rw [hr] at hf
      exact fits_calls T hf (okCons (decide_eq_true (wSg_ok a)) (okCons he (okCons ka (okCons (decide_eq_true (by omega)) (okCons ka (okCons (beq_f (by omega)) (okCons ka (okCons (decide_eq_false (by omega)) (okL1 ka))))))))) hv (by rfl) w
  · have he : early (xp a) false = false := by
      unfold early
      rw [decide_eq_false (by omega), decide_eq_false (by omega)]
      rfl
    obtain ⟨eQ, eL⟩ := whQ_eq8 m a
    have qb := whQ_bd (m := m) (a := a) (by omega)
    have q256 : Go.Rn.whQ m a < 2 ^ 256 := Nat.lt_of_le_of_lt qb (by decide)
    have kq : decide (whQ m (sgn a) (wSg a) false (xp a) < 2 ^ 256) = true := decide_eq_true (by rw [eQ]; exact q256)
    obtain ⟨j, hj⟩ : ∃ j : Nat, (j : Int) = 1074 := ⟨1074, rfl⟩
    obtain ⟨f0, _⟩ := int_num hj qb 0 (sgn a)
    have eP : whP m a = rnP 0 (sgn a) (Go.Rn.whQ m a) 0 := by unfold whP; rw [if_neg h0]
    have hr := rd_even 0 (sgn a) q256 0
    rw [f0, ← eP, ← eQ] at hr
    have hr2 := hr
    unfold rdV rdT at hr2
    have hp : sS (sgn a) (rnP 0 (sgn a) (tw (ofN (whQ m (sgn a) (wSg a) false (xp a))) false) (clp 0 - 1)) = sS (sgn a) (whP m a) ∧ rnF 0 (sgn a) (tw (ofN (whQ m (sgn a) (wSg a) false (xp a))) false) (clp 0 - 1) = 0 := by
      simpa using hr2
    cases hL : Go.Rn.whL a with
    | true =>
      cases t with
      | true =>
        rw [if_pos ⟨rfl, rfl⟩]
        have hf := wo_ftt a m
        rw [hp.1, hp.2] at hf
        exact fits_calls T hf (okCons (decide_eq_true (ofN_ok _)) (okCons (eL.trans hL) (okCons kq (okCons he (okCons (decide_eq_true (wSg_ok a)) (okCons ka (okCons (decide_eq_true (by omega)) (okCons ka (okCons (beq_f (by omega)) (okCons ka (okCons (decide_eq_false (by omega)) (okL1 ka)))))))))))) hv (by rfl) w
      | false =>
        rw [if_neg (by simp)]
        have hf := wo_fft a m
        rw [hr] at hf
        exact fits_calls T hf (okCons (decide_eq_true (ofN_ok _)) (okCons (eL.trans hL) (okCons kq (okCons he (okCons (decide_eq_true (wSg_ok a)) (okCons ka (okCons (decide_eq_true (by omega)) (okCons ka (okCons (beq_f (by omega)) (okCons ka (okCons (decide_eq_false (by omega)) (okL1 ka)))))))))))) hv (by rfl) w
    | false =>
      rw [if_neg (by simp)]
      cases t with
      | true =>
        have hf := wo_ftf a m
        rw [hr] at hf
        exact fits_calls T hf (okCons (decide_eq_true (ofN_ok _)) (okCons (eL.trans hL) (okCons kq (okCons he (okCons (decide_eq_true (wSg_ok a)) (okCons ka (okCons (decide_eq_true (by omega)) (okCons ka (okCons (beq_f (by omega)) (okCons ka (okCons (decide_eq_false (by omega)) (okL1 ka)))))))))))) hv (by rfl) w
      | false =>
        have hf := wo_fff a m
        rw [hr] at hf
        exact fits_calls T hf (okCons (decide_eq_true (ofN_ok _)) (okCons (eL.trans hL) (okCons kq (okCons he (okCons (decide_eq_true (wSg_ok a)) (okCons ka (okCons (decide_eq_true (by omega)) (okCons ka (okCons (beq_f (by omega)) (okCons ka (okCons (decide_eq_false (by omega)) (okL1 ka)))))))))))) hv (by rfl) w
def gWR : Ans := gUU (fun a b => rdT (reP a b) (moF a b)) (fun _ _ => true)
def gWM : Ans := gUU (fun a b => rdT (moP a b) (moF a b)) (fun _ _ => true)
def gWO : Ans := fun vals s =>
  match vals with
  | [.int .u64 a, .int .i64 m, .bool t] => some (rdT (woP m a) (woF a t), s, [(decide (U a), true)])
  | _ => none
theorem gWO_ok : AnsOk 12 gWO := by
  intro vals s v s' lg h hl w
  unfold gWO at h
  split at h
  · cases h
    exact round_calls8 _ _ _ (of_decide_eq_true (hl _ (List.mem_singleton.2 rfl))) w
  · cases h
def conW3 : Con := alt 8 gWR (alt 10 gWM (alt 12 gWO conN))
theorem conW3_ok : ConOk conW3 := alt_ok Try.func8 rfl (gUU_ok fun a b ha hb _ w => rem_calls8 a b ha hb w) (alt_ok Try.func10 rfl (gUU_ok fun a b ha hb _ w => mod_calls8 a b ha hb w) (alt_ok Try.func12 rfl gWO_ok conN_ok))
end Go.Proofs.Ytbcpnpchioncbaa

/-
  A pattern's size and sign, in plain terms.
-/
namespace Go.Proofs.Ytbcpnpchioncbaa
open Go.KRun Go.Wd Go.Pt Go.Rn

theorem mag_eq (p : Int) : mag p = 4503599627370496 * ex p + fr p := by unfold mag ex fr; omega
theorem mag_cl (p : Int) : (3 < cl p ↔ 9218868437227405312 < mag p) ∧ (cl p = 3 ↔ mag p = 9218868437227405312) ∧ (cl p ≤ 2 ↔ mag p < 9218868437227405312) := by
  have h1 := mag_eq p
  have h2 := ex_lt p
  have h3 := fr_lt p
  rw [h1]
  unfold cl
  split
  · split <;> omega
  · split
    · split
      · omega
      · split <;> omega
    · omega
theorem mag_cl0 {p : Int} (h : cl p = 0) : mag p = 0 := by
  have e := mag_eq p
  unfold cl at h
  split at h
  · rename_i h3
    split at h
    · rename_i h4; omega
    · omega
  · split at h
    · split at h
      · omega
      · split at h <;> omega
    · omega
theorem mag_lt {p : Int} : 0 ≤ mag p ∧ mag p < 9223372036854775808 := by unfold mag; omega
theorem sS_mag {n : Bool} {r : Int} (h0 : 0 ≤ r) (h1 : r < 9223372036854775808) : mag (sS n r) = r ∧ sgn (sS n r) = n ∧ U (sS n r) ∧ uV (sS n r) = uV r := by
  have e : ex (sS n r) = ex r ∧ fr (sS n r) = fr r := by unfold ex fr sS; split <;> omega
  refine ⟨by unfold mag sS; split <;> omega, ?_, by unfold U sS; split <;> omega, ?_⟩
  · cases n
    · simp only [sS, Bool.false_eq_true, if_false, sgn]; exact decide_eq_false (by omega)
    · simp only [sS, if_true, sgn]; exact decide_eq_true (by omega)
  · unfold uV xp sg; rw [e.1, e.2]
theorem sS_own {p : Int} (hp : U p) : sS (sgn p) (mag p) = p := by
  unfold sS sgn mag U at *
  split <;> rename_i h <;> simp only [decide_eq_true_eq] at h <;> omega
theorem bNot_mag {p : Int} (hp : U p) : bNot p 9223372036854775808 = mag p := bNot_sign hp
theorem bXor_ng {p : Int} (hp : U p) : bXor p 9223372036854775808 = ng p := bXor_sign hp
theorem ng_sS {n : Bool} {r : Int} (h0 : 0 ≤ r) (h1 : r < 9223372036854775808) : ng (sS n r) = sS (!n) r := by
  cases n <;> simp [sS, ng] <;> omega
theorem ng_ng {p : Int} (hp : U p) : ng (ng p) = p := by unfold ng U at *; omega
theorem ng_ne {p : Int} (_hp : U p) : p ≠ ng p := by unfold ng; omega
theorem nan_mag : mag 9221120237041090560 = 9221120237041090560 := by decide
end Go.Proofs.Ytbcpnpchioncbaa

/-
  The document's rests (tillerref08.Rest), as a call in every world.
-/
namespace Go.Proofs.Ytbcpnpchioncbaa
open Go.KRun Go.Nt Go.Wd Go.Pt Go.Rn
set_option maxRecDepth 100000

def mnE (a b : Int) : Int := if xp b < xp a then xp b else xp a
def K3 (a b : Int) : Hp := ⟨3, [w16 (sg a).toNat, bPt b, bPt a]⟩
def K5 (a b : Int) (X : Nat) : Hp := ⟨5, [w16 (sg b).toNat, w16 X, w16 (sg a).toNat, bPt b, bPt a]⟩
def K6 (a b : Int) (X V : Nat) : Hp := ⟨6, [w16 V, w16 (sg b).toNat, w16 X, w16 (sg a).toNat, bPt b, bPt a]⟩
def K8 (a b : Int) (X V Q R : Nat) : Hp := ⟨8, [w16 R, w16 Q, w16 V, w16 (sg b).toNat, w16 X, w16 (sg a).toNat, bPt b, bPt a]⟩
def K9 (a b : Int) (X V Q R S : Nat) : Hp := ⟨9, [w16 S, w16 R, w16 Q, w16 V, w16 (sg b).toNat, w16 X, w16 (sg a).toNat, bPt b, bPt a]⟩
def KA (a b : Int) (X V Q R S D : Nat) : Hp := ⟨10, [w16 D, w16 S, w16 R, w16 Q, w16 V, w16 (sg b).toNat, w16 X, w16 (sg a).toNat, bPt b, bPt a]⟩
theorem rr_e (a b k : Int) (X V Q R S : Nat) : Fits (reckon (tabH Try.prog extY conR8 hcT8) 300 9 [.int .u64 a, .int .u64 b, .bool false] [cmp false, cmp false, cmp false, cmp false, cmp false, cmp false, cmp true, num X, cmp true, num V, num Q, num R, cmp true, num S, num k, num R]) (.tuple #[.int .u64 (sS (sgn a) (rnP 0 (sgn a) R (mnE a b))), .int .i64 0]) [(decide (vO (K9 a b X V Q R S) (aP16 7) (d16 R).length = R), true), (okRo (K9 a b X V Q R S) (aP16 7) (d16 R).length (d16 R).length (mnE a b), true), (decide (cmpZ (vO (K9 a b X V Q R S) (aP16 8) (d16 S).length) (vO (K9 a b X V Q R S) (aP16 5) (d16 V).length) = k), true), (two16 (K9 a b X V Q R S) (aP16 8) (aP16 5) (d16 S).length (d16 S).length (d16 V).length (d16 V).length, true), (decide (vO (K8 a b X V Q R) (aP16 7) (d16 R).length * 2 ^ (1 : Int).toNat = S), true), (okSh (K8 a b X V Q R) (aP16 7) (d16 R).length (d16 R).length 1, true), (decide (0 < (d16 R).length), true), (decide (vO (K6 a b X V) (aP16 3) (d16 X).length / vO (K6 a b X V) (aP16 5) (d16 V).length = Q ∧ vO (K6 a b X V) (aP16 3) (d16 X).length % vO (K6 a b X V) (aP16 5) (d16 V).length = R), true), (okPa (K6 a b X V) (aP16 3) (aP16 5) (d16 X).length (d16 X).length (d16 V).length (d16 V).length, true), (decide (vO (K5 a b X) (aP16 4) (d16 (sg b).toNat).length * 2 ^ (IntKind.i64.wrap (xp b - mnE a b)).toNat = V), true), (okSh (K5 a b X) (aP16 4) (d16 (sg b).toNat).length (d16 (sg b).toNat).length (IntKind.i64.wrap (xp b - mnE a b)), true), (decide (0 < (d16 (sg b).toNat).length), true), (decide (0 ≤ sg b ∧ sg b < 18446744073709551616), true), (decide (vO (K3 a b) (aP16 2) (d16 (sg a).toNat).length * 2 ^ (IntKind.i64.wrap (xp a - mnE a b)).toNat = X), true), (okSh (K3 a b) (aP16 2) (d16 (sg a).toNat).length (d16 (sg a).toNat).length (IntKind.i64.wrap (xp a - mnE a b)), true), (decide (0 < (d16 (sg a).toNat).length), true), (decide (0 ≤ sg a ∧ sg a < 18446744073709551616), true), (cl a == 0, false), (cl b == 3, false), (cl b == 0, false), (cl a == 3, false), (decide (cl b > 3), false), lU b, (decide (cl a > 3), false), lU a, lU b, lU a] := ⟨by kernel_rfl, by kernel_rfl, by kernel_rfl, by kernel_rfl⟩
theorem rr_f (a b : Int) (X V Q R : Nat) : Fits (reckon (tabH Try.prog extY conR8 hcT8) 300 9 [.int .u64 a, .int .u64 b, .bool false] [cmp false, cmp false, cmp false, cmp false, cmp false, cmp false, cmp true, num X, cmp true, num V, num Q, num R, cmp false, num (-1), num R]) (.tuple #[.int .u64 (sS (sgn a) (rnP 0 (sgn a) R (mnE a b))), .int .i64 0]) [(decide (vO (K8 a b X V Q R) (aP16 7) (d16 R).length = R), true), (okRo (K8 a b X V Q R) (aP16 7) (d16 R).length (d16 R).length (mnE a b), true), (decide (cmpZ (vO (K8 a b X V Q R) none 0) (vO (K8 a b X V Q R) (aP16 5) (d16 V).length) = -1), true), (two16 (K8 a b X V Q R) none (aP16 5) 0 0 (d16 V).length (d16 V).length, true), (rowP (K8 a b X V Q R) (aP16 7) (d16 R).length (d16 R).length, true), (decide (0 < (d16 R).length), false), (decide (vO (K6 a b X V) (aP16 3) (d16 X).length / vO (K6 a b X V) (aP16 5) (d16 V).length = Q ∧ vO (K6 a b X V) (aP16 3) (d16 X).length % vO (K6 a b X V) (aP16 5) (d16 V).length = R), true), (okPa (K6 a b X V) (aP16 3) (aP16 5) (d16 X).length (d16 X).length (d16 V).length (d16 V).length, true), (decide (vO (K5 a b X) (aP16 4) (d16 (sg b).toNat).length * 2 ^ (IntKind.i64.wrap (xp b - mnE a b)).toNat = V), true), (okSh (K5 a b X) (aP16 4) (d16 (sg b).toNat).length (d16 (sg b).toNat).length (IntKind.i64.wrap (xp b - mnE a b)), true), (decide (0 < (d16 (sg b).toNat).length), true), (decide (0 ≤ sg b ∧ sg b < 18446744073709551616), true), (decide (vO (K3 a b) (aP16 2) (d16 (sg a).toNat).length * 2 ^ (IntKind.i64.wrap (xp a - mnE a b)).toNat = X), true), (okSh (K3 a b) (aP16 2) (d16 (sg a).toNat).length (d16 (sg a).toNat).length (IntKind.i64.wrap (xp a - mnE a b)), true), (decide (0 < (d16 (sg a).toNat).length), true), (decide (0 ≤ sg a ∧ sg a < 18446744073709551616), true), (cl a == 0, false), (cl b == 3, false), (cl b == 0, false), (cl a == 3, false), (decide (cl b > 3), false), lU b, (decide (cl a > 3), false), lU a, lU b, lU a] := ⟨by kernel_rfl, by kernel_rfl, by kernel_rfl, by kernel_rfl⟩
theorem rn_f (a b : Int) (X V Q R : Nat) : Fits (reckon (tabH Try.prog extY conR8 hcT8) 300 9 [.int .u64 a, .int .u64 b, .bool true] [cmp false, cmp false, cmp false, cmp false, cmp false, cmp false, cmp true, num X, cmp true, num V, num Q, num R, cmp false, num (-1), cmp false, cmp false, num R]) (.tuple #[.int .u64 (sS (sgn a) (rnP 0 (sgn a) R (mnE a b))), .int .i64 0]) [(decide (vO (K8 a b X V Q R) (aP16 7) (d16 R).length = R), true), (okRo (K8 a b X V Q R) (aP16 7) (d16 R).length (d16 R).length (mnE a b), true), ((-1 : Int) == 0, false), (decide ((-1 : Int) > 0), false), (decide (cmpZ (vO (K8 a b X V Q R) none 0) (vO (K8 a b X V Q R) (aP16 5) (d16 V).length) = -1), true), (two16 (K8 a b X V Q R) none (aP16 5) 0 0 (d16 V).length (d16 V).length, true), (rowP (K8 a b X V Q R) (aP16 7) (d16 R).length (d16 R).length, true), (decide (0 < (d16 R).length), false), (decide (vO (K6 a b X V) (aP16 3) (d16 X).length / vO (K6 a b X V) (aP16 5) (d16 V).length = Q ∧ vO (K6 a b X V) (aP16 3) (d16 X).length % vO (K6 a b X V) (aP16 5) (d16 V).length = R), true), (okPa (K6 a b X V) (aP16 3) (aP16 5) (d16 X).length (d16 X).length (d16 V).length (d16 V).length, true), (decide (vO (K5 a b X) (aP16 4) (d16 (sg b).toNat).length * 2 ^ (IntKind.i64.wrap (xp b - mnE a b)).toNat = V), true), (okSh (K5 a b X) (aP16 4) (d16 (sg b).toNat).length (d16 (sg b).toNat).length (IntKind.i64.wrap (xp b - mnE a b)), true), (decide (0 < (d16 (sg b).toNat).length), true), (decide (0 ≤ sg b ∧ sg b < 18446744073709551616), true), (decide (vO (K3 a b) (aP16 2) (d16 (sg a).toNat).length * 2 ^ (IntKind.i64.wrap (xp a - mnE a b)).toNat = X), true), (okSh (K3 a b) (aP16 2) (d16 (sg a).toNat).length (d16 (sg a).toNat).length (IntKind.i64.wrap (xp a - mnE a b)), true), (decide (0 < (d16 (sg a).toNat).length), true), (decide (0 ≤ sg a ∧ sg a < 18446744073709551616), true), (cl a == 0, false), (cl b == 3, false), (cl b == 0, false), (cl a == 3, false), (decide (cl b > 3), false), lU b, (decide (cl a > 3), false), lU a, lU b, lU a] := ⟨by kernel_rfl, by kernel_rfl, by kernel_rfl, by kernel_rfl⟩
theorem rn_e (a b : Int) (X V Q R S : Nat) : Fits (reckon (tabH Try.prog extY conR8 hcT8) 300 9 [.int .u64 a, .int .u64 b, .bool true] [cmp false, cmp false, cmp false, cmp false, cmp false, cmp false, cmp true, num X, cmp true, num V, num Q, num R, cmp true, num S, num (-1), cmp false, cmp false, num R]) (.tuple #[.int .u64 (sS (sgn a) (rnP 0 (sgn a) R (mnE a b))), .int .i64 0]) [(decide (vO (K9 a b X V Q R S) (aP16 7) (d16 R).length = R), true), (okRo (K9 a b X V Q R S) (aP16 7) (d16 R).length (d16 R).length (mnE a b), true), ((-1 : Int) == 0, false), (decide ((-1 : Int) > 0), false), (decide (cmpZ (vO (K9 a b X V Q R S) (aP16 8) (d16 S).length) (vO (K9 a b X V Q R S) (aP16 5) (d16 V).length) = -1), true), (two16 (K9 a b X V Q R S) (aP16 8) (aP16 5) (d16 S).length (d16 S).length (d16 V).length (d16 V).length, true), (decide (vO (K8 a b X V Q R) (aP16 7) (d16 R).length * 2 ^ (1 : Int).toNat = S), true), (okSh (K8 a b X V Q R) (aP16 7) (d16 R).length (d16 R).length 1, true), (decide (0 < (d16 R).length), true), (decide (vO (K6 a b X V) (aP16 3) (d16 X).length / vO (K6 a b X V) (aP16 5) (d16 V).length = Q ∧ vO (K6 a b X V) (aP16 3) (d16 X).length % vO (K6 a b X V) (aP16 5) (d16 V).length = R), true), (okPa (K6 a b X V) (aP16 3) (aP16 5) (d16 X).length (d16 X).length (d16 V).length (d16 V).length, true), (decide (vO (K5 a b X) (aP16 4) (d16 (sg b).toNat).length * 2 ^ (IntKind.i64.wrap (xp b - mnE a b)).toNat = V), true), (okSh (K5 a b X) (aP16 4) (d16 (sg b).toNat).length (d16 (sg b).toNat).length (IntKind.i64.wrap (xp b - mnE a b)), true), (decide (0 < (d16 (sg b).toNat).length), true), (decide (0 ≤ sg b ∧ sg b < 18446744073709551616), true), (decide (vO (K3 a b) (aP16 2) (d16 (sg a).toNat).length * 2 ^ (IntKind.i64.wrap (xp a - mnE a b)).toNat = X), true), (okSh (K3 a b) (aP16 2) (d16 (sg a).toNat).length (d16 (sg a).toNat).length (IntKind.i64.wrap (xp a - mnE a b)), true), (decide (0 < (d16 (sg a).toNat).length), true), (decide (0 ≤ sg a ∧ sg a < 18446744073709551616), true), (cl a == 0, false), (cl b == 3, false), (cl b == 0, false), (cl a == 3, false), (decide (cl b > 3), false), lU b, (decide (cl a > 3), false), lU a, lU b, lU a] := ⟨by kernel_rfl, by kernel_rfl, by kernel_rfl, by kernel_rfl⟩
theorem rn_a (a b : Int) (X V Q R S : Nat) (D : Nat) : Fits (reckon (tabH Try.prog extY conR8 hcT8) 300 9 [.int .u64 a, .int .u64 b, .bool true] [cmp false, cmp false, cmp false, cmp false, cmp false, cmp false, cmp true, num X, cmp true, num V, num Q, num R, cmp true, num S, num 1, cmp true, num D, num D]) (.tuple #[.int .u64 (sS (!(sgn a)) (rnP 0 (!(sgn a)) D (mnE a b))), .int .i64 0]) [(decide (vO (KA a b X V Q R S D) (aP16 9) (d16 D).length = D), true), (okRo (KA a b X V Q R S D) (aP16 9) (d16 D).length (d16 D).length (mnE a b), true), (decide (vO (K9 a b X V Q R S) (aP16 5) (d16 V).length - vO (K9 a b X V Q R S) (aP16 7) (d16 R).length = D), true), (two16 (K9 a b X V Q R S) (aP16 5) (aP16 7) (d16 V).length (d16 V).length (d16 R).length (d16 R).length && Nat.ble (vO (K9 a b X V Q R S) (aP16 7) (d16 R).length) (vO (K9 a b X V Q R S) (aP16 5) (d16 V).length), true), (decide (0 < (d16 V).length), true), (decide ((1 : Int) > 0), true), (decide (cmpZ (vO (K9 a b X V Q R S) (aP16 8) (d16 S).length) (vO (K9 a b X V Q R S) (aP16 5) (d16 V).length) = 1), true), (two16 (K9 a b X V Q R S) (aP16 8) (aP16 5) (d16 S).length (d16 S).length (d16 V).length (d16 V).length, true), (decide (vO (K8 a b X V Q R) (aP16 7) (d16 R).length * 2 ^ (1 : Int).toNat = S), true), (okSh (K8 a b X V Q R) (aP16 7) (d16 R).length (d16 R).length 1, true), (decide (0 < (d16 R).length), true), (decide (vO (K6 a b X V) (aP16 3) (d16 X).length / vO (K6 a b X V) (aP16 5) (d16 V).length = Q ∧ vO (K6 a b X V) (aP16 3) (d16 X).length % vO (K6 a b X V) (aP16 5) (d16 V).length = R), true), (okPa (K6 a b X V) (aP16 3) (aP16 5) (d16 X).length (d16 X).length (d16 V).length (d16 V).length, true), (decide (vO (K5 a b X) (aP16 4) (d16 (sg b).toNat).length * 2 ^ (IntKind.i64.wrap (xp b - mnE a b)).toNat = V), true), (okSh (K5 a b X) (aP16 4) (d16 (sg b).toNat).length (d16 (sg b).toNat).length (IntKind.i64.wrap (xp b - mnE a b)), true), (decide (0 < (d16 (sg b).toNat).length), true), (decide (0 ≤ sg b ∧ sg b < 18446744073709551616), true), (decide (vO (K3 a b) (aP16 2) (d16 (sg a).toNat).length * 2 ^ (IntKind.i64.wrap (xp a - mnE a b)).toNat = X), true), (okSh (K3 a b) (aP16 2) (d16 (sg a).toNat).length (d16 (sg a).toNat).length (IntKind.i64.wrap (xp a - mnE a b)), true), (decide (0 < (d16 (sg a).toNat).length), true), (decide (0 ≤ sg a ∧ sg a < 18446744073709551616), true), (cl a == 0, false), (cl b == 3, false), (cl b == 0, false), (cl a == 3, false), (decide (cl b > 3), false), lU b, (decide (cl a > 3), false), lU a, lU b, lU a] := ⟨by kernel_rfl, by kernel_rfl, by kernel_rfl, by kernel_rfl⟩
theorem rn_d (a b : Int) (X V Q R S : Nat) : Fits (reckon (tabH Try.prog extY conR8 hcT8) 300 9 [.int .u64 a, .int .u64 b, .bool true] [cmp false, cmp false, cmp false, cmp false, cmp false, cmp false, cmp true, num X, cmp true, num V, num Q, num R, cmp true, num S, num 0, cmp false, cmp true, cmp false, num R]) (.tuple #[.int .u64 (sS (sgn a) (rnP 0 (sgn a) R (mnE a b))), .int .i64 0]) [(decide (vO (K9 a b X V Q R S) (aP16 7) (d16 R).length = R), true), (okRo (K9 a b X V Q R S) (aP16 7) (d16 R).length (d16 R).length (mnE a b), true), (decide ((((d16 Q).length : Nat) : Int) > 0), false), ((0 : Int) == 0, true), (decide ((0 : Int) > 0), false), (decide (cmpZ (vO (K9 a b X V Q R S) (aP16 8) (d16 S).length) (vO (K9 a b X V Q R S) (aP16 5) (d16 V).length) = 0), true), (two16 (K9 a b X V Q R S) (aP16 8) (aP16 5) (d16 S).length (d16 S).length (d16 V).length (d16 V).length, true), (decide (vO (K8 a b X V Q R) (aP16 7) (d16 R).length * 2 ^ (1 : Int).toNat = S), true), (okSh (K8 a b X V Q R) (aP16 7) (d16 R).length (d16 R).length 1, true), (decide (0 < (d16 R).length), true), (decide (vO (K6 a b X V) (aP16 3) (d16 X).length / vO (K6 a b X V) (aP16 5) (d16 V).length = Q ∧ vO (K6 a b X V) (aP16 3) (d16 X).length % vO (K6 a b X V) (aP16 5) (d16 V).length = R), true), (okPa (K6 a b X V) (aP16 3) (aP16 5) (d16 X).length (d16 X).length (d16 V).length (d16 V).length, true), (decide (vO (K5 a b X) (aP16 4) (d16 (sg b).toNat).length * 2 ^ (IntKind.i64.wrap (xp b - mnE a b)).toNat = V), true), (okSh (K5 a b X) (aP16 4) (d16 (sg b).toNat).length (d16 (sg b).toNat).length (IntKind.i64.wrap (xp b - mnE a b)), true), (decide (0 < (d16 (sg b).toNat).length), true), (decide (0 ≤ sg b ∧ sg b < 18446744073709551616), true), (decide (vO (K3 a b) (aP16 2) (d16 (sg a).toNat).length * 2 ^ (IntKind.i64.wrap (xp a - mnE a b)).toNat = X), true), (okSh (K3 a b) (aP16 2) (d16 (sg a).toNat).length (d16 (sg a).toNat).length (IntKind.i64.wrap (xp a - mnE a b)), true), (decide (0 < (d16 (sg a).toNat).length), true), (decide (0 ≤ sg a ∧ sg a < 18446744073709551616), true), (cl a == 0, false), (cl b == 3, false), (cl b == 0, false), (cl a == 3, false), (decide (cl b > 3), false), lU b, (decide (cl a > 3), false), lU a, lU b, lU a] := ⟨by kernel_rfl, by kernel_rfl, by kernel_rfl, by kernel_rfl⟩
theorem rn_b (a b v : Int) (X V Q R S : Nat) (D : Nat) : Fits (reckon (tabH Try.prog extY conR8 hcT8) 300 9 [.int .u64 a, .int .u64 b, .bool true] [cmp false, cmp false, cmp false, cmp false, cmp false, cmp false, cmp true, num X, cmp true, num V, num Q, num R, cmp true, num S, num 0, cmp false, cmp true, cmp true, at_, val (.int .u32 v), cmp false, cmp true, num D, num D]) (.tuple #[.int .u64 (sS (!(sgn a)) (rnP 0 (!(sgn a)) D (mnE a b))), .int .i64 0]) [(decide (vO (KA a b X V Q R S D) (aP16 9) (d16 D).length = D), true), (okRo (KA a b X V Q R S D) (aP16 9) (d16 D).length (d16 D).length (mnE a b), true), (decide (vO (K9 a b X V Q R S) (aP16 5) (d16 V).length - vO (K9 a b X V Q R S) (aP16 7) (d16 R).length = D), true), (two16 (K9 a b X V Q R S) (aP16 5) (aP16 7) (d16 V).length (d16 V).length (d16 R).length (d16 R).length && Nat.ble (vO (K9 a b X V Q R S) (aP16 7) (d16 R).length) (vO (K9 a b X V Q R S) (aP16 5) (d16 V).length), true), (decide (0 < (d16 V).length), true), (v.tmod 2 == 1, true), (decide ((2 : Int) = 0), false), (cellIs ((wU (d16 Q))[0]?) (.int .u32 v), true), (decide ((0 : Int) ≤ 0 ∧ (0 : Int) < (((d16 Q).length : Nat) : Int)), true), (decide ((((d16 Q).length : Nat) : Int) > 0), true), ((0 : Int) == 0, true), (decide ((0 : Int) > 0), false), (decide (cmpZ (vO (K9 a b X V Q R S) (aP16 8) (d16 S).length) (vO (K9 a b X V Q R S) (aP16 5) (d16 V).length) = 0), true), (two16 (K9 a b X V Q R S) (aP16 8) (aP16 5) (d16 S).length (d16 S).length (d16 V).length (d16 V).length, true), (decide (vO (K8 a b X V Q R) (aP16 7) (d16 R).length * 2 ^ (1 : Int).toNat = S), true), (okSh (K8 a b X V Q R) (aP16 7) (d16 R).length (d16 R).length 1, true), (decide (0 < (d16 R).length), true), (decide (vO (K6 a b X V) (aP16 3) (d16 X).length / vO (K6 a b X V) (aP16 5) (d16 V).length = Q ∧ vO (K6 a b X V) (aP16 3) (d16 X).length % vO (K6 a b X V) (aP16 5) (d16 V).length = R), true), (okPa (K6 a b X V) (aP16 3) (aP16 5) (d16 X).length (d16 X).length (d16 V).length (d16 V).length, true), (decide (vO (K5 a b X) (aP16 4) (d16 (sg b).toNat).length * 2 ^ (IntKind.i64.wrap (xp b - mnE a b)).toNat = V), true), (okSh (K5 a b X) (aP16 4) (d16 (sg b).toNat).length (d16 (sg b).toNat).length (IntKind.i64.wrap (xp b - mnE a b)), true), (decide (0 < (d16 (sg b).toNat).length), true), (decide (0 ≤ sg b ∧ sg b < 18446744073709551616), true), (decide (vO (K3 a b) (aP16 2) (d16 (sg a).toNat).length * 2 ^ (IntKind.i64.wrap (xp a - mnE a b)).toNat = X), true), (okSh (K3 a b) (aP16 2) (d16 (sg a).toNat).length (d16 (sg a).toNat).length (IntKind.i64.wrap (xp a - mnE a b)), true), (decide (0 < (d16 (sg a).toNat).length), true), (decide (0 ≤ sg a ∧ sg a < 18446744073709551616), true), (cl a == 0, false), (cl b == 3, false), (cl b == 0, false), (cl a == 3, false), (decide (cl b > 3), false), lU b, (decide (cl a > 3), false), lU a, lU b, lU a] := ⟨by kernel_rfl, by kernel_rfl, by kernel_rfl, by kernel_rfl⟩
theorem rn_c (a b v : Int) (X V Q R S : Nat) : Fits (reckon (tabH Try.prog extY conR8 hcT8) 300 9 [.int .u64 a, .int .u64 b, .bool true] [cmp false, cmp false, cmp false, cmp false, cmp false, cmp false, cmp true, num X, cmp true, num V, num Q, num R, cmp true, num S, num 0, cmp false, cmp true, cmp true, at_, val (.int .u32 v), cmp false, cmp false, num R]) (.tuple #[.int .u64 (sS (sgn a) (rnP 0 (sgn a) R (mnE a b))), .int .i64 0]) [(decide (vO (K9 a b X V Q R S) (aP16 7) (d16 R).length = R), true), (okRo (K9 a b X V Q R S) (aP16 7) (d16 R).length (d16 R).length (mnE a b), true), (v.tmod 2 == 1, false), (decide ((2 : Int) = 0), false), (cellIs ((wU (d16 Q))[0]?) (.int .u32 v), true), (decide ((0 : Int) ≤ 0 ∧ (0 : Int) < (((d16 Q).length : Nat) : Int)), true), (decide ((((d16 Q).length : Nat) : Int) > 0), true), ((0 : Int) == 0, true), (decide ((0 : Int) > 0), false), (decide (cmpZ (vO (K9 a b X V Q R S) (aP16 8) (d16 S).length) (vO (K9 a b X V Q R S) (aP16 5) (d16 V).length) = 0), true), (two16 (K9 a b X V Q R S) (aP16 8) (aP16 5) (d16 S).length (d16 S).length (d16 V).length (d16 V).length, true), (decide (vO (K8 a b X V Q R) (aP16 7) (d16 R).length * 2 ^ (1 : Int).toNat = S), true), (okSh (K8 a b X V Q R) (aP16 7) (d16 R).length (d16 R).length 1, true), (decide (0 < (d16 R).length), true), (decide (vO (K6 a b X V) (aP16 3) (d16 X).length / vO (K6 a b X V) (aP16 5) (d16 V).length = Q ∧ vO (K6 a b X V) (aP16 3) (d16 X).length % vO (K6 a b X V) (aP16 5) (d16 V).length = R), true), (okPa (K6 a b X V) (aP16 3) (aP16 5) (d16 X).length (d16 X).length (d16 V).length (d16 V).length, true), (decide (vO (K5 a b X) (aP16 4) (d16 (sg b).toNat).length * 2 ^ (IntKind.i64.wrap (xp b - mnE a b)).toNat = V), true), (okSh (K5 a b X) (aP16 4) (d16 (sg b).toNat).length (d16 (sg b).toNat).length (IntKind.i64.wrap (xp b - mnE a b)), true), (decide (0 < (d16 (sg b).toNat).length), true), (decide (0 ≤ sg b ∧ sg b < 18446744073709551616), true), (decide (vO (K3 a b) (aP16 2) (d16 (sg a).toNat).length * 2 ^ (IntKind.i64.wrap (xp a - mnE a b)).toNat = X), true), (okSh (K3 a b) (aP16 2) (d16 (sg a).toNat).length (d16 (sg a).toNat).length (IntKind.i64.wrap (xp a - mnE a b)), true), (decide (0 < (d16 (sg a).toNat).length), true), (decide (0 ≤ sg a ∧ sg a < 18446744073709551616), true), (cl a == 0, false), (cl b == 3, false), (cl b == 0, false), (cl a == 3, false), (decide (cl b > 3), false), lU b, (decide (cl a > 3), false), lU a, lU b, lU a] := ⟨by kernel_rfl, by kernel_rfl, by kernel_rfl, by kernel_rfl⟩
theorem rz_n1 (a b : Int) (d : Bool) : Fits (reckon (tabH Try.prog extY conR8 hcT8) 300 9 [.int .u64 a, .int .u64 b, .bool d] [cmp true, cmp true]) (.tuple #[.int .u64 9221120237041090560, .int .i64 1]) [(cl a == 5, true), lU a, (decide (cl a > 3), true), lU a, lU b, lU a] := ⟨by kernel_rfl, by kernel_rfl, by kernel_rfl, by kernel_rfl⟩
theorem rz_n2 (a b : Int) (d : Bool) : Fits (reckon (tabH Try.prog extY conR8 hcT8) 300 9 [.int .u64 a, .int .u64 b, .bool d] [cmp true, cmp false, cmp true]) (.tuple #[.int .u64 9221120237041090560, .int .i64 1]) [(cl b == 5, true), lU b, (cl a == 5, false), lU a, (decide (cl a > 3), true), lU a, lU b, lU a] := ⟨by kernel_rfl, by kernel_rfl, by kernel_rfl, by kernel_rfl⟩
theorem rz_n3 (a b : Int) (d : Bool) : Fits (reckon (tabH Try.prog extY conR8 hcT8) 300 9 [.int .u64 a, .int .u64 b, .bool d] [cmp true, cmp false, cmp false]) (.tuple #[.int .u64 9221120237041090560, .int .i64 0]) [(cl b == 5, false), lU b, (cl a == 5, false), lU a, (decide (cl a > 3), true), lU a, lU b, lU a] := ⟨by kernel_rfl, by kernel_rfl, by kernel_rfl, by kernel_rfl⟩
theorem rz_m2 (a b : Int) (d : Bool) : Fits (reckon (tabH Try.prog extY conR8 hcT8) 300 9 [.int .u64 a, .int .u64 b, .bool d] [cmp false, cmp true, cmp false, cmp true]) (.tuple #[.int .u64 9221120237041090560, .int .i64 1]) [(cl b == 5, true), lU b, (cl a == 5, false), lU a, (decide (cl b > 3), true), lU b, (decide (cl a > 3), false), lU a, lU b, lU a] := ⟨by kernel_rfl, by kernel_rfl, by kernel_rfl, by kernel_rfl⟩
theorem rz_m3 (a b : Int) (d : Bool) : Fits (reckon (tabH Try.prog extY conR8 hcT8) 300 9 [.int .u64 a, .int .u64 b, .bool d] [cmp false, cmp true, cmp false, cmp false]) (.tuple #[.int .u64 9221120237041090560, .int .i64 0]) [(cl b == 5, false), lU b, (cl a == 5, false), lU a, (decide (cl b > 3), true), lU b, (decide (cl a > 3), false), lU a, lU b, lU a] := ⟨by kernel_rfl, by kernel_rfl, by kernel_rfl, by kernel_rfl⟩
theorem rz_i (a b : Int) (d : Bool) : Fits (reckon (tabH Try.prog extY conR8 hcT8) 300 9 [.int .u64 a, .int .u64 b, .bool d] [cmp false, cmp false, cmp true]) (.tuple #[.int .u64 9221120237041090560, .int .i64 1]) [(cl a == 3, true), (decide (cl b > 3), false), lU b, (decide (cl a > 3), false), lU a, lU b, lU a] := ⟨by kernel_rfl, by kernel_rfl, by kernel_rfl, by kernel_rfl⟩
theorem rz_z (a b : Int) (d : Bool) : Fits (reckon (tabH Try.prog extY conR8 hcT8) 300 9 [.int .u64 a, .int .u64 b, .bool d] [cmp false, cmp false, cmp false, cmp true]) (.tuple #[.int .u64 9221120237041090560, .int .i64 1]) [(cl b == 0, true), (cl a == 3, false), (decide (cl b > 3), false), lU b, (decide (cl a > 3), false), lU a, lU b, lU a] := ⟨by kernel_rfl, by kernel_rfl, by kernel_rfl, by kernel_rfl⟩
theorem rz_e (a b : Int) (d : Bool) : Fits (reckon (tabH Try.prog extY conR8 hcT8) 300 9 [.int .u64 a, .int .u64 b, .bool d] [cmp false, cmp false, cmp false, cmp false, cmp true]) (.tuple #[.int .u64 a, .int .i64 0]) [(cl b == 3, true), (cl b == 0, false), (cl a == 3, false), (decide (cl b > 3), false), lU b, (decide (cl a > 3), false), lU a, lU b, lU a] := ⟨by kernel_rfl, by kernel_rfl, by kernel_rfl, by kernel_rfl⟩
theorem rz_0 (a b : Int) (d : Bool) : Fits (reckon (tabH Try.prog extY conR8 hcT8) 300 9 [.int .u64 a, .int .u64 b, .bool d] [cmp false, cmp false, cmp false, cmp false, cmp false, cmp true]) (.tuple #[.int .u64 a, .int .i64 0]) [(cl a == 0, true), (cl b == 3, false), (cl b == 0, false), (cl a == 3, false), (decide (cl b > 3), false), lU b, (decide (cl a > 3), false), lU a, lU b, lU a] := ⟨by kernel_rfl, by kernel_rfl, by kernel_rfl, by kernel_rfl⟩

theorem mnE_eq (a b : Int) : mnE a b = wlE a b := by unfold mnE wlE; split <;> split <;> omega
section
variable {h : Hp} {b V : Nat}
theorem oTwoN (hb : h.blk? b = some (wU (d16 V), tU)) (hl : (d16 V).length < 100000) : two16 h none (some ⟨b, 0, none⟩) 0 0 (d16 V).length (d16 V).length = true := by
  unfold two16
  rw [rowP_d16 hb (by omega), dgB_d16 hb, blt_iff.2 (by omega)]
  rfl
end
theorem d16_up8 {V n j : Nat} (h : V < 2 ^ (16 * n)) : (d16 (V * 2 ^ j)).length ≤ n + j / 16 + 1 := by
  refine d16_len ?_
  have hj : 2 ^ j ≤ 2 ^ (16 * (j / 16 + 1)) := Nat.pow_le_pow_right (by omega) (by omega)
  have e : 2 ^ (16 * (n + j / 16 + 1)) = 2 ^ (16 * n) * 2 ^ (16 * (j / 16 + 1)) := by rw [← Nat.pow_add]; congr 1; omega
  rw [e]
  exact Nat.lt_of_lt_of_le (Nat.mul_lt_mul_of_pos_right h (Nat.pow_pos (by omega))) (Nat.mul_le_mul_left _ hj)
theorem d16_head {Q : Nat} (h : Q ≠ 0) : (wU (d16 Q))[0]? = some (.int .u32 ((Q % 65536 : Nat) : Int)) := by
  unfold d16
  rw [db_pos (by omega) h]
  rfl
/-- what Rest answers -/
def vRe (a b : Int) (d : Bool) : Value := .tuple #[.int .u64 (if d = true then reP a b else moP a b), .int .i64 (moF a b)]
theorem rest_zero {a b : Int} (ha : U a) (h0 : cl a = 0) (hb : cl b ≠ 0) (hb2 : cl b ≤ 2) : moP a b = a ∧ reP a b = a ∧ moF a b = 0 := by
  have s0 : sg a = 0 := (sg_zero (p := a) (by omega)).2 h0
  have nz : sg b ≠ 0 := fun h => hb ((sg_zero hb2).1 h)
  have pv := wlV_pos (a := a) nz
  have u0 : wlU a b = 0 := by unfold wlU; rw [s0]; simp
  have m0 : rsM a b = 0 := by unfold rsM; rw [u0]; simp
  have b0 : rsB a b = false := decide_eq_false (by omega)
  have r0 : rsR a b = 0 := by unfold rsR; rw [b0, m0]; rfl
  have p0' : mdP a b = 0 := by unfold mdP rnP; rw [if_pos m0]
  have p1' : rmP a b = 0 := by unfold rmP rnP; rw [if_pos r0]
  have hm : mag a = 0 := mag_cl0 h0
  have ea := sS_own ha
  rw [hm] at ea
  have h1 : ¬ (3 < cl a ∨ 3 < cl b) := by omega
  have h2 : ¬ (cl a = 3 ∨ cl b = 0) := by omega
  have h3 : ¬ cl b = 3 := by omega
  unfold moP reP moF
  rw [if_neg h1, if_neg h2, if_neg h3, if_neg h1, if_neg h2, if_neg h3, if_neg h1, if_neg h2, p0', p1', b0]
  refine ⟨ea, ?_, rfl⟩
  cases hs : sgn a <;> rw [hs] at ea <;> exact ea
/-- what is known of the numbers that come -/
def Pk (a b : Int) (X V Q R S D : Nat) : Prop := (U a ∧ U b) ∧ ((cl a = 1 ∨ cl a = 2) ∧ (cl b = 1 ∨ cl b = 2)) ∧ ((0 ≤ sg a ∧ sg a < 9007199254740992) ∧ (0 ≤ sg b ∧ sg b < 9007199254740992)) ∧ (-400000 ≤ mnE a b ∧ mnE a b ≤ 400000) ∧ ((∃ i : Nat, IntKind.i64.wrap (xp a - mnE a b) = (i : Int) ∧ i < 100000) ∧ (∃ j : Nat, IntKind.i64.wrap (xp b - mnE a b) = (j : Int) ∧ j < 100000)) ∧ (X = (sg a).toNat * 2 ^ (IntKind.i64.wrap (xp a - mnE a b)).toNat ∧ V = (sg b).toNat * 2 ^ (IntKind.i64.wrap (xp b - mnE a b)).toNat) ∧ (Q = X / V ∧ R = X % V) ∧ (S = R * 2 ^ 1 ∧ D = V - R) ∧ R ≤ V ∧ ((d16 (sg a).toNat).length ≤ 4 ∧ (d16 (sg b).toNat).length ≤ 4) ∧ ((d16 X).length ≤ 150 ∧ (d16 V).length ≤ 150) ∧ ((d16 R).length ≤ 4 ∧ (d16 S).length ≤ 5 ∧ (d16 D).length ≤ 150) ∧ (0 < (d16 (sg a).toNat).length ∧ 0 < (d16 (sg b).toNat).length) ∧ (0 < (d16 X).length ∧ 0 < (d16 V).length)
theorem rr_e8 (a b : Int) (X V Q R S D : Nat) (k : Int) (pk : Pk a b X V Q R S D) (z5 : 0 < (d16 R).length) (hc : cmpZ S V = k) (w : World) : Calls Try.prog 9 #[.int .u64 a, .int .u64 b, .bool false] w fun r w' => r = .returned (.tuple #[.int .u64 (sS (sgn a) (rnP 0 (sgn a) R (mnE a b))), .int .i64 0]) ∧ Tidy w w' := by
  obtain ⟨⟨ha, hb⟩, ⟨ca, cb⟩, ⟨sa, sb⟩, eE, ⟨⟨i, eka, hi⟩, ⟨j, ekb, hj⟩⟩, ⟨hX, hV⟩, ⟨hQ, hR⟩, ⟨hS, hD⟩, hle, ⟨l1, l2⟩, ⟨l3, l4⟩, ⟨l5, l6, l7⟩, ⟨z1, z2⟩, ⟨z3, z4⟩⟩ := pk
  have ka : decide (U a) = true := decide_eq_true ha
  have kb : decide (U b) = true := decide_eq_true hb
  exact fits_calls (tabH_ok conR8_ok hcT8_ok) (rr_e a b k X V Q R S) (okCons (decide_eq_true (vO_aP (V := R) rfl)) (okCons (oRo (V := R) rfl (by omega) eE) (okCons (decide_eq_true (by rw [vO_aP (V := S) rfl, vO_aP (V := V) rfl]; exact hc)) (okCons (oTwo (V := S) (W := V) rfl rfl (by omega) (by omega)) (okCons (decide_eq_true (by rw [vO_aP (V := R) rfl]; exact hS.symm)) (okCons (oSh (k := 1) (V := R) rfl (by omega) (by omega)) (okCons (decide_eq_true (by omega)) (okCons (decide_eq_true (by rw [vO_aP (V := X) rfl, vO_aP (V := V) rfl]; exact ⟨hQ.symm, hR.symm⟩)) (okCons (oPa (V := X) (W := V) rfl rfl (by omega) (by omega) (by omega) (by omega)) (okCons (decide_eq_true (by rw [vO_aP (V := (sg b).toNat) rfl]; exact hV.symm)) (okCons (by rw [ekb]; exact oSh (V := (sg b).toNat) rfl (by omega) (by omega)) (okCons (decide_eq_true (by omega)) (okCons (decide_eq_true ⟨by omega, by omega⟩) (okCons (decide_eq_true (by rw [vO_aP (V := (sg a).toNat) rfl]; exact hX.symm)) (okCons (by rw [eka]; exact oSh (V := (sg a).toNat) rfl (by omega) (by omega)) (okCons (decide_eq_true (by omega)) (okCons (decide_eq_true ⟨by omega, by omega⟩) (okCons (beq_f (by omega)) (okCons (beq_f (by omega)) (okCons (beq_f (by omega)) (okCons (beq_f (by omega)) (okCons (decide_eq_false (by omega)) (okCons kb (okCons (decide_eq_false (by omega)) (okCons ka (okCons kb (okL1 ka))))))))))))))))))))))))))) (by rfl) (by rfl) w
theorem rr_f8 (a b : Int) (X V Q R S D : Nat)  (pk : Pk a b X V Q R S D) (z5 : ¬ 0 < (d16 R).length) (hc : cmpZ (vO (K8 a b X V Q R) none 0) V = -1) (w : World) : Calls Try.prog 9 #[.int .u64 a, .int .u64 b, .bool false] w fun r w' => r = .returned (.tuple #[.int .u64 (sS (sgn a) (rnP 0 (sgn a) R (mnE a b))), .int .i64 0]) ∧ Tidy w w' := by
  obtain ⟨⟨ha, hb⟩, ⟨ca, cb⟩, ⟨sa, sb⟩, eE, ⟨⟨i, eka, hi⟩, ⟨j, ekb, hj⟩⟩, ⟨hX, hV⟩, ⟨hQ, hR⟩, ⟨hS, hD⟩, hle, ⟨l1, l2⟩, ⟨l3, l4⟩, ⟨l5, l6, l7⟩, ⟨z1, z2⟩, ⟨z3, z4⟩⟩ := pk
  have ka : decide (U a) = true := decide_eq_true ha
  have kb : decide (U b) = true := decide_eq_true hb
  exact fits_calls (tabH_ok conR8_ok hcT8_ok) (rr_f a b X V Q R) (okCons (decide_eq_true (vO_aP (V := R) rfl)) (okCons (oRo (V := R) rfl (by omega) eE) (okCons (decide_eq_true (by rw [vO_aP (V := V) rfl]; exact hc)) (okCons (oTwoN (V := V) rfl (by omega)) (okCons (rowP_d16 (A := R) rfl (by omega)) (okCons (decide_eq_false (by omega)) (okCons (decide_eq_true (by rw [vO_aP (V := X) rfl, vO_aP (V := V) rfl]; exact ⟨hQ.symm, hR.symm⟩)) (okCons (oPa (V := X) (W := V) rfl rfl (by omega) (by omega) (by omega) (by omega)) (okCons (decide_eq_true (by rw [vO_aP (V := (sg b).toNat) rfl]; exact hV.symm)) (okCons (by rw [ekb]; exact oSh (V := (sg b).toNat) rfl (by omega) (by omega)) (okCons (decide_eq_true (by omega)) (okCons (decide_eq_true ⟨by omega, by omega⟩) (okCons (decide_eq_true (by rw [vO_aP (V := (sg a).toNat) rfl]; exact hX.symm)) (okCons (by rw [eka]; exact oSh (V := (sg a).toNat) rfl (by omega) (by omega)) (okCons (decide_eq_true (by omega)) (okCons (decide_eq_true ⟨by omega, by omega⟩) (okCons (beq_f (by omega)) (okCons (beq_f (by omega)) (okCons (beq_f (by omega)) (okCons (beq_f (by omega)) (okCons (decide_eq_false (by omega)) (okCons kb (okCons (decide_eq_false (by omega)) (okCons ka (okCons kb (okL1 ka)))))))))))))))))))))))))) (by rfl) (by rfl) w
theorem rn_f8 (a b : Int) (X V Q R S D : Nat)  (pk : Pk a b X V Q R S D) (z5 : ¬ 0 < (d16 R).length) (hc : cmpZ (vO (K8 a b X V Q R) none 0) V = -1) (w : World) : Calls Try.prog 9 #[.int .u64 a, .int .u64 b, .bool true] w fun r w' => r = .returned (.tuple #[.int .u64 (sS (sgn a) (rnP 0 (sgn a) R (mnE a b))), .int .i64 0]) ∧ Tidy w w' := by
  obtain ⟨⟨ha, hb⟩, ⟨ca, cb⟩, ⟨sa, sb⟩, eE, ⟨⟨i, eka, hi⟩, ⟨j, ekb, hj⟩⟩, ⟨hX, hV⟩, ⟨hQ, hR⟩, ⟨hS, hD⟩, hle, ⟨l1, l2⟩, ⟨l3, l4⟩, ⟨l5, l6, l7⟩, ⟨z1, z2⟩, ⟨z3, z4⟩⟩ := pk
  have ka : decide (U a) = true := decide_eq_true ha
  have kb : decide (U b) = true := decide_eq_true hb
  exact fits_calls (tabH_ok conR8_ok hcT8_ok) (rn_f a b X V Q R) (okCons (decide_eq_true (vO_aP (V := R) rfl)) (okCons (oRo (V := R) rfl (by omega) eE) (okCons (by decide) (okCons (by decide) (okCons (decide_eq_true (by rw [vO_aP (V := V) rfl]; exact hc)) (okCons (oTwoN (V := V) rfl (by omega)) (okCons (rowP_d16 (A := R) rfl (by omega)) (okCons (decide_eq_false (by omega)) (okCons (decide_eq_true (by rw [vO_aP (V := X) rfl, vO_aP (V := V) rfl]; exact ⟨hQ.symm, hR.symm⟩)) (okCons (oPa (V := X) (W := V) rfl rfl (by omega) (by omega) (by omega) (by omega)) (okCons (decide_eq_true (by rw [vO_aP (V := (sg b).toNat) rfl]; exact hV.symm)) (okCons (by rw [ekb]; exact oSh (V := (sg b).toNat) rfl (by omega) (by omega)) (okCons (decide_eq_true (by omega)) (okCons (decide_eq_true ⟨by omega, by omega⟩) (okCons (decide_eq_true (by rw [vO_aP (V := (sg a).toNat) rfl]; exact hX.symm)) (okCons (by rw [eka]; exact oSh (V := (sg a).toNat) rfl (by omega) (by omega)) (okCons (decide_eq_true (by omega)) (okCons (decide_eq_true ⟨by omega, by omega⟩) (okCons (beq_f (by omega)) (okCons (beq_f (by omega)) (okCons (beq_f (by omega)) (okCons (beq_f (by omega)) (okCons (decide_eq_false (by omega)) (okCons kb (okCons (decide_eq_false (by omega)) (okCons ka (okCons kb (okL1 ka)))))))))))))))))))))))))))) (by rfl) (by rfl) w
theorem rn_e8 (a b : Int) (X V Q R S D : Nat)  (pk : Pk a b X V Q R S D) (z5 : 0 < (d16 R).length) (hc : cmpZ S V = -1) (w : World) : Calls Try.prog 9 #[.int .u64 a, .int .u64 b, .bool true] w fun r w' => r = .returned (.tuple #[.int .u64 (sS (sgn a) (rnP 0 (sgn a) R (mnE a b))), .int .i64 0]) ∧ Tidy w w' := by
  obtain ⟨⟨ha, hb⟩, ⟨ca, cb⟩, ⟨sa, sb⟩, eE, ⟨⟨i, eka, hi⟩, ⟨j, ekb, hj⟩⟩, ⟨hX, hV⟩, ⟨hQ, hR⟩, ⟨hS, hD⟩, hle, ⟨l1, l2⟩, ⟨l3, l4⟩, ⟨l5, l6, l7⟩, ⟨z1, z2⟩, ⟨z3, z4⟩⟩ := pk
  have ka : decide (U a) = true := decide_eq_true ha
  have kb : decide (U b) = true := decide_eq_true hb
  exact fits_calls (tabH_ok conR8_ok hcT8_ok) (rn_e a b X V Q R S) (okCons (decide_eq_true (vO_aP (V := R) rfl)) (okCons (oRo (V := R) rfl (by omega) eE) (okCons (by decide) (okCons (by decide) (okCons (decide_eq_true (by rw [vO_aP (V := S) rfl, vO_aP (V := V) rfl]; exact hc)) (okCons (oTwo (V := S) (W := V) rfl rfl (by omega) (by omega)) (okCons (decide_eq_true (by rw [vO_aP (V := R) rfl]; exact hS.symm)) (okCons (oSh (k := 1) (V := R) rfl (by omega) (by omega)) (okCons (decide_eq_true (by omega)) (okCons (decide_eq_true (by rw [vO_aP (V := X) rfl, vO_aP (V := V) rfl]; exact ⟨hQ.symm, hR.symm⟩)) (okCons (oPa (V := X) (W := V) rfl rfl (by omega) (by omega) (by omega) (by omega)) (okCons (decide_eq_true (by rw [vO_aP (V := (sg b).toNat) rfl]; exact hV.symm)) (okCons (by rw [ekb]; exact oSh (V := (sg b).toNat) rfl (by omega) (by omega)) (okCons (decide_eq_true (by omega)) (okCons (decide_eq_true ⟨by omega, by omega⟩) (okCons (decide_eq_true (by rw [vO_aP (V := (sg a).toNat) rfl]; exact hX.symm)) (okCons (by rw [eka]; exact oSh (V := (sg a).toNat) rfl (by omega) (by omega)) (okCons (decide_eq_true (by omega)) (okCons (decide_eq_true ⟨by omega, by omega⟩) (okCons (beq_f (by omega)) (okCons (beq_f (by omega)) (okCons (beq_f (by omega)) (okCons (beq_f (by omega)) (okCons (decide_eq_false (by omega)) (okCons kb (okCons (decide_eq_false (by omega)) (okCons ka (okCons kb (okL1 ka))))))))))))))))))))))))))))) (by rfl) (by rfl) w
theorem rn_a8 (a b : Int) (X V Q R S D : Nat)  (pk : Pk a b X V Q R S D) (z5 : 0 < (d16 R).length) (hc : cmpZ S V = 1) (w : World) : Calls Try.prog 9 #[.int .u64 a, .int .u64 b, .bool true] w fun r w' => r = .returned (.tuple #[.int .u64 (sS (!(sgn a)) (rnP 0 (!(sgn a)) D (mnE a b))), .int .i64 0]) ∧ Tidy w w' := by
  obtain ⟨⟨ha, hb⟩, ⟨ca, cb⟩, ⟨sa, sb⟩, eE, ⟨⟨i, eka, hi⟩, ⟨j, ekb, hj⟩⟩, ⟨hX, hV⟩, ⟨hQ, hR⟩, ⟨hS, hD⟩, hle, ⟨l1, l2⟩, ⟨l3, l4⟩, ⟨l5, l6, l7⟩, ⟨z1, z2⟩, ⟨z3, z4⟩⟩ := pk
  have ka : decide (U a) = true := decide_eq_true ha
  have kb : decide (U b) = true := decide_eq_true hb
  exact fits_calls (tabH_ok conR8_ok hcT8_ok) (rn_a a b X V Q R S D) (okCons (decide_eq_true (vO_aP (V := D) rfl)) (okCons (oRo (V := D) rfl (by omega) eE) (okCons (decide_eq_true (by rw [vO_aP (V := V) rfl, vO_aP (V := R) rfl]; exact hD.symm)) (okCons (by rw [vO_aP (V := V) rfl, vO_aP (V := R) rfl, show two16 _ (aP16 5) (aP16 7) _ _ _ _ = true from oTwo (V := V) (W := R) rfl rfl (by omega) (by omega)]; exact Nat.ble_eq_true_of_le hle) (okCons (decide_eq_true (by omega)) (okCons (by decide) (okCons (decide_eq_true (by rw [vO_aP (V := S) rfl, vO_aP (V := V) rfl]; exact hc)) (okCons (oTwo (V := S) (W := V) rfl rfl (by omega) (by omega)) (okCons (decide_eq_true (by rw [vO_aP (V := R) rfl]; exact hS.symm)) (okCons (oSh (k := 1) (V := R) rfl (by omega) (by omega)) (okCons (decide_eq_true (by omega)) (okCons (decide_eq_true (by rw [vO_aP (V := X) rfl, vO_aP (V := V) rfl]; exact ⟨hQ.symm, hR.symm⟩)) (okCons (oPa (V := X) (W := V) rfl rfl (by omega) (by omega) (by omega) (by omega)) (okCons (decide_eq_true (by rw [vO_aP (V := (sg b).toNat) rfl]; exact hV.symm)) (okCons (by rw [ekb]; exact oSh (V := (sg b).toNat) rfl (by omega) (by omega)) (okCons (decide_eq_true (by omega)) (okCons (decide_eq_true ⟨by omega, by omega⟩) (okCons (decide_eq_true (by rw [vO_aP (V := (sg a).toNat) rfl]; exact hX.symm)) (okCons (by rw [eka]; exact oSh (V := (sg a).toNat) rfl (by omega) (by omega)) (okCons (decide_eq_true (by omega)) (okCons (decide_eq_true ⟨by omega, by omega⟩) (okCons (beq_f (by omega)) (okCons (beq_f (by omega)) (okCons (beq_f (by omega)) (okCons (beq_f (by omega)) (okCons (decide_eq_false (by omega)) (okCons kb (okCons (decide_eq_false (by omega)) (okCons ka (okCons kb (okL1 ka))))))))))))))))))))))))))))))) (by rfl) (by rfl) w
theorem rn_d8 (a b : Int) (X V Q R S D : Nat)  (pk : Pk a b X V Q R S D) (z5 : 0 < (d16 R).length) (hc : cmpZ S V = 0) (z6 : ¬ 0 < (d16 Q).length) (w : World) : Calls Try.prog 9 #[.int .u64 a, .int .u64 b, .bool true] w fun r w' => r = .returned (.tuple #[.int .u64 (sS (sgn a) (rnP 0 (sgn a) R (mnE a b))), .int .i64 0]) ∧ Tidy w w' := by
  obtain ⟨⟨ha, hb⟩, ⟨ca, cb⟩, ⟨sa, sb⟩, eE, ⟨⟨i, eka, hi⟩, ⟨j, ekb, hj⟩⟩, ⟨hX, hV⟩, ⟨hQ, hR⟩, ⟨hS, hD⟩, hle, ⟨l1, l2⟩, ⟨l3, l4⟩, ⟨l5, l6, l7⟩, ⟨z1, z2⟩, ⟨z3, z4⟩⟩ := pk
  have ka : decide (U a) = true := decide_eq_true ha
  have kb : decide (U b) = true := decide_eq_true hb
  exact fits_calls (tabH_ok conR8_ok hcT8_ok) (rn_d a b X V Q R S) (okCons (decide_eq_true (vO_aP (V := R) rfl)) (okCons (oRo (V := R) rfl (by omega) eE) (okCons (decide_eq_false (by omega)) (okCons (by decide) (okCons (by decide) (okCons (decide_eq_true (by rw [vO_aP (V := S) rfl, vO_aP (V := V) rfl]; exact hc)) (okCons (oTwo (V := S) (W := V) rfl rfl (by omega) (by omega)) (okCons (decide_eq_true (by rw [vO_aP (V := R) rfl]; exact hS.symm)) (okCons (oSh (k := 1) (V := R) rfl (by omega) (by omega)) (okCons (decide_eq_true (by omega)) (okCons (decide_eq_true (by rw [vO_aP (V := X) rfl, vO_aP (V := V) rfl]; exact ⟨hQ.symm, hR.symm⟩)) (okCons (oPa (V := X) (W := V) rfl rfl (by omega) (by omega) (by omega) (by omega)) (okCons (decide_eq_true (by rw [vO_aP (V := (sg b).toNat) rfl]; exact hV.symm)) (okCons (by rw [ekb]; exact oSh (V := (sg b).toNat) rfl (by omega) (by omega)) (okCons (decide_eq_true (by omega)) (okCons (decide_eq_true ⟨by omega, by omega⟩) (okCons (decide_eq_true (by rw [vO_aP (V := (sg a).toNat) rfl]; exact hX.symm)) (okCons (by rw [eka]; exact oSh (V := (sg a).toNat) rfl (by omega) (by omega)) (okCons (decide_eq_true (by omega)) (okCons (decide_eq_true ⟨by omega, by omega⟩) (okCons (beq_f (by omega)) (okCons (beq_f (by omega)) (okCons (beq_f (by omega)) (okCons (beq_f (by omega)) (okCons (decide_eq_false (by omega)) (okCons kb (okCons (decide_eq_false (by omega)) (okCons ka (okCons kb (okL1 ka)))))))))))))))))))))))))))))) (by rfl) (by rfl) w
theorem rn_b8 (a b : Int) (X V Q R S D : Nat) (v : Int) (pk : Pk a b X V Q R S D) (z5 : 0 < (d16 R).length) (hc : cmpZ S V = 0) (z6 : 0 < (d16 Q).length) (hcel : cellIs ((wU (d16 Q))[0]?) (.int .u32 v) = true) (hv1 : v.tmod 2 = 1) (w : World) : Calls Try.prog 9 #[.int .u64 a, .int .u64 b, .bool true] w fun r w' => r = .returned (.tuple #[.int .u64 (sS (!(sgn a)) (rnP 0 (!(sgn a)) D (mnE a b))), .int .i64 0]) ∧ Tidy w w' := by
  obtain ⟨⟨ha, hb⟩, ⟨ca, cb⟩, ⟨sa, sb⟩, eE, ⟨⟨i, eka, hi⟩, ⟨j, ekb, hj⟩⟩, ⟨hX, hV⟩, ⟨hQ, hR⟩, ⟨hS, hD⟩, hle, ⟨l1, l2⟩, ⟨l3, l4⟩, ⟨l5, l6, l7⟩, ⟨z1, z2⟩, ⟨z3, z4⟩⟩ := pk
  have ka : decide (U a) = true := decide_eq_true ha
  have kb : decide (U b) = true := decide_eq_true hb
  exact fits_calls (tabH_ok conR8_ok hcT8_ok) (rn_b a b v X V Q R S D) (okCons (decide_eq_true (vO_aP (V := D) rfl)) (okCons (oRo (V := D) rfl (by omega) eE) (okCons (decide_eq_true (by rw [vO_aP (V := V) rfl, vO_aP (V := R) rfl]; exact hD.symm)) (okCons (by rw [vO_aP (V := V) rfl, vO_aP (V := R) rfl, show two16 _ (aP16 5) (aP16 7) _ _ _ _ = true from oTwo (V := V) (W := R) rfl rfl (by omega) (by omega)]; exact Nat.ble_eq_true_of_le hle) (okCons (decide_eq_true (by omega)) (okCons (beq_t hv1) (okCons (by decide) (okCons hcel (okCons (decide_eq_true ⟨by omega, by omega⟩) (okCons (decide_eq_true (by omega)) (okCons (by decide) (okCons (by decide) (okCons (decide_eq_true (by rw [vO_aP (V := S) rfl, vO_aP (V := V) rfl]; exact hc)) (okCons (oTwo (V := S) (W := V) rfl rfl (by omega) (by omega)) (okCons (decide_eq_true (by rw [vO_aP (V := R) rfl]; exact hS.symm)) (okCons (oSh (k := 1) (V := R) rfl (by omega) (by omega)) (okCons (decide_eq_true (by omega)) (okCons (decide_eq_true (by rw [vO_aP (V := X) rfl, vO_aP (V := V) rfl]; exact ⟨hQ.symm, hR.symm⟩)) (okCons (oPa (V := X) (W := V) rfl rfl (by omega) (by omega) (by omega) (by omega)) (okCons (decide_eq_true (by rw [vO_aP (V := (sg b).toNat) rfl]; exact hV.symm)) (okCons (by rw [ekb]; exact oSh (V := (sg b).toNat) rfl (by omega) (by omega)) (okCons (decide_eq_true (by omega)) (okCons (decide_eq_true ⟨by omega, by omega⟩) (okCons (decide_eq_true (by rw [vO_aP (V := (sg a).toNat) rfl]; exact hX.symm)) (okCons (by rw [eka]; exact oSh (V := (sg a).toNat) rfl (by omega) (by omega)) (okCons (decide_eq_true (by omega)) (okCons (decide_eq_true ⟨by omega, by omega⟩) (okCons (beq_f (by omega)) (okCons (beq_f (by omega)) (okCons (beq_f (by omega)) (okCons (beq_f (by omega)) (okCons (decide_eq_false (by omega)) (okCons kb (okCons (decide_eq_false (by omega)) (okCons ka (okCons kb (okL1 ka))))))))))))))))))))))))))))))))))))) (by rfl) (by rfl) w
theorem rn_c8 (a b : Int) (X V Q R S D : Nat) (v : Int) (pk : Pk a b X V Q R S D) (z5 : 0 < (d16 R).length) (hc : cmpZ S V = 0) (z6 : 0 < (d16 Q).length) (hcel : cellIs ((wU (d16 Q))[0]?) (.int .u32 v) = true) (hv1 : v.tmod 2 ≠ 1) (w : World) : Calls Try.prog 9 #[.int .u64 a, .int .u64 b, .bool true] w fun r w' => r = .returned (.tuple #[.int .u64 (sS (sgn a) (rnP 0 (sgn a) R (mnE a b))), .int .i64 0]) ∧ Tidy w w' := by
  obtain ⟨⟨ha, hb⟩, ⟨ca, cb⟩, ⟨sa, sb⟩, eE, ⟨⟨i, eka, hi⟩, ⟨j, ekb, hj⟩⟩, ⟨hX, hV⟩, ⟨hQ, hR⟩, ⟨hS, hD⟩, hle, ⟨l1, l2⟩, ⟨l3, l4⟩, ⟨l5, l6, l7⟩, ⟨z1, z2⟩, ⟨z3, z4⟩⟩ := pk
  have ka : decide (U a) = true := decide_eq_true ha
  have kb : decide (U b) = true := decide_eq_true hb
  exact fits_calls (tabH_ok conR8_ok hcT8_ok) (rn_c a b v X V Q R S) (okCons (decide_eq_true (vO_aP (V := R) rfl)) (okCons (oRo (V := R) rfl (by omega) eE) (okCons (beq_f hv1) (okCons (by decide) (okCons hcel (okCons (decide_eq_true ⟨by omega, by omega⟩) (okCons (decide_eq_true (by omega)) (okCons (by decide) (okCons (by decide) (okCons (decide_eq_true (by rw [vO_aP (V := S) rfl, vO_aP (V := V) rfl]; exact hc)) (okCons (oTwo (V := S) (W := V) rfl rfl (by omega) (by omega)) (okCons (decide_eq_true (by rw [vO_aP (V := R) rfl]; exact hS.symm)) (okCons (oSh (k := 1) (V := R) rfl (by omega) (by omega)) (okCons (decide_eq_true (by omega)) (okCons (decide_eq_true (by rw [vO_aP (V := X) rfl, vO_aP (V := V) rfl]; exact ⟨hQ.symm, hR.symm⟩)) (okCons (oPa (V := X) (W := V) rfl rfl (by omega) (by omega) (by omega) (by omega)) (okCons (decide_eq_true (by rw [vO_aP (V := (sg b).toNat) rfl]; exact hV.symm)) (okCons (by rw [ekb]; exact oSh (V := (sg b).toNat) rfl (by omega) (by omega)) (okCons (decide_eq_true (by omega)) (okCons (decide_eq_true ⟨by omega, by omega⟩) (okCons (decide_eq_true (by rw [vO_aP (V := (sg a).toNat) rfl]; exact hX.symm)) (okCons (by rw [eka]; exact oSh (V := (sg a).toNat) rfl (by omega) (by omega)) (okCons (decide_eq_true (by omega)) (okCons (decide_eq_true ⟨by omega, by omega⟩) (okCons (beq_f (by omega)) (okCons (beq_f (by omega)) (okCons (beq_f (by omega)) (okCons (beq_f (by omega)) (okCons (decide_eq_false (by omega)) (okCons kb (okCons (decide_eq_false (by omega)) (okCons ka (okCons kb (okL1 ka)))))))))))))))))))))))))))))))))) (by rfl) (by rfl) w
theorem rest_fin8 (a b : Int) (d : Bool) (ha : U a) (hb : U b) (ca : cl a = 1 ∨ cl a = 2) (cb : cl b = 1 ∨ cl b = 2) (w : World) : Calls Try.prog 9 #[.int .u64 a, .int .u64 b, .bool d] w fun r w' => r = .returned (vRe a b d) ∧ Tidy w w' := by
  have sa := sg_lt a
  have sb := sg_lt b
  have na : sg a ≠ 0 := fun h => by have := (sg_zero (p := a) (by omega)).1 h; omega
  have nb : sg b ≠ 0 := fun h => by have := (sg_zero (p := b) (by omega)).1 h; omega
  have xa := xp_bd a
  have xb := xp_bd b
  obtain ⟨h0, h1, h2, h3, _⟩ := wlE_bd a b
  have eM := mnE_eq a b
  have eE : -400000 ≤ mnE a b ∧ mnE a b ≤ 400000 := by rw [eM]; omega
  have eka : IntKind.i64.wrap (xp a - mnE a b) = (((xp a - wlE a b).toNat : Nat) : Int) := by rw [eM, wrapI' ⟨by omega, by omega⟩]; omega
  have ekb : IntKind.i64.wrap (xp b - mnE a b) = (((xp b - wlE a b).toNat : Nat) : Int) := by rw [eM, wrapI' ⟨by omega, by omega⟩]; omega
  obtain ⟨X, hX'⟩ : ∃ X, X = wlU a b := ⟨_, rfl⟩
  obtain ⟨V, hV'⟩ : ∃ V, V = wlV a b := ⟨_, rfl⟩
  have hX : X = (sg a).toNat * 2 ^ (IntKind.i64.wrap (xp a - mnE a b)).toNat := by rw [eka, hX']; rfl
  have hV : V = (sg b).toNat * 2 ^ (IntKind.i64.wrap (xp b - mnE a b)).toNat := by rw [ekb, hV']; rfl
  obtain ⟨Q, hQ⟩ : ∃ Q, Q = X / V := ⟨_, rfl⟩
  obtain ⟨R, hR⟩ : ∃ R, R = X % V := ⟨_, rfl⟩
  obtain ⟨S, hS⟩ : ∃ S, S = R * 2 ^ 1 := ⟨_, rfl⟩
  obtain ⟨D, hD⟩ : ∃ D, D = V - R := ⟨_, rfl⟩
  have eR : R = rsM a b := by rw [hR, hX', hV']; rfl
  have e64 : (2 : Nat) ^ (16 * 4) = 18446744073709551616 := rfl
  have pV : 0 < V := by rw [hV']; exact wlV_pos nb
  have pX : 0 < X := by rw [hX']; unfold wlU; exact Nat.mul_pos (by omega) (Nat.pow_pos (by omega))
  obtain ⟨rb1, rb2, _, _⟩ := rs_bd (a := a) nb
  rw [← eR] at rb1 rb2
  rw [← hV'] at rb1
  have hle : R ≤ V := by omega
  have l1 := d16_len (A := (sg a).toNat) (k := 4) (by omega)
  have l2 := d16_len (A := (sg b).toNat) (k := 4) (by omega)
  have l3 : (d16 X).length ≤ 150 := by
    have := d16_up8 (V := (sg a).toNat) (n := 4) (j := (xp a - wlE a b).toNat) (by omega)
    rw [hX']; unfold wlU; omega
  have l4 : (d16 V).length ≤ 150 := by
    have := d16_up8 (V := (sg b).toNat) (n := 4) (j := (xp b - wlE a b).toNat) (by omega)
    rw [hV']; unfold wlV; omega
  have l5 := d16_len (A := R) (k := 4) (by omega)
  have l6 := d16_len (A := S) (k := 5) (by
    have : (2 : Nat) ^ (16 * 5) = 1208925819614629174706176 := rfl
    omega)
  have l7 : (d16 D).length ≤ 150 := by
    have hv2 : V < 2 ^ (16 * 150) := by
      obtain ⟨k, hk⟩ : ∃ k, k = 16 * 150 := ⟨_, rfl⟩
      rw [← hk, hV']
      unfold wlV
      have h1 : (sg b).toNat < 2 ^ 53 := by
        have : (2 : Nat) ^ 53 = 9007199254740992 := rfl
        omega
      have h2 : 2 ^ (53 + (xp b - wlE a b).toNat) ≤ 2 ^ k := Nat.pow_le_pow_right (by omega) (by omega)
      rw [Nat.pow_add] at h2
      exact Nat.lt_of_lt_of_le (Nat.mul_lt_mul_of_pos_right h1 (Nat.pow_pos (by omega))) h2
    exact d16_len (Nat.lt_of_le_of_lt (show D ≤ V by omega) hv2)
  have z1 : 0 < (d16 (sg a).toNat).length := d16_iff.2 (by omega)
  have z2 : 0 < (d16 (sg b).toNat).length := d16_iff.2 (by omega)
  have z3 : 0 < (d16 X).length := d16_iff.2 pX
  have z4 : 0 < (d16 V).length := d16_iff.2 pV
  have z5 : 0 < (d16 R).length ↔ 0 < R := d16_iff
  have z6 : 0 < (d16 Q).length ↔ 0 < Q := d16_iff
  obtain ⟨e1, e2, e3⟩ : moP a b = sS (sgn a) (mdP a b) ∧ reP a b = sS (sgn a != rsB a b) (rmP a b) ∧ moF a b = 0 := by
    have h1 : ¬ (3 < cl a ∨ 3 < cl b) := by omega
    have h2 : ¬ (cl a = 3 ∨ cl b = 0) := by omega
    have h3 : ¬ cl b = 3 := by omega
    unfold moP reP moF
    rw [if_neg h1, if_neg h2, if_neg h3, if_neg h1, if_neg h2, if_neg h3, if_neg h1, if_neg h2]
    exact ⟨rfl, rfl, rfl⟩
  have md : mdP a b = rnP 0 (sgn a) R (mnE a b) := by unfold mdP; rw [eR, eM]
  have keep : rsB a b = false → reP a b = sS (sgn a) (rnP 0 (sgn a) R (mnE a b)) := fun h => by
    have hr : rsR a b = R := by unfold rsR; rw [if_neg (by rw [h]; decide), eR]
    rw [e2]; unfold rmP; rw [h, hr, eM]
    simp
  have flip : rsB a b = true → reP a b = sS (!(sgn a)) (rnP 0 (!(sgn a)) D (mnE a b)) := fun h => by
    have hr : rsR a b = D := by unfold rsR; rw [if_pos h, hD, hV', eR]
    rw [e2]; unfold rmP; rw [h, hr, eM]
    simp
  have hB : rsB a b = decide (V < 2 * R ∨ (2 * R = V ∧ Q % 2 = 1)) := by unfold rsB; rw [← eR, ← hV', ← hX', ← hQ]
  have zr : vO (K8 a b X V Q R) none 0 = 0 := rfl
  have pk : Pk a b X V Q R S D := ⟨⟨ha, hb⟩, ⟨ca, cb⟩, ⟨⟨by omega, by omega⟩, ⟨by omega, by omega⟩⟩, eE, ⟨⟨_, eka, by omega⟩, ⟨_, ekb, by omega⟩⟩, ⟨hX, hV⟩, ⟨hQ, hR⟩, ⟨hS, hD⟩, hle, ⟨l1, l2⟩, ⟨l3, l4⟩, ⟨l5, l6, l7⟩, ⟨z1, z2⟩, ⟨z3, z4⟩⟩
  unfold vRe
  rw [e3]
  cases d with
  | false =>
    rw [if_neg (by decide), e1, md]
    by_cases r0 : 0 < R
    · have hc : cmpZ S V = cmpZ S V := rfl
      have z5 := z5.2 r0
      exact rr_e8 a b X V Q R S D (cmpZ S V) pk z5 hc w
    · have hc : cmpZ (vO (K8 a b X V Q R) none 0) V = -1 := by rw [zr]; unfold cmpZ; rw [if_pos (by omega)]
      exact rr_f8 a b X V Q R S D  pk (fun h => r0 (z5.1 h)) hc w
  | true =>
    rw [if_pos rfl]
    by_cases r0 : 0 < R
    · have z5 := z5.2 r0
      by_cases g1 : V < 2 * R
      · have hc : cmpZ S V = 1 := by unfold cmpZ; rw [if_neg (by omega), if_neg (by omega)]
        rw [flip (hB.trans (decide_eq_true (.inl g1)))]
        exact rn_a8 a b X V Q R S D  pk z5 hc w
      by_cases g2 : 2 * R = V
      · have hc : cmpZ S V = 0 := by unfold cmpZ; rw [if_neg (by omega), if_pos (by omega)]
        by_cases q0 : 0 < Q
        · have z6 := z6.2 q0
          obtain ⟨v, hvv⟩ : ∃ v : Int, v = ((Q % 65536 : Nat) : Int) := ⟨_, rfl⟩
          have hcel : cellIs ((wU (d16 Q))[0]?) (.int .u32 v) = true := by
            rw [d16_head (by omega), hvv]
            simp [cellIs]
          have et : v.tmod 2 = v % 2 := Int.tmod_eq_emod_of_nonneg (by omega)
          by_cases q1 : Q % 2 = 1
          · have hv1 : v.tmod 2 = 1 := by omega
            rw [flip (hB.trans (decide_eq_true (.inr ⟨g2, q1⟩)))]
            exact rn_b8 a b X V Q R S D v pk z5 hc z6 hcel hv1 w
          · have hv1 : v.tmod 2 ≠ 1 := by omega
            rw [keep (hB.trans (decide_eq_false (by omega)))]
            exact rn_c8 a b X V Q R S D v pk z5 hc z6 hcel hv1 w
        · rw [keep (hB.trans (decide_eq_false (by omega)))]
          exact rn_d8 a b X V Q R S D  pk z5 hc (fun h => q0 (z6.1 h)) w
      · have hc : cmpZ S V = -1 := by unfold cmpZ; rw [if_pos (by omega)]
        rw [keep (hB.trans (decide_eq_false (by omega)))]
        exact rn_e8 a b X V Q R S D  pk z5 hc w
    · have hc : cmpZ (vO (K8 a b X V Q R) none 0) V = -1 := by rw [zr]; unfold cmpZ; rw [if_pos (by omega)]
      rw [keep (hB.trans (decide_eq_false (by omega)))]
      exact rn_f8 a b X V Q R S D  pk (fun h => r0 (z5.1 h)) hc w
theorem rrest_calls (a b : Int) (d : Bool) (ha : U a) (hb : U b) (w : World) : Calls Try.prog 9 #[.int .u64 a, .int .u64 b, .bool d] w fun r w' => r = .returned (vRe a b d) ∧ Tidy w w' := by
  have T0 := tabH_ok conR8_ok hcT8_ok
  have ka : decide (U a) = true := decide_eq_true ha
  have kb : decide (U b) = true := decide_eq_true hb
  have ba := cl_bd a
  have bb := cl_bd b
  by_cases hf : (cl a = 1 ∨ cl a = 2) ∧ (cl b = 1 ∨ cl b = 2)
  · exact rest_fin8 a b d ha hb hf.1 hf.2 w
  have same : ∀ x y : Int, x = y → (if d = true then x else y) = y := fun x y h => by rw [h]; cases d <;> rfl
  by_cases z : cl a = 0 ∧ (cl b = 1 ∨ cl b = 2)
  · obtain ⟨m1, m2, m3⟩ := rest_zero (b := b) ha z.1 (by omega) (by omega)
    unfold vRe
    rw [m1, m2, m3, same _ _ rfl]
    exact fits_calls T0 (rz_0 a b d) (okCons (beq_t (by omega)) (okCons (beq_f (by omega)) (okCons (beq_f (by omega)) (okCons (beq_f (by omega)) (okCons (decide_eq_false (by omega)) (okCons kb (okCons (decide_eq_false (by omega)) (okCons ka (okCons kb (okL1 ka)))))))))) (by rfl) (by rfl) w
  unfold vRe moP reP moF
  by_cases ha3 : 3 < cl a
  · have hq : 3 < cl a ∨ 3 < cl b := .inl ha3
    rw [if_pos hq, if_pos hq, if_pos hq, same _ _ rfl]
    by_cases a5 : cl a = 5
    · rw [if_pos (.inl a5)]
      exact fits_calls T0 (rz_n1 a b d) (okCons (beq_t (by omega)) (okCons ka (okCons (decide_eq_true (by omega)) (okCons ka (okCons kb (okL1 ka)))))) (by rfl) (by rfl) w
    · by_cases b5 : cl b = 5
      · rw [if_pos (.inr b5)]
        exact fits_calls T0 (rz_n2 a b d) (okCons (beq_t (by omega)) (okCons kb (okCons (beq_f (by omega)) (okCons ka (okCons (decide_eq_true (by omega)) (okCons ka (okCons kb (okL1 ka)))))))) (by rfl) (by rfl) w
      · rw [if_neg (by omega)]
        exact fits_calls T0 (rz_n3 a b d) (okCons (beq_f (by omega)) (okCons kb (okCons (beq_f (by omega)) (okCons ka (okCons (decide_eq_true (by omega)) (okCons ka (okCons kb (okL1 ka)))))))) (by rfl) (by rfl) w
  by_cases hb3 : 3 < cl b
  · have hq : 3 < cl a ∨ 3 < cl b := .inr hb3
    rw [if_pos hq, if_pos hq, if_pos hq, same _ _ rfl]
    by_cases b5 : cl b = 5
    · rw [if_pos (.inr b5)]
      exact fits_calls T0 (rz_m2 a b d) (okCons (beq_t (by omega)) (okCons kb (okCons (beq_f (by omega)) (okCons ka (okCons (decide_eq_true (by omega)) (okCons kb (okCons (decide_eq_false (by omega)) (okCons ka (okCons kb (okL1 ka)))))))))) (by rfl) (by rfl) w
    · rw [if_neg (by omega)]
      exact fits_calls T0 (rz_m3 a b d) (okCons (beq_f (by omega)) (okCons kb (okCons (beq_f (by omega)) (okCons ka (okCons (decide_eq_true (by omega)) (okCons kb (okCons (decide_eq_false (by omega)) (okCons ka (okCons kb (okL1 ka)))))))))) (by rfl) (by rfl) w
  have hno : ¬ (3 < cl a ∨ 3 < cl b) := by omega
  rw [if_neg hno, if_neg hno, if_neg hno]
  by_cases a3 : cl a = 3
  · have hq : cl a = 3 ∨ cl b = 0 := .inl a3
    rw [if_pos hq, if_pos hq, if_pos hq, same _ _ rfl]
    exact fits_calls T0 (rz_i a b d) (okCons (beq_t (by omega)) (okCons (decide_eq_false (by omega)) (okCons kb (okCons (decide_eq_false (by omega)) (okCons ka (okCons kb (okL1 ka))))))) (by rfl) (by rfl) w
  by_cases bz : cl b = 0
  · have hq : cl a = 3 ∨ cl b = 0 := .inr bz
    rw [if_pos hq, if_pos hq, if_pos hq, same _ _ rfl]
    exact fits_calls T0 (rz_z a b d) (okCons (beq_t (by omega)) (okCons (beq_f (by omega)) (okCons (decide_eq_false (by omega)) (okCons kb (okCons (decide_eq_false (by omega)) (okCons ka (okCons kb (okL1 ka)))))))) (by rfl) (by rfl) w
  have hn2 : ¬ (cl a = 3 ∨ cl b = 0) := by omega
  rw [if_neg hn2, if_neg hn2, if_neg hn2]
  have b3 : cl b = 3 := by omega
  rw [if_pos b3, if_pos b3, same _ _ rfl]
  exact fits_calls T0 (rz_e a b d) (okCons (beq_t (by omega)) (okCons (beq_f (by omega)) (okCons (beq_f (by omega)) (okCons (decide_eq_false (by omega)) (okCons kb (okCons (decide_eq_false (by omega)) (okCons ka (okCons kb (okL1 ka))))))))) (by rfl) (by rfl) w
def gRe : Ans := fun vals s =>
  match vals with
  | [.int .u64 a, .int .u64 b, .bool d] => some (vRe a b d, s, [(decide (U a ∧ U b), true)])
  | _ => none
theorem gRe_ok : AnsOk 9 gRe := by
  intro vals s v s' lg h hl w
  unfold gRe at h
  split at h
  · cases h
    obtain ⟨h1, h2⟩ := of_decide_eq_true (hl _ (List.mem_singleton.2 rfl))
    exact rrest_calls _ _ _ h1 h2 w
  · cases h
end Go.Proofs.Ytbcpnpchioncbaa
