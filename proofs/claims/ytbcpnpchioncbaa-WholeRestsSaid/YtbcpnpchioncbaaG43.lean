/-
  The document's whole numbers (tillerref08.Round), as a call in every world.
-/
import Derived.Test.YtbcpnpchioncbaaG42
import Derived.Test.YtbcpnpchioncbaaG41
namespace Go.Proofs.Ytbcpnpchioncbaa
open Go.KRun Go.Nt Go.Wd Go.Pt Go.Rn
set_option maxRecDepth 100000

def J2 (a : Int) : Hp := ⟨2, [bOf (sgn a) (xp a) (sOf 0 (sg a).toNat), w16 (sg a).toNat]⟩
def J3 (a : Int) (V : Nat) : Hp := ⟨3, [w16 V, bOf (sgn a) (xp a) (sOf 0 (sg a).toNat), w16 (sg a).toNat]⟩
theorem ow_n1 (a m : Int) (t : Bool) : Fits (reckon (tabH Try.prog extY conW8 hcW8) 300 13 [.int .u64 a, .int .i64 m, .bool t] [cmp true, cmp true]) (.tuple #[.int .u64 9221120237041090560, .int .i64 1]) [(cl a == 5, true), lU a, (decide (cl a > 3), true), lU a] := ⟨by kernel_rfl, by kernel_rfl, by kernel_rfl, by kernel_rfl⟩
theorem ow_n0 (a m : Int) (t : Bool) : Fits (reckon (tabH Try.prog extY conW8 hcW8) 300 13 [.int .u64 a, .int .i64 m, .bool t] [cmp true, cmp false, cmp false]) (.tuple #[.int .u64 9221120237041090560, .int .i64 0]) [(cl a == 5, false), lU a, (cl a == 5, false), lU a, (decide (cl a > 3), true), lU a] := ⟨by kernel_rfl, by kernel_rfl, by kernel_rfl, by kernel_rfl⟩
theorem ow_i (a m : Int) (t : Bool) : Fits (reckon (tabH Try.prog extY conW8 hcW8) 300 13 [.int .u64 a, .int .i64 m, .bool t] [cmp false, cmp false, cmp true]) (.tuple #[.int .u64 a, .int .i64 0]) [(a.tmod 9223372036854775808 == 9218868437227405312, true), (decide ((9223372036854775808 : Int) = 0), false), (decide (cl a > 3), false), lU a] := ⟨by kernel_rfl, by kernel_rfl, by kernel_rfl, by kernel_rfl⟩
theorem ow_w1 (a m : Int) (t : Bool) : Fits (reckon (tabH Try.prog extY conW8 hcW8) 300 13 [.int .u64 a, .int .i64 m, .bool t] [cmp false, cmp false, cmp false, cmp true, cmp true]) (.tuple #[.int .u64 a, .int .i64 0]) [(decide (xp a ≥ 0), true), lU a, (decide (m < 0), true), (a.tmod 9223372036854775808 == 9218868437227405312, false), (decide ((9223372036854775808 : Int) = 0), false), (decide (cl a > 3), false), lU a] := ⟨by kernel_rfl, by kernel_rfl, by kernel_rfl, by kernel_rfl⟩
theorem ow_f1ttt (a m : Int) (V : Nat) : Fits (reckon (tabH Try.prog extY conW8 hcW8) 300 13 [.int .u64 a, .int .i64 m, .bool true] [cmp false, cmp false, cmp false, cmp true, cmp false, cmp true, cmp true, num V, num V]) (.tuple #[.int .u64 (sS (sgn a) (rnP 0 (sgn a) V 0)), .int .i64 16]) [(decide (vO (J3 a V) (aP16 2) (d16 V).length = V), true), (okRo (J3 a V) (aP16 2) (d16 V).length (d16 V).length 0, true), (decide (toQ 0 (sgn a) (vO (J2 a) (aP16 0) (d16 (sg a).toNat).length) (xp a) 0 = V), true), (toL (vO (J2 a) (aP16 0) (d16 (sg a).toNat).length) (xp a) 0, true), (rowTo 0 (sgn a) (vO (J2 a) (aP16 0) (d16 (sg a).toNat).length) (d16 (sg a).toNat).length (xp a) 0, true), (okTo (J2 a) (aP16 0) (d16 (sg a).toNat).length (d16 (sg a).toNat).length (xp a) 0, true), (decide (xp a ≥ 0), false), lU a, (decide (m < 0), true), (a.tmod 9223372036854775808 == 9218868437227405312, false), (decide ((9223372036854775808 : Int) = 0), false), (decide (cl a > 3), false), lU a] := ⟨by kernel_rfl, by kernel_rfl, by kernel_rfl, by kernel_rfl⟩
theorem ow_f1ttf (a m : Int) (V : Nat) : Fits (reckon (tabH Try.prog extY conW8 hcW8) 300 13 [.int .u64 a, .int .i64 m, .bool false] [cmp false, cmp false, cmp false, cmp true, cmp false, cmp true, cmp true, num V, num V]) (.tuple #[.int .u64 (sS (sgn a) (rnP 0 (sgn a) V 0)), .int .i64 0]) [(decide (vO (J3 a V) (aP16 2) (d16 V).length = V), true), (okRo (J3 a V) (aP16 2) (d16 V).length (d16 V).length 0, true), (decide (toQ 0 (sgn a) (vO (J2 a) (aP16 0) (d16 (sg a).toNat).length) (xp a) 0 = V), true), (toL (vO (J2 a) (aP16 0) (d16 (sg a).toNat).length) (xp a) 0, true), (rowTo 0 (sgn a) (vO (J2 a) (aP16 0) (d16 (sg a).toNat).length) (d16 (sg a).toNat).length (xp a) 0, true), (okTo (J2 a) (aP16 0) (d16 (sg a).toNat).length (d16 (sg a).toNat).length (xp a) 0, true), (decide (xp a ≥ 0), false), lU a, (decide (m < 0), true), (a.tmod 9223372036854775808 == 9218868437227405312, false), (decide ((9223372036854775808 : Int) = 0), false), (decide (cl a > 3), false), lU a] := ⟨by kernel_rfl, by kernel_rfl, by kernel_rfl, by kernel_rfl⟩
theorem ow_f1tfx (a m : Int) (V : Nat) (t : Bool) : Fits (reckon (tabH Try.prog extY conW8 hcW8) 300 13 [.int .u64 a, .int .i64 m, .bool t] [cmp false, cmp false, cmp false, cmp true, cmp false, cmp true, cmp false, num V, num V]) (.tuple #[.int .u64 (sS (sgn a) (rnP 0 (sgn a) V 0)), .int .i64 0]) [(decide (vO (J3 a V) (aP16 2) (d16 V).length = V), true), (okRo (J3 a V) (aP16 2) (d16 V).length (d16 V).length 0, true), (decide (toQ 0 (sgn a) (vO (J2 a) (aP16 0) (d16 (sg a).toNat).length) (xp a) 0 = V), true), (toL (vO (J2 a) (aP16 0) (d16 (sg a).toNat).length) (xp a) 0, false), (rowTo 0 (sgn a) (vO (J2 a) (aP16 0) (d16 (sg a).toNat).length) (d16 (sg a).toNat).length (xp a) 0, true), (okTo (J2 a) (aP16 0) (d16 (sg a).toNat).length (d16 (sg a).toNat).length (xp a) 0, true), (decide (xp a ≥ 0), false), lU a, (decide (m < 0), true), (a.tmod 9223372036854775808 == 9218868437227405312, false), (decide ((9223372036854775808 : Int) = 0), false), (decide (cl a > 3), false), lU a] := ⟨by kernel_rfl, by kernel_rfl, by kernel_rfl, by kernel_rfl⟩
theorem ow_f1ftt (a m : Int) (V : Nat) : Fits (reckon (tabH Try.prog extY conW8 hcW8) 300 13 [.int .u64 a, .int .i64 m, .bool true] [cmp false, cmp false, cmp false, cmp true, cmp false, cmp false, cmp true, num V]) (.tuple #[.int .u64 (sS (sgn a) 0), .int .i64 16]) [(toL (vO (J2 a) (aP16 0) (d16 (sg a).toNat).length) (xp a) 0, true), (rowTo 0 (sgn a) (vO (J2 a) (aP16 0) (d16 (sg a).toNat).length) (d16 (sg a).toNat).length (xp a) 0, false), (okTo (J2 a) (aP16 0) (d16 (sg a).toNat).length (d16 (sg a).toNat).length (xp a) 0, true), (decide (xp a ≥ 0), false), lU a, (decide (m < 0), true), (a.tmod 9223372036854775808 == 9218868437227405312, false), (decide ((9223372036854775808 : Int) = 0), false), (decide (cl a > 3), false), lU a] := ⟨by kernel_rfl, by kernel_rfl, by kernel_rfl, by kernel_rfl⟩
theorem ow_f1ftf (a m : Int) (V : Nat) : Fits (reckon (tabH Try.prog extY conW8 hcW8) 300 13 [.int .u64 a, .int .i64 m, .bool false] [cmp false, cmp false, cmp false, cmp true, cmp false, cmp false, cmp true, num V]) (.tuple #[.int .u64 (sS (sgn a) 0), .int .i64 0]) [(toL (vO (J2 a) (aP16 0) (d16 (sg a).toNat).length) (xp a) 0, true), (rowTo 0 (sgn a) (vO (J2 a) (aP16 0) (d16 (sg a).toNat).length) (d16 (sg a).toNat).length (xp a) 0, false), (okTo (J2 a) (aP16 0) (d16 (sg a).toNat).length (d16 (sg a).toNat).length (xp a) 0, true), (decide (xp a ≥ 0), false), lU a, (decide (m < 0), true), (a.tmod 9223372036854775808 == 9218868437227405312, false), (decide ((9223372036854775808 : Int) = 0), false), (decide (cl a > 3), false), lU a] := ⟨by kernel_rfl, by kernel_rfl, by kernel_rfl, by kernel_rfl⟩
theorem ow_f1ffx (a m : Int) (V : Nat) (t : Bool) : Fits (reckon (tabH Try.prog extY conW8 hcW8) 300 13 [.int .u64 a, .int .i64 m, .bool t] [cmp false, cmp false, cmp false, cmp true, cmp false, cmp false, cmp false, num V]) (.tuple #[.int .u64 (sS (sgn a) 0), .int .i64 0]) [(toL (vO (J2 a) (aP16 0) (d16 (sg a).toNat).length) (xp a) 0, false), (rowTo 0 (sgn a) (vO (J2 a) (aP16 0) (d16 (sg a).toNat).length) (d16 (sg a).toNat).length (xp a) 0, false), (okTo (J2 a) (aP16 0) (d16 (sg a).toNat).length (d16 (sg a).toNat).length (xp a) 0, true), (decide (xp a ≥ 0), false), lU a, (decide (m < 0), true), (a.tmod 9223372036854775808 == 9218868437227405312, false), (decide ((9223372036854775808 : Int) = 0), false), (decide (cl a > 3), false), lU a] := ⟨by kernel_rfl, by kernel_rfl, by kernel_rfl, by kernel_rfl⟩
theorem ow_w2 (a m : Int) (t : Bool) : Fits (reckon (tabH Try.prog extY conW8 hcW8) 300 13 [.int .u64 a, .int .i64 m, .bool t] [cmp false, cmp false, cmp false, cmp false, cmp true, cmp true]) (.tuple #[.int .u64 a, .int .i64 0]) [(decide (xp a ≥ 0), true), lU a, (decide (m > 4), true), (decide (m < 0), false), (a.tmod 9223372036854775808 == 9218868437227405312, false), (decide ((9223372036854775808 : Int) = 0), false), (decide (cl a > 3), false), lU a] := ⟨by kernel_rfl, by kernel_rfl, by kernel_rfl, by kernel_rfl⟩
theorem ow_f2ttt (a m : Int) (V : Nat) : Fits (reckon (tabH Try.prog extY conW8 hcW8) 300 13 [.int .u64 a, .int .i64 m, .bool true] [cmp false, cmp false, cmp false, cmp false, cmp true, cmp false, cmp true, cmp true, num V, num V]) (.tuple #[.int .u64 (sS (sgn a) (rnP 0 (sgn a) V 0)), .int .i64 16]) [(decide (vO (J3 a V) (aP16 2) (d16 V).length = V), true), (okRo (J3 a V) (aP16 2) (d16 V).length (d16 V).length 0, true), (decide (toQ 0 (sgn a) (vO (J2 a) (aP16 0) (d16 (sg a).toNat).length) (xp a) 0 = V), true), (toL (vO (J2 a) (aP16 0) (d16 (sg a).toNat).length) (xp a) 0, true), (rowTo 0 (sgn a) (vO (J2 a) (aP16 0) (d16 (sg a).toNat).length) (d16 (sg a).toNat).length (xp a) 0, true), (okTo (J2 a) (aP16 0) (d16 (sg a).toNat).length (d16 (sg a).toNat).length (xp a) 0, true), (decide (xp a ≥ 0), false), lU a, (decide (m > 4), true), (decide (m < 0), false), (a.tmod 9223372036854775808 == 9218868437227405312, false), (decide ((9223372036854775808 : Int) = 0), false), (decide (cl a > 3), false), lU a] := ⟨by kernel_rfl, by kernel_rfl, by kernel_rfl, by kernel_rfl⟩
theorem ow_f2ttf (a m : Int) (V : Nat) : Fits (reckon (tabH Try.prog extY conW8 hcW8) 300 13 [.int .u64 a, .int .i64 m, .bool false] [cmp false, cmp false, cmp false, cmp false, cmp true, cmp false, cmp true, cmp true, num V, num V]) (.tuple #[.int .u64 (sS (sgn a) (rnP 0 (sgn a) V 0)), .int .i64 0]) [(decide (vO (J3 a V) (aP16 2) (d16 V).length = V), true), (okRo (J3 a V) (aP16 2) (d16 V).length (d16 V).length 0, true), (decide (toQ 0 (sgn a) (vO (J2 a) (aP16 0) (d16 (sg a).toNat).length) (xp a) 0 = V), true), (toL (vO (J2 a) (aP16 0) (d16 (sg a).toNat).length) (xp a) 0, true), (rowTo 0 (sgn a) (vO (J2 a) (aP16 0) (d16 (sg a).toNat).length) (d16 (sg a).toNat).length (xp a) 0, true), (okTo (J2 a) (aP16 0) (d16 (sg a).toNat).length (d16 (sg a).toNat).length (xp a) 0, true), (decide (xp a ≥ 0), false), lU a, (decide (m > 4), true), (decide (m < 0), false), (a.tmod 9223372036854775808 == 9218868437227405312, false), (decide ((9223372036854775808 : Int) = 0), false), (decide (cl a > 3), false), lU a] := ⟨by kernel_rfl, by kernel_rfl, by kernel_rfl, by kernel_rfl⟩
theorem ow_f2tfx (a m : Int) (V : Nat) (t : Bool) : Fits (reckon (tabH Try.prog extY conW8 hcW8) 300 13 [.int .u64 a, .int .i64 m, .bool t] [cmp false, cmp false, cmp false, cmp false, cmp true, cmp false, cmp true, cmp false, num V, num V]) (.tuple #[.int .u64 (sS (sgn a) (rnP 0 (sgn a) V 0)), .int .i64 0]) [(decide (vO (J3 a V) (aP16 2) (d16 V).length = V), true), (okRo (J3 a V) (aP16 2) (d16 V).length (d16 V).length 0, true), (decide (toQ 0 (sgn a) (vO (J2 a) (aP16 0) (d16 (sg a).toNat).length) (xp a) 0 = V), true), (toL (vO (J2 a) (aP16 0) (d16 (sg a).toNat).length) (xp a) 0, false), (rowTo 0 (sgn a) (vO (J2 a) (aP16 0) (d16 (sg a).toNat).length) (d16 (sg a).toNat).length (xp a) 0, true), (okTo (J2 a) (aP16 0) (d16 (sg a).toNat).length (d16 (sg a).toNat).length (xp a) 0, true), (decide (xp a ≥ 0), false), lU a, (decide (m > 4), true), (decide (m < 0), false), (a.tmod 9223372036854775808 == 9218868437227405312, false), (decide ((9223372036854775808 : Int) = 0), false), (decide (cl a > 3), false), lU a] := ⟨by kernel_rfl, by kernel_rfl, by kernel_rfl, by kernel_rfl⟩
theorem ow_f2ftt (a m : Int) (V : Nat) : Fits (reckon (tabH Try.prog extY conW8 hcW8) 300 13 [.int .u64 a, .int .i64 m, .bool true] [cmp false, cmp false, cmp false, cmp false, cmp true, cmp false, cmp false, cmp true, num V]) (.tuple #[.int .u64 (sS (sgn a) 0), .int .i64 16]) [(toL (vO (J2 a) (aP16 0) (d16 (sg a).toNat).length) (xp a) 0, true), (rowTo 0 (sgn a) (vO (J2 a) (aP16 0) (d16 (sg a).toNat).length) (d16 (sg a).toNat).length (xp a) 0, false), (okTo (J2 a) (aP16 0) (d16 (sg a).toNat).length (d16 (sg a).toNat).length (xp a) 0, true), (decide (xp a ≥ 0), false), lU a, (decide (m > 4), true), (decide (m < 0), false), (a.tmod 9223372036854775808 == 9218868437227405312, false), (decide ((9223372036854775808 : Int) = 0), false), (decide (cl a > 3), false), lU a] := ⟨by kernel_rfl, by kernel_rfl, by kernel_rfl, by kernel_rfl⟩
theorem ow_f2ftf (a m : Int) (V : Nat) : Fits (reckon (tabH Try.prog extY conW8 hcW8) 300 13 [.int .u64 a, .int .i64 m, .bool false] [cmp false, cmp false, cmp false, cmp false, cmp true, cmp false, cmp false, cmp true, num V]) (.tuple #[.int .u64 (sS (sgn a) 0), .int .i64 0]) [(toL (vO (J2 a) (aP16 0) (d16 (sg a).toNat).length) (xp a) 0, true), (rowTo 0 (sgn a) (vO (J2 a) (aP16 0) (d16 (sg a).toNat).length) (d16 (sg a).toNat).length (xp a) 0, false), (okTo (J2 a) (aP16 0) (d16 (sg a).toNat).length (d16 (sg a).toNat).length (xp a) 0, true), (decide (xp a ≥ 0), false), lU a, (decide (m > 4), true), (decide (m < 0), false), (a.tmod 9223372036854775808 == 9218868437227405312, false), (decide ((9223372036854775808 : Int) = 0), false), (decide (cl a > 3), false), lU a] := ⟨by kernel_rfl, by kernel_rfl, by kernel_rfl, by kernel_rfl⟩
theorem ow_f2ffx (a m : Int) (V : Nat) (t : Bool) : Fits (reckon (tabH Try.prog extY conW8 hcW8) 300 13 [.int .u64 a, .int .i64 m, .bool t] [cmp false, cmp false, cmp false, cmp false, cmp true, cmp false, cmp false, cmp false, num V]) (.tuple #[.int .u64 (sS (sgn a) 0), .int .i64 0]) [(toL (vO (J2 a) (aP16 0) (d16 (sg a).toNat).length) (xp a) 0, false), (rowTo 0 (sgn a) (vO (J2 a) (aP16 0) (d16 (sg a).toNat).length) (d16 (sg a).toNat).length (xp a) 0, false), (okTo (J2 a) (aP16 0) (d16 (sg a).toNat).length (d16 (sg a).toNat).length (xp a) 0, true), (decide (xp a ≥ 0), false), lU a, (decide (m > 4), true), (decide (m < 0), false), (a.tmod 9223372036854775808 == 9218868437227405312, false), (decide ((9223372036854775808 : Int) = 0), false), (decide (cl a > 3), false), lU a] := ⟨by kernel_rfl, by kernel_rfl, by kernel_rfl, by kernel_rfl⟩
theorem ow_w3 (a m : Int) (t : Bool) : Fits (reckon (tabH Try.prog extY conW8 hcW8) 300 13 [.int .u64 a, .int .i64 m, .bool t] [cmp false, cmp false, cmp false, cmp false, cmp false, cmp true]) (.tuple #[.int .u64 a, .int .i64 0]) [(decide (xp a ≥ 0), true), lU a, (decide (m > 4), false), (decide (m < 0), false), (a.tmod 9223372036854775808 == 9218868437227405312, false), (decide ((9223372036854775808 : Int) = 0), false), (decide (cl a > 3), false), lU a] := ⟨by kernel_rfl, by kernel_rfl, by kernel_rfl, by kernel_rfl⟩
theorem ow_f3ttt (a m : Int) (V : Nat) : Fits (reckon (tabH Try.prog extY conW8 hcW8) 300 13 [.int .u64 a, .int .i64 m, .bool true] [cmp false, cmp false, cmp false, cmp false, cmp false, cmp false, cmp true, cmp true, num V, num V]) (.tuple #[.int .u64 (sS (sgn a) (rnP 0 (sgn a) V 0)), .int .i64 16]) [(decide (vO (J3 a V) (aP16 2) (d16 V).length = V), true), (okRo (J3 a V) (aP16 2) (d16 V).length (d16 V).length 0, true), (decide (toQ m (sgn a) (vO (J2 a) (aP16 0) (d16 (sg a).toNat).length) (xp a) 0 = V), true), (toL (vO (J2 a) (aP16 0) (d16 (sg a).toNat).length) (xp a) 0, true), (rowTo m (sgn a) (vO (J2 a) (aP16 0) (d16 (sg a).toNat).length) (d16 (sg a).toNat).length (xp a) 0, true), (okTo (J2 a) (aP16 0) (d16 (sg a).toNat).length (d16 (sg a).toNat).length (xp a) 0, true), (decide (xp a ≥ 0), false), lU a, (decide (m > 4), false), (decide (m < 0), false), (a.tmod 9223372036854775808 == 9218868437227405312, false), (decide ((9223372036854775808 : Int) = 0), false), (decide (cl a > 3), false), lU a] := ⟨by kernel_rfl, by kernel_rfl, by kernel_rfl, by kernel_rfl⟩
theorem ow_f3ttf (a m : Int) (V : Nat) : Fits (reckon (tabH Try.prog extY conW8 hcW8) 300 13 [.int .u64 a, .int .i64 m, .bool false] [cmp false, cmp false, cmp false, cmp false, cmp false, cmp false, cmp true, cmp true, num V, num V]) (.tuple #[.int .u64 (sS (sgn a) (rnP 0 (sgn a) V 0)), .int .i64 0]) [(decide (vO (J3 a V) (aP16 2) (d16 V).length = V), true), (okRo (J3 a V) (aP16 2) (d16 V).length (d16 V).length 0, true), (decide (toQ m (sgn a) (vO (J2 a) (aP16 0) (d16 (sg a).toNat).length) (xp a) 0 = V), true), (toL (vO (J2 a) (aP16 0) (d16 (sg a).toNat).length) (xp a) 0, true), (rowTo m (sgn a) (vO (J2 a) (aP16 0) (d16 (sg a).toNat).length) (d16 (sg a).toNat).length (xp a) 0, true), (okTo (J2 a) (aP16 0) (d16 (sg a).toNat).length (d16 (sg a).toNat).length (xp a) 0, true), (decide (xp a ≥ 0), false), lU a, (decide (m > 4), false), (decide (m < 0), false), (a.tmod 9223372036854775808 == 9218868437227405312, false), (decide ((9223372036854775808 : Int) = 0), false), (decide (cl a > 3), false), lU a] := ⟨by kernel_rfl, by kernel_rfl, by kernel_rfl, by kernel_rfl⟩
theorem ow_f3tfx (a m : Int) (V : Nat) (t : Bool) : Fits (reckon (tabH Try.prog extY conW8 hcW8) 300 13 [.int .u64 a, .int .i64 m, .bool t] [cmp false, cmp false, cmp false, cmp false, cmp false, cmp false, cmp true, cmp false, num V, num V]) (.tuple #[.int .u64 (sS (sgn a) (rnP 0 (sgn a) V 0)), .int .i64 0]) [(decide (vO (J3 a V) (aP16 2) (d16 V).length = V), true), (okRo (J3 a V) (aP16 2) (d16 V).length (d16 V).length 0, true), (decide (toQ m (sgn a) (vO (J2 a) (aP16 0) (d16 (sg a).toNat).length) (xp a) 0 = V), true), (toL (vO (J2 a) (aP16 0) (d16 (sg a).toNat).length) (xp a) 0, false), (rowTo m (sgn a) (vO (J2 a) (aP16 0) (d16 (sg a).toNat).length) (d16 (sg a).toNat).length (xp a) 0, true), (okTo (J2 a) (aP16 0) (d16 (sg a).toNat).length (d16 (sg a).toNat).length (xp a) 0, true), (decide (xp a ≥ 0), false), lU a, (decide (m > 4), false), (decide (m < 0), false), (a.tmod 9223372036854775808 == 9218868437227405312, false), (decide ((9223372036854775808 : Int) = 0), false), (decide (cl a > 3), false), lU a] := ⟨by kernel_rfl, by kernel_rfl, by kernel_rfl, by kernel_rfl⟩
theorem ow_f3ftt (a m : Int) (V : Nat) : Fits (reckon (tabH Try.prog extY conW8 hcW8) 300 13 [.int .u64 a, .int .i64 m, .bool true] [cmp false, cmp false, cmp false, cmp false, cmp false, cmp false, cmp false, cmp true, num V]) (.tuple #[.int .u64 (sS (sgn a) 0), .int .i64 16]) [(toL (vO (J2 a) (aP16 0) (d16 (sg a).toNat).length) (xp a) 0, true), (rowTo m (sgn a) (vO (J2 a) (aP16 0) (d16 (sg a).toNat).length) (d16 (sg a).toNat).length (xp a) 0, false), (okTo (J2 a) (aP16 0) (d16 (sg a).toNat).length (d16 (sg a).toNat).length (xp a) 0, true), (decide (xp a ≥ 0), false), lU a, (decide (m > 4), false), (decide (m < 0), false), (a.tmod 9223372036854775808 == 9218868437227405312, false), (decide ((9223372036854775808 : Int) = 0), false), (decide (cl a > 3), false), lU a] := ⟨by kernel_rfl, by kernel_rfl, by kernel_rfl, by kernel_rfl⟩
theorem ow_f3ftf (a m : Int) (V : Nat) : Fits (reckon (tabH Try.prog extY conW8 hcW8) 300 13 [.int .u64 a, .int .i64 m, .bool false] [cmp false, cmp false, cmp false, cmp false, cmp false, cmp false, cmp false, cmp true, num V]) (.tuple #[.int .u64 (sS (sgn a) 0), .int .i64 0]) [(toL (vO (J2 a) (aP16 0) (d16 (sg a).toNat).length) (xp a) 0, true), (rowTo m (sgn a) (vO (J2 a) (aP16 0) (d16 (sg a).toNat).length) (d16 (sg a).toNat).length (xp a) 0, false), (okTo (J2 a) (aP16 0) (d16 (sg a).toNat).length (d16 (sg a).toNat).length (xp a) 0, true), (decide (xp a ≥ 0), false), lU a, (decide (m > 4), false), (decide (m < 0), false), (a.tmod 9223372036854775808 == 9218868437227405312, false), (decide ((9223372036854775808 : Int) = 0), false), (decide (cl a > 3), false), lU a] := ⟨by kernel_rfl, by kernel_rfl, by kernel_rfl, by kernel_rfl⟩
theorem ow_f3ffx (a m : Int) (V : Nat) (t : Bool) : Fits (reckon (tabH Try.prog extY conW8 hcW8) 300 13 [.int .u64 a, .int .i64 m, .bool t] [cmp false, cmp false, cmp false, cmp false, cmp false, cmp false, cmp false, cmp false, num V]) (.tuple #[.int .u64 (sS (sgn a) 0), .int .i64 0]) [(toL (vO (J2 a) (aP16 0) (d16 (sg a).toNat).length) (xp a) 0, false), (rowTo m (sgn a) (vO (J2 a) (aP16 0) (d16 (sg a).toNat).length) (d16 (sg a).toNat).length (xp a) 0, false), (okTo (J2 a) (aP16 0) (d16 (sg a).toNat).length (d16 (sg a).toNat).length (xp a) 0, true), (decide (xp a ≥ 0), false), lU a, (decide (m > 4), false), (decide (m < 0), false), (a.tmod 9223372036854775808 == 9218868437227405312, false), (decide ((9223372036854775808 : Int) = 0), false), (decide (cl a > 3), false), lU a] := ⟨by kernel_rfl, by kernel_rfl, by kernel_rfl, by kernel_rfl⟩
theorem nil_zero8 {m : Int} {n : Bool} {V : Nat} {E : Int} (hE : ¬ (0 : Int) ≤ E) (h : rowTo m n V (d16 V).length E 0 = false) : toQ m n V E 0 = 0 := by
  unfold rowTo at h
  rw [if_neg hE] at h
  simp only [Bool.or_eq_false_iff, decide_eq_false_iff_not] at h
  unfold toQ
  rw [if_neg hE]
  have hlt : V < 2 ^ (0 - E).toNat := by
    have h1 := vb_lt (b := 65536) (by omega) (d16 V) (d16_dg V)
    have h2 : vb 65536 (d16 V) = V := vb_db (by omega) V
    rw [h2, pow16] at h1
    exact Nat.lt_of_lt_of_le h1 (Nat.pow_le_pow_right (by omega) (by omega))
  have hd : V / 2 ^ (0 - E).toNat = 0 := Nat.div_eq_of_lt hlt
  unfold rq
  by_cases hz : V % 2 ^ (0 - E).toNat = 0
  · rw [hd, hz, restC_zero, upR_zero]; rfl
  · have h3 := h.2
    rw [decide_eq_true hz, Bool.true_and] at h3
    rw [h3, hd]; rfl
def vWo (m a : Int) (t : Bool) : Value := .tuple #[.int .u64 (woP m a), .int .i64 (woF a t)]
theorem wo_fin8 (a m : Int) (t : Bool) (ha : U a) (ca : cl a ≤ 2) (w : World) : Calls Try.prog 13 #[.int .u64 a, .int .i64 m, .bool t] w fun r w' => r = .returned (vWo m a t) ∧ Tidy w w' := by
  have T0 := tabH_ok conW8_ok hcW8_ok
  have ka : decide (U a) = true := decide_eq_true ha
  have xa := xp_bd a
  have sa := sg_lt a
  have ba := cl_bd a
  have c3 : ¬ 3 < cl a := by omega
  have c3' : ¬ cl a = 3 := by omega
  have hi : a.tmod 9223372036854775808 ≠ 9218868437227405312 := by
    have := (mag_cl a).2.2.1 ca
    have hu := ha.1
    rw [Int.tmod_eq_emod_of_nonneg hu]
    unfold mag at this
    omega
  have eP : woP m a = sS (sgn a) (whP m a) := by unfold woP; rw [if_neg c3, if_neg c3']
  have eF : woF a t = if t = true ∧ Go.Rn.whL a = true then 16 else 0 := by unfold woF; rw [if_neg c3, if_neg c3']
  unfold vWo
  rw [eP, eF]
  by_cases h0 : 0 ≤ xp a
  · have e1 : whP m a = mag a := by unfold whP; rw [if_pos h0]
    have e2 : Go.Rn.whL a = false := by unfold Go.Rn.whL toL; rw [if_pos h0]
    rw [e1, if_neg (by rw [e2]; simp), sS_own ha]
    by_cases hm1 : m < 0
    · exact fits_calls T0 (ow_w1 a m t) (okCons (decide_eq_true (by omega)) (okCons ka (okCons (decide_eq_true hm1) (okCons (beq_f hi) (okCons (by decide) (okCons (decide_eq_false (by omega)) (okL1 ka))))))) (by rfl) (by rfl) w
    by_cases hm2 : m > 4
    · exact fits_calls T0 (ow_w2 a m t) (okCons (decide_eq_true (by omega)) (okCons ka (okCons (decide_eq_true hm2) (okCons (decide_eq_false hm1) (okCons (beq_f hi) (okCons (by decide) (okCons (decide_eq_false (by omega)) (okL1 ka)))))))) (by rfl) (by rfl) w
    · exact fits_calls T0 (ow_w3 a m t) (okCons (decide_eq_true (by omega)) (okCons ka (okCons (decide_eq_false hm2) (okCons (decide_eq_false hm1) (okCons (beq_f hi) (okCons (by decide) (okCons (decide_eq_false (by omega)) (okL1 ka)))))))) (by rfl) (by rfl) w
  have e1 : whP m a = rnP 0 (sgn a) (Go.Rn.whQ m a) 0 := by unfold whP; rw [if_neg h0]
  have e64 : (2 : Nat) ^ (16 * 4) = 18446744073709551616 := rfl
  have l1 := d16_len (A := (sg a).toNat) (k := 4) (by omega)
  have eA : vO (J2 a) (aP16 0) (d16 (sg a).toNat).length = (sg a).toNat := vO_aP (V := (sg a).toNat) rfl
  have hok : okTo (J2 a) (aP16 0) (d16 (sg a).toNat).length (d16 (sg a).toNat).length (xp a) 0 = true := by
    unfold okTo aP16
    rw [rowP_d16 (A := (sg a).toNat) rfl (by omega), rowOf_d16 (A := (sg a).toNat) rfl, show canB (d16 (sg a).toNat) = true from canB_mk (can_db (by omega) _), blt_iff.2 (by omega), decide_eq_true ⟨⟨by omega, by omega⟩, ⟨by omega, by omega⟩⟩]
    rfl
  obtain ⟨V, hVV⟩ : ∃ V, V = Go.Rn.whQ m a := ⟨_, rfl⟩
  have qb := whQ_bd (m := m) (a := a) (by omega)
  have l2 := d16_len (A := V) (k := 4) (by omega)
  have hz : ∀ M, toQ M (sgn a) (sg a).toNat (xp a) 0 = V → rowTo M (sgn a) (sg a).toNat (d16 (sg a).toNat).length (xp a) 0 = false → rnP 0 (sgn a) V 0 = 0 := fun M h1 h2 => by
    have := nil_zero8 h0 h2
    rw [h1] at this
    unfold rnP
    rw [if_pos this]
  have eL : toL (sg a).toNat (xp a) 0 = Go.Rn.whL a := rfl
  rw [e1, ← hVV]
  obtain ⟨e, he⟩ : ∃ e, Go.Rn.whL a = e := ⟨_, rfl⟩
  rw [he] at eL ⊢
  have hL := eL
  by_cases hm1 : m < 0
  · have hN : mN m = 0 := by unfold mN; rw [if_pos hm1]
    have hV : toQ 0 (sgn a) (sg a).toNat (xp a) 0 = V := by have h := toQ_mN m (sgn a) (sg a).toNat (xp a) 0; rw [hN] at h; exact h.trans hVV.symm
    cases hr : rowTo 0 (sgn a) (sg a).toNat (d16 (sg a).toNat).length (xp a) 0 with
    | true =>
      cases e with
      | true =>
        cases t with
        | true => exact fits_calls T0 (ow_f1ttt a m V) (okCons (decide_eq_true (vO_aP (V := V) rfl)) (okCons (oRo (V := V) rfl (by omega) ⟨by omega, by omega⟩) (okCons (decide_eq_true (by rw [eA]; exact hV)) (okCons (by rw [eA]; exact hL) (okCons (by rw [eA]; exact hr) (okCons hok (okCons (decide_eq_false (by omega)) (okCons ka (okCons (decide_eq_true hm1) (okCons (beq_f hi) (okCons (by decide) (okCons (decide_eq_false (by omega)) (okL1 ka))))))))))))) (by rfl) (by rfl) w
        | false => exact fits_calls T0 (ow_f1ttf a m V) (okCons (decide_eq_true (vO_aP (V := V) rfl)) (okCons (oRo (V := V) rfl (by omega) ⟨by omega, by omega⟩) (okCons (decide_eq_true (by rw [eA]; exact hV)) (okCons (by rw [eA]; exact hL) (okCons (by rw [eA]; exact hr) (okCons hok (okCons (decide_eq_false (by omega)) (okCons ka (okCons (decide_eq_true hm1) (okCons (beq_f hi) (okCons (by decide) (okCons (decide_eq_false (by omega)) (okL1 ka))))))))))))) (by rfl) (by rfl) w
      | false =>
        rw [if_neg (by simp)]
        exact fits_calls T0 (ow_f1tfx a m V t) (okCons (decide_eq_true (vO_aP (V := V) rfl)) (okCons (oRo (V := V) rfl (by omega) ⟨by omega, by omega⟩) (okCons (decide_eq_true (by rw [eA]; exact hV)) (okCons (by rw [eA]; exact hL) (okCons (by rw [eA]; exact hr) (okCons hok (okCons (decide_eq_false (by omega)) (okCons ka (okCons (decide_eq_true hm1) (okCons (beq_f hi) (okCons (by decide) (okCons (decide_eq_false (by omega)) (okL1 ka))))))))))))) (by rfl) (by rfl) w
    | false =>
      rw [hz 0 hV hr]
      cases e with
      | true =>
        cases t with
        | true => exact fits_calls T0 (ow_f1ftt a m V) (okCons (by rw [eA]; exact hL) (okCons (by rw [eA]; exact hr) (okCons hok (okCons (decide_eq_false (by omega)) (okCons ka (okCons (decide_eq_true hm1) (okCons (beq_f hi) (okCons (by decide) (okCons (decide_eq_false (by omega)) (okL1 ka)))))))))) (by rfl) (by rfl) w
        | false => exact fits_calls T0 (ow_f1ftf a m V) (okCons (by rw [eA]; exact hL) (okCons (by rw [eA]; exact hr) (okCons hok (okCons (decide_eq_false (by omega)) (okCons ka (okCons (decide_eq_true hm1) (okCons (beq_f hi) (okCons (by decide) (okCons (decide_eq_false (by omega)) (okL1 ka)))))))))) (by rfl) (by rfl) w
      | false =>
        rw [if_neg (by simp)]
        exact fits_calls T0 (ow_f1ffx a m V t) (okCons (by rw [eA]; exact hL) (okCons (by rw [eA]; exact hr) (okCons hok (okCons (decide_eq_false (by omega)) (okCons ka (okCons (decide_eq_true hm1) (okCons (beq_f hi) (okCons (by decide) (okCons (decide_eq_false (by omega)) (okL1 ka)))))))))) (by rfl) (by rfl) w
  by_cases hm2 : m > 4
  · have hN : mN m = 0 := by unfold mN; rw [if_neg hm1, if_pos hm2]
    have hV : toQ 0 (sgn a) (sg a).toNat (xp a) 0 = V := by have h := toQ_mN m (sgn a) (sg a).toNat (xp a) 0; rw [hN] at h; exact h.trans hVV.symm
    cases hr : rowTo 0 (sgn a) (sg a).toNat (d16 (sg a).toNat).length (xp a) 0 with
    | true =>
      cases e with
      | true =>
        cases t with
        | true => exact fits_calls T0 (ow_f2ttt a m V) (okCons (decide_eq_true (vO_aP (V := V) rfl)) (okCons (oRo (V := V) rfl (by omega) ⟨by omega, by omega⟩) (okCons (decide_eq_true (by rw [eA]; exact hV)) (okCons (by rw [eA]; exact hL) (okCons (by rw [eA]; exact hr) (okCons hok (okCons (decide_eq_false (by omega)) (okCons ka (okCons (decide_eq_true hm2) (okCons (decide_eq_false hm1) (okCons (beq_f hi) (okCons (by decide) (okCons (decide_eq_false (by omega)) (okL1 ka)))))))))))))) (by rfl) (by rfl) w
        | false => exact fits_calls T0 (ow_f2ttf a m V) (okCons (decide_eq_true (vO_aP (V := V) rfl)) (okCons (oRo (V := V) rfl (by omega) ⟨by omega, by omega⟩) (okCons (decide_eq_true (by rw [eA]; exact hV)) (okCons (by rw [eA]; exact hL) (okCons (by rw [eA]; exact hr) (okCons hok (okCons (decide_eq_false (by omega)) (okCons ka (okCons (decide_eq_true hm2) (okCons (decide_eq_false hm1) (okCons (beq_f hi) (okCons (by decide) (okCons (decide_eq_false (by omega)) (okL1 ka)))))))))))))) (by rfl) (by rfl) w
      | false =>
        rw [if_neg (by simp)]
        exact fits_calls T0 (ow_f2tfx a m V t) (okCons (decide_eq_true (vO_aP (V := V) rfl)) (okCons (oRo (V := V) rfl (by omega) ⟨by omega, by omega⟩) (okCons (decide_eq_true (by rw [eA]; exact hV)) (okCons (by rw [eA]; exact hL) (okCons (by rw [eA]; exact hr) (okCons hok (okCons (decide_eq_false (by omega)) (okCons ka (okCons (decide_eq_true hm2) (okCons (decide_eq_false hm1) (okCons (beq_f hi) (okCons (by decide) (okCons (decide_eq_false (by omega)) (okL1 ka)))))))))))))) (by rfl) (by rfl) w
    | false =>
      rw [hz 0 hV hr]
      cases e with
      | true =>
        cases t with
        | true => exact fits_calls T0 (ow_f2ftt a m V) (okCons (by rw [eA]; exact hL) (okCons (by rw [eA]; exact hr) (okCons hok (okCons (decide_eq_false (by omega)) (okCons ka (okCons (decide_eq_true hm2) (okCons (decide_eq_false hm1) (okCons (beq_f hi) (okCons (by decide) (okCons (decide_eq_false (by omega)) (okL1 ka))))))))))) (by rfl) (by rfl) w
        | false => exact fits_calls T0 (ow_f2ftf a m V) (okCons (by rw [eA]; exact hL) (okCons (by rw [eA]; exact hr) (okCons hok (okCons (decide_eq_false (by omega)) (okCons ka (okCons (decide_eq_true hm2) (okCons (decide_eq_false hm1) (okCons (beq_f hi) (okCons (by decide) (okCons (decide_eq_false (by omega)) (okL1 ka))))))))))) (by rfl) (by rfl) w
      | false =>
        rw [if_neg (by simp)]
        exact fits_calls T0 (ow_f2ffx a m V t) (okCons (by rw [eA]; exact hL) (okCons (by rw [eA]; exact hr) (okCons hok (okCons (decide_eq_false (by omega)) (okCons ka (okCons (decide_eq_true hm2) (okCons (decide_eq_false hm1) (okCons (beq_f hi) (okCons (by decide) (okCons (decide_eq_false (by omega)) (okL1 ka))))))))))) (by rfl) (by rfl) w
  have hV : toQ m (sgn a) (sg a).toNat (xp a) 0 = V := hVV.symm
  cases hr : rowTo m (sgn a) (sg a).toNat (d16 (sg a).toNat).length (xp a) 0 with
  | true =>
    cases e with
    | true =>
      cases t with
      | true => exact fits_calls T0 (ow_f3ttt a m V) (okCons (decide_eq_true (vO_aP (V := V) rfl)) (okCons (oRo (V := V) rfl (by omega) ⟨by omega, by omega⟩) (okCons (decide_eq_true (by rw [eA]; exact hV)) (okCons (by rw [eA]; exact hL) (okCons (by rw [eA]; exact hr) (okCons hok (okCons (decide_eq_false (by omega)) (okCons ka (okCons (decide_eq_false hm2) (okCons (decide_eq_false hm1) (okCons (beq_f hi) (okCons (by decide) (okCons (decide_eq_false (by omega)) (okL1 ka)))))))))))))) (by rfl) (by rfl) w
      | false => exact fits_calls T0 (ow_f3ttf a m V) (okCons (decide_eq_true (vO_aP (V := V) rfl)) (okCons (oRo (V := V) rfl (by omega) ⟨by omega, by omega⟩) (okCons (decide_eq_true (by rw [eA]; exact hV)) (okCons (by rw [eA]; exact hL) (okCons (by rw [eA]; exact hr) (okCons hok (okCons (decide_eq_false (by omega)) (okCons ka (okCons (decide_eq_false hm2) (okCons (decide_eq_false hm1) (okCons (beq_f hi) (okCons (by decide) (okCons (decide_eq_false (by omega)) (okL1 ka)))))))))))))) (by rfl) (by rfl) w
    | false =>
      rw [if_neg (by simp)]
      exact fits_calls T0 (ow_f3tfx a m V t) (okCons (decide_eq_true (vO_aP (V := V) rfl)) (okCons (oRo (V := V) rfl (by omega) ⟨by omega, by omega⟩) (okCons (decide_eq_true (by rw [eA]; exact hV)) (okCons (by rw [eA]; exact hL) (okCons (by rw [eA]; exact hr) (okCons hok (okCons (decide_eq_false (by omega)) (okCons ka (okCons (decide_eq_false hm2) (okCons (decide_eq_false hm1) (okCons (beq_f hi) (okCons (by decide) (okCons (decide_eq_false (by omega)) (okL1 ka)))))))))))))) (by rfl) (by rfl) w
  | false =>
    rw [hz m hV hr]
    cases e with
    | true =>
      cases t with
      | true => exact fits_calls T0 (ow_f3ftt a m V) (okCons (by rw [eA]; exact hL) (okCons (by rw [eA]; exact hr) (okCons hok (okCons (decide_eq_false (by omega)) (okCons ka (okCons (decide_eq_false hm2) (okCons (decide_eq_false hm1) (okCons (beq_f hi) (okCons (by decide) (okCons (decide_eq_false (by omega)) (okL1 ka))))))))))) (by rfl) (by rfl) w
      | false => exact fits_calls T0 (ow_f3ftf a m V) (okCons (by rw [eA]; exact hL) (okCons (by rw [eA]; exact hr) (okCons hok (okCons (decide_eq_false (by omega)) (okCons ka (okCons (decide_eq_false hm2) (okCons (decide_eq_false hm1) (okCons (beq_f hi) (okCons (by decide) (okCons (decide_eq_false (by omega)) (okL1 ka))))))))))) (by rfl) (by rfl) w
    | false =>
      rw [if_neg (by simp)]
      exact fits_calls T0 (ow_f3ffx a m V t) (okCons (by rw [eA]; exact hL) (okCons (by rw [eA]; exact hr) (okCons hok (okCons (decide_eq_false (by omega)) (okCons ka (okCons (decide_eq_false hm2) (okCons (decide_eq_false hm1) (okCons (beq_f hi) (okCons (by decide) (okCons (decide_eq_false (by omega)) (okL1 ka))))))))))) (by rfl) (by rfl) w
theorem rwhole_calls (a m : Int) (t : Bool) (ha : U a) (w : World) : Calls Try.prog 13 #[.int .u64 a, .int .i64 m, .bool t] w fun r w' => r = .returned (vWo m a t) ∧ Tidy w w' := by
  have T0 := tabH_ok conW8_ok hcW8_ok
  have ka : decide (U a) = true := decide_eq_true ha
  have ba := cl_bd a
  by_cases c2 : cl a ≤ 2
  · exact wo_fin8 a m t ha c2 w
  unfold vWo woP woF
  by_cases c3 : 3 < cl a
  · rw [if_pos c3, if_pos c3]
    by_cases a5 : cl a = 5
    · rw [if_pos a5]
      exact fits_calls T0 (ow_n1 a m t) (okCons (beq_t (by omega)) (okCons ka (okCons (decide_eq_true (by omega)) (okL1 ka)))) (by rfl) (by rfl) w
    · rw [if_neg a5]
      exact fits_calls T0 (ow_n0 a m t) (okCons (beq_f (by omega)) (okCons ka (okCons (beq_f (by omega)) (okCons ka (okCons (decide_eq_true (by omega)) (okL1 ka)))))) (by rfl) (by rfl) w
  · have a3 : cl a = 3 := by omega
    rw [if_neg c3, if_neg c3, if_pos a3, if_pos a3]
    have hi : a.tmod 9223372036854775808 = 9218868437227405312 := by
      have := (mag_cl a).2.1.1 a3
      rw [Int.tmod_eq_emod_of_nonneg ha.1]
      exact this
    exact fits_calls T0 (ow_i a m t) (okCons (beq_t hi) (okCons (by decide) (okCons (decide_eq_false (by omega)) (okL1 ka)))) (by rfl) (by rfl) w
def gOw : Ans := fun vals s =>
  match vals with
  | [.int .u64 a, .int .i64 m, .bool t] => some (vWo m a t, s, [(decide (U a), true)])
  | _ => none
theorem gOw_ok : AnsOk 13 gOw := by
  intro vals s v s' lg h hl w
  unfold gOw at h
  split at h
  · cases h
    exact rwhole_calls _ _ _ (of_decide_eq_true (hl _ (List.mem_singleton.2 rfl))) w
  · cases h
end Go.Proofs.Ytbcpnpchioncbaa

/-
  The law's own 'sure' (stage 8); what the laws of rests and whole numbers call.
-/
namespace Go.Proofs.Ytbcpnpchioncbaa
open Go.KRun Go.Wd Go.Pt Go.Rn
set_option maxRecDepth 100000

theorem sure8_n : reP 4617315517961601024 4613937818241073152 = 13830554455654793216 ∧ moF 4617315517961601024 4613937818241073152 = 0 ∧ moP 4617315517961601024 4613937818241073152 = 4611686018427387904 ∧ woP 0 4612811918334230528 = 4611686018427387904 ∧ woF 4612811918334230528 true = 16 := ⟨by kernel_rfl, by kernel_rfl, by kernel_rfl, by kernel_rfl, by kernel_rfl⟩
theorem sure8 : Fits (reckon (tabOf Try.prog extY conW3 true) 300 11 [] [cmp true, cmp true, cmp true, cmp true, cmp true, cmp true]) (.bool true) [(woF 4612811918334230528 true == 16, true), (woP 0 4612811918334230528 == 4611686018427387904, true), (moF 4617315517961601024 4613937818241073152 == 0, true), (moP 4617315517961601024 4613937818241073152 == 4611686018427387904, true), (moF 4617315517961601024 4613937818241073152 == 0, true), (reP 4617315517961601024 4613937818241073152 == 13830554455654793216, true), (decide (U 4612811918334230528), true), (true, true), (decide (U 4617315517961601024 ∧ U 4613937818241073152), true), (true, true), (decide (U 4617315517961601024 ∧ U 4613937818241073152), true)] := ⟨by kernel_rfl, by kernel_rfl, by kernel_rfl, by kernel_rfl⟩
def gSure8 : Ans := fun vals s => match vals with | [] => some (.bool true, s, []) | _ => none
theorem gSure8_ok : AnsOk 11 gSure8 := by
  intro vals s v s' lg h hl w
  unfold gSure8 at h
  split at h
  · cases h
    obtain ⟨n1, n2, n3, n4, n5⟩ := sure8_n
    exact fits_calls (tabY_ok conW3_ok) sure8 (okCons (beq_t n5) (okCons (beq_t n4) (okCons (beq_t n2) (okCons (beq_t n3) (okCons (beq_t n2) (okCons (beq_t n1) (okCons (by decide) (okCons rfl (okCons (by decide) (okCons rfl (okL1 (by decide))))))))))) ) (by rfl) (by rfl) w
  · cases h
def conS8 : Con := alt 11 gSure8 conW3
theorem conS8_ok : ConOk conS8 := alt_ok Try.func11 rfl gSure8_ok conW3_ok
end Go.Proofs.Ytbcpnpchioncbaa

/-
  Rests and whole numbers, in plain terms.
-/
namespace Go.Proofs.Ytbcpnpchioncbaa
open Go.KRun Go.Wd Go.Pt Go.Rn
set_option maxRecDepth 100000

def conL8 : Con := alt 20 (gU vT) conS8
theorem conL8_ok : ConOk conL8 := alt_ok Try.func20 rfl ref_ok conS8_ok
theorem ng_same {p : Int} (hp : U p) : cl (ng p) = cl p ∧ sg (ng p) = sg p ∧ xp (ng p) = xp p := by
  obtain ⟨_, _, h3, h4, _⟩ := ng_parts hp
  unfold cl sg xp
  rw [h3, h4]
  exact ⟨rfl, rfl, rfl⟩
theorem wl_same {a a' b b' : Int} (h1 : sg a' = sg a) (h2 : xp a' = xp a) (h3 : sg b' = sg b) (h4 : xp b' = xp b) : wlE a' b' = wlE a b ∧ rsM a' b' = rsM a b ∧ rsB a' b' = rsB a b ∧ rsR a' b' = rsR a b := by
  have e0 : wlE a' b' = wlE a b := by unfold wlE; rw [h2, h4]
  have eU : wlU a' b' = wlU a b := by unfold wlU; rw [e0, h1, h2]
  have eV : wlV a' b' = wlV a b := by unfold wlV; rw [e0, h3, h4]
  have eM : rsM a' b' = rsM a b := by unfold rsM; rw [eU, eV]
  have eB : rsB a' b' = rsB a b := by unfold rsB; rw [eU, eV, eM]
  exact ⟨e0, eM, eB, by unfold rsR; rw [eB, eV, eM]⟩
theorem rest_fin {a b : Int} (ha : cl a ≤ 2) (hb : cl b ≤ 2) (hz : cl b ≠ 0) : moP a b = sS (sgn a) (mdP a b) ∧ reP a b = sS (sgn a != rsB a b) (rmP a b) ∧ moF a b = 0 := by
  have h1 : ¬ (3 < cl a ∨ 3 < cl b) := by omega
  have h2 : ¬ (cl a = 3 ∨ cl b = 0) := by omega
  have h3 : ¬ cl b = 3 := by omega
  unfold moP reP moF
  rw [if_neg h1, if_neg h2, if_neg h3, if_neg h1, if_neg h2, if_neg h3, if_neg h1, if_neg h2]
  exact ⟨rfl, rfl, rfl⟩
theorem fin_mag {p : Int} (h : cl p ≤ 2) : mag p < 9218868437227405312 := (mag_cl p).2.2.1 h
theorem mo_sign {a b : Int} (ha : U a) (hb : U b) : moF a (ng b) = moF a b ∧ moF (ng a) b = moF a b := by
  unfold moF
  rw [(ng_same ha).1, (ng_same hb).1]
  exact ⟨rfl, rfl⟩
def nan8 : Int := 9221120237041090560
theorem re_U {a b : Int} (ha : U a) : U (reP a b) ∧ U (moP a b) := by
  by_cases h : cl a ≤ 2 ∧ cl b ≤ 2 ∧ cl b ≠ 0
  · obtain ⟨e1, e2, _⟩ := rest_fin h.1 h.2.1 h.2.2
    have nz : sg b ≠ 0 := fun h0 => h.2.2 ((sg_zero h.2.1).1 h0)
    have fb := fin_ex h.2.1
    obtain ⟨_, _, r0, r1, _⟩ := rm_num (a := a) nz fb 0 false
    obtain ⟨_, _, m0, m1, _⟩ := md_num (a := a) nz fb 0 false
    have mb := mag_lt (p := b)
    rw [e1, e2]
    exact ⟨(sS_mag r0 (by omega)).2.2.1, (sS_mag m0 (by omega)).2.2.1⟩
  · have c := cl_bd b
    have nb : U 9221120237041090560 := by decide
    unfold reP moP
    constructor
    · split
      · exact nb
      · split
        · exact nb
        · rw [if_pos (by omega)]; exact ha
    · split
      · exact nb
      · split
        · exact nb
        · rw [if_pos (by omega)]; exact ha
theorem rest_signs {a b : Int} (ha : U a) (hb : U b) :
    (reP a b = nan8 ∧ reP a (ng b) = reP a b ∧ reP (ng a) b = reP a b ∧ moP a b = reP a b ∧ moP a (ng b) = reP a b ∧ moP (ng a) b = reP a b) ∨
    (reP a b ≠ nan8 ∧ reP a (ng b) = reP a b ∧ reP (ng a) b = ng (reP a b) ∧ moP a (ng b) = moP a b ∧ moP (ng a) b = ng (moP a b)) := by
  obtain ⟨na1, na2, na3⟩ := ng_same ha
  obtain ⟨nb1, nb2, nb3⟩ := ng_same hb
  obtain ⟨_, sa, _⟩ := ng_parts ha
  by_cases h1 : (3 < cl a ∨ 3 < cl b) ∨ (cl a = 3 ∨ cl b = 0)
  · left
    have key : ∀ a' b', cl a' = cl a → cl b' = cl b → reP a' b' = nan8 ∧ moP a' b' = nan8 := fun a' b' e1 e2 => by
      unfold reP moP
      rw [e1, e2]
      by_cases h : 3 < cl a ∨ 3 < cl b
      · rw [if_pos h, if_pos h]; exact ⟨rfl, rfl⟩
      · rw [if_neg h, if_neg h]
        rcases h1 with h1 | h1
        · exact absurd h1 h
        · rw [if_pos h1, if_pos h1]; exact ⟨rfl, rfl⟩
    obtain ⟨k1, k2⟩ := key a b rfl rfl
    obtain ⟨k3, k4⟩ := key a (ng b) rfl nb1
    obtain ⟨k5, k6⟩ := key (ng a) b na1 rfl
    rw [k1, k2, k3, k4, k5, k6]
    exact ⟨rfl, rfl, rfl, rfl, rfl, rfl⟩
  · right
    have n1 : ¬ (3 < cl a ∨ 3 < cl b) := fun h => h1 (.inl h)
    have n2 : ¬ (cl a = 3 ∨ cl b = 0) := fun h => h1 (.inr h)
    by_cases b3 : cl b = 3
    · have key : ∀ a' b', cl a' = cl a → cl b' = cl b → reP a' b' = a' ∧ moP a' b' = a' := fun a' b' e1 e2 => by
        unfold reP moP
        rw [e1, e2, if_neg n1, if_neg n2, if_pos b3, if_neg n1, if_neg n2, if_pos b3]
        exact ⟨rfl, rfl⟩
      obtain ⟨k1, k2⟩ := key a b rfl rfl
      obtain ⟨k3, k4⟩ := key a (ng b) rfl nb1
      obtain ⟨k5, k6⟩ := key (ng a) b na1 rfl
      rw [k1, k2, k3, k4, k5, k6]
      refine ⟨fun h => ?_, rfl, rfl, rfl, rfl⟩
      have := fin_mag (p := a) (by omega)
      rw [h] at this
      exact absurd this (by decide)
    · have c2 : cl a ≤ 2 := by omega
      have d2 : cl b ≤ 2 := by omega
      have dz : cl b ≠ 0 := by omega
      have nz : sg b ≠ 0 := fun h0 => dz ((sg_zero d2).1 h0)
      have fb := fin_ex d2
      have mb := fin_mag d2
      obtain ⟨e1, e2, _⟩ := rest_fin c2 d2 dz
      obtain ⟨f1, f2, _⟩ := rest_fin (a := a) (b := ng b) c2 (by omega) (by omega)
      obtain ⟨g1, g2, _⟩ := rest_fin (a := ng a) (b := b) (by omega) d2 dz
      obtain ⟨w1, w2, w3, w4⟩ := wl_same (a := a) (a' := a) (b := b) (b' := ng b) rfl rfl nb2 nb3
      obtain ⟨v1, v2, v3, v4⟩ := wl_same (a := a) (a' := ng a) (b := b) (b' := b) na2 na3 rfl rfl
      have rm := fun n => rm_num (a := a) nz fb 0 n
      have md := fun n => md_num (a := a) nz fb 0 n
      have p1 : rmP a (ng b) = rmP a b := by unfold rmP; rw [w1, w3, w4]
      have p2 : mdP a (ng b) = mdP a b := by unfold mdP; rw [w1, w2]
      have p3 : rmP (ng a) b = rmP a b := by
        rw [← (rm (sgn (ng a) != rsB a b)).2.1]
        unfold rmP
        rw [v1, v3, v4]
      have p4 : mdP (ng a) b = mdP a b := by
        rw [← (md (sgn (ng a))).2.1]
        unfold mdP
        rw [v1, v2]
      obtain ⟨_, _, r0, r1, _⟩ := rm false
      obtain ⟨_, _, m0, m1, _⟩ := md false
      rw [e1, e2, f1, f2, g1, g2, p1, p2, p3, p4, w3, v3, sa, ng_sS r0 (by omega), ng_sS m0 (by omega)]
      refine ⟨fun h => ?_, rfl, ?_, rfl, rfl⟩
      · have hm := (sS_mag (n := sgn a != rsB a b) r0 (by omega)).1
        rw [h] at hm
        have : mag nan8 = 9221120237041090560 := by decide
        omega
      · cases sgn a <;> cases rsB a b <;> rfl
/-! ### rounded to a whole number -/
theorem wh_fin (m : Int) {a : Int} (ha : cl a ≤ 2) : woP m a = sS (sgn a) (whP m a) ∧ 0 ≤ whP m a ∧ whP m a < 9218868437227405312 ∧ woF a false = 0 := by
  have h1 : ¬ 3 < cl a := by omega
  have h2 : ¬ cl a = 3 := by omega
  have hm := fin_mag ha
  have ml := mag_lt (p := a)
  obtain ⟨j, hj⟩ : ∃ j : Nat, (j : Int) = 1074 := ⟨1074, rfl⟩
  unfold woP woF
  rw [if_neg h1, if_neg h2, if_neg h1, if_neg h2, if_neg (by simp)]
  by_cases h0 : 0 ≤ xp a
  · have e : whP m a = mag a := by unfold whP; rw [if_pos h0]
    rw [e]
    exact ⟨rfl, by omega, by omega, rfl⟩
  · obtain ⟨_, q1, q2⟩ := wh_num (m := m) (a := a) hj (by omega)
    exact ⟨rfl, q1, by omega, rfl⟩
/-- its number is a whole one -/
theorem wh_whole (m : Int) {a : Int} {j : Nat} (hj : (j : Int) = 1074) : ∃ W, uV (whP m a) = W * 2 ^ j := by
  by_cases h0 : 0 ≤ xp a
  · have e : whP m a = mag a := by unfold whP; rw [if_pos h0]
    refine ⟨(sg a).toNat * 2 ^ (xp a).toNat, ?_⟩
    rw [e, uV_mag]
    unfold uV szF
    rw [Nat.mul_assoc, ← Nat.pow_add]
    congr 2
    omega
  · exact ⟨_, (wh_num (m := m) (a := a) hj (by omega)).1⟩
theorem wh_again (m : Int) {a : Int} (ha : cl a ≤ 2) : U (woP m a) ∧ woP m (woP m a) = woP m a ∧ woF (woP m a) true = 0 ∧ sgn (woP m a) = sgn a ∧ mag (woP m a) = whP m a := by
  obtain ⟨e, p0, p1, _⟩ := wh_fin m ha
  obtain ⟨s1, s2, s3, s4⟩ := sS_mag (n := sgn a) p0 (by omega)
  obtain ⟨j, hj⟩ : ∃ j : Nat, (j : Int) = 1074 := ⟨1074, rfl⟩
  obtain ⟨W, hW⟩ := wh_whole m (a := a) hj
  have c2 : cl (woP m a) ≤ 2 := by rw [e]; exact (mag_cl _).2.2.2 (by rw [s1]; exact p1)
  have fp := fin_ex c2
  obtain ⟨t1, t2⟩ := wh_stays (m := m) (p := woP m a) hj fp (by rw [e, s4]; exact hW)
  obtain ⟨e', _, _, _⟩ := wh_fin m c2
  have eU : U (woP m a) := by rw [e]; exact s3
  have eL : Go.Rn.whL (woP m a) = false := by
    by_cases h0 : 0 ≤ xp (woP m a)
    · unfold Go.Rn.whL toL; rw [if_pos h0]
    · exact t2 (by omega)
  refine ⟨eU, ?_, ?_, by rw [e]; exact s2, by rw [e]; exact s1⟩
  · rw [e', t1]; exact sS_own eU
  · unfold woF
    rw [if_neg (by omega), if_neg (by omega), if_neg (by rw [eL]; simp)]
theorem wh_order {a : Int} (m : Int) (ha : cl a ≤ 2) : (whP m a = whP 4 a ∨ whP m a = whP 3 a) ∧ (sgn a = false → whP 4 a ≤ mag a ∧ mag a ≤ whP 3 a) ∧ (sgn a = true → mag a ≤ whP 4 a ∧ whP 3 a ≤ mag a) := by
  by_cases h0 : 0 ≤ xp a
  · have e : ∀ k, whP k a = mag a := fun k => by unfold whP; rw [if_pos h0]
    rw [e, e, e]
    exact ⟨.inl rfl, fun _ => ⟨by omega, by omega⟩, fun _ => ⟨by omega, by omega⟩⟩
  · have hx : xp a < 0 := by omega
    have xb := xp_bd a
    obtain ⟨j, hj⟩ : ∃ j : Nat, (j : Int) = 1074 := ⟨1074, rfl⟩
    have e : ∀ k, whP k a = rnP 0 (sgn a) (Go.Rn.whQ k a) 0 := fun k => by unfold whP; rw [if_neg h0]
    have num : ∀ k, uV (whP k a) = Go.Rn.whQ k a * 2 ^ j ∧ 0 ≤ whP k a ∧ whP k a ≤ 4845873199050653696 := fun k => wh_num hj hx
    have ma := mag_lt (p := a)
    have fa := fin_mag ha
    have ua : uV a = (sg a).toNat * 2 ^ (xp a - -1074).toNat := rfl
    have hpow : 2 ^ j = 2 ^ (0 - xp a).toNat * 2 ^ (xp a - -1074).toNat := by rw [← Nat.pow_add]; congr 1; omega
    have up : ∀ k, (sg a).toNat ≤ Go.Rn.whQ k a * 2 ^ (0 - xp a).toNat → mag a ≤ whP k a := fun k h => by
      refine uV_le (num k).2.1 fa ?_
      rw [uV_mag, (num k).1, hpow, ← Nat.mul_assoc, ua]
      exact Nat.mul_le_mul_right _ h
    have dn : ∀ k, Go.Rn.whQ k a * 2 ^ (0 - xp a).toNat ≤ (sg a).toNat → whP k a ≤ mag a := fun k h => by
      have := (num k).2.2
      refine uV_le ma.1 (by omega) ?_
      rw [uV_mag, (num k).1, hpow, ← Nat.mul_assoc, ua]
      exact Nat.mul_le_mul_right _ h
    rcases wh_sides hx with ⟨_, q, hs⟩ | ⟨_, q, q3, q4, l1, l2⟩
    · refine ⟨.inl (by rw [e, e, q, q]), fun _ => ⟨dn 4 (by rw [q]; omega), up 3 (by rw [q]; omega)⟩, fun _ => ⟨up 4 (by rw [q]; omega), dn 3 (by rw [q]; omega)⟩⟩
    · cases hs : sgn a with
      | true =>
        rw [hs] at q3 q4
        simp only [if_true, Nat.add_zero] at q3 q4
        refine ⟨?_, fun h => (by cases h), fun _ => ⟨up 4 (by rw [q4]; omega), dn 3 (by rw [q3]; omega)⟩⟩
        rcases q m with h | h
        · right; rw [e, e, h, q3]
        · left; rw [e, e, h, q4]
      | false =>
        rw [hs] at q3 q4
        simp only [Bool.false_eq_true, if_false, Nat.add_zero] at q3 q4
        refine ⟨?_, fun _ => ⟨dn 4 (by rw [q4]; omega), up 3 (by rw [q3]; omega)⟩, fun h => by cases h⟩
        rcases q m with h | h
        · left; rw [e, e, h, q4]
        · right; rw [e, e, h, q3]
end Go.Proofs.Ytbcpnpchioncbaa
