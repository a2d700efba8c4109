/-
  The document's whole numbers of the machine (tillerref11.To, tillerref11.Of), as calls in every world.
-/
import Derived.Test.YtmfgjfnhonohjaaG33
import Derived.Test.YtmfgjfnhonohjaaG09
import Derived.Test.YtmfgjfnhonohjaaG19
namespace Go.Proofs.Ytmfgjfnhonohjaa
open Go.KRun Go.Nt Go.Wd Go.Pt Go.Rn
set_option maxRecDepth 100000

def I1 (p : Int) : Hp := ⟨1, [w16 (sg p).toNat]⟩
def I2 (p : Int) (B : Nat) : Hp := ⟨2, [w16 B, w16 (sg p).toNat]⟩
def I3 (p : Int) (V B : Nat) : Hp := ⟨3, [w16 B, w16 V, w16 (sg p).toNat]⟩
def IO (x : Int) : Hp := ⟨1, [w16 x.toNat]⟩
theorem rowS_d {h : Hp} {b V : Nat} (hb : h.blk? b = some (wU (d16 V), tU)) (hl : (d16 V).length < 100000) : rowS h (aP16 b) (d16 V).length (d16 V).length = true := by
  unfold rowS aP16
  rw [rowP_d16 hb (by omega), dgB_d16 hb, blt_iff.2 (by omega)]
  rfl
theorem rowS_nil (h : Hp) : rowS h none 0 0 = true := rfl
theorem two_nilI {h : Hp} {b W : Nat} (hb : h.blk? b = some (wU (d16 W), tU)) (hl : (d16 W).length < 100000) : two16 h none (aP16 b) 0 0 (d16 W).length (d16 W).length = true := by
  unfold two16 aP16
  rw [rowP_d16 hb (by omega), dgB_d16 hb, blt_iff.2 (by omega)]
  rfl
theorem nil_zeroI {m : Int} {n : Bool} {V : Nat} {E : Int} (h : rowTo m n V (d16 V).length E 0 = false) : toQ m n V E 0 = 0 := by
  unfold rowTo at h
  by_cases hE : (0 : Int) ≤ E
  · rw [if_pos hE] at h
    have h0 := of_decide_eq_false h
    rw [d16_iff] at h0
    unfold toQ
    rw [if_pos hE, show V = 0 by omega, Nat.zero_mul]
  rw [if_neg hE] at h
  simp only [Bool.or_eq_false_iff, decide_eq_false_iff_not] at h
  unfold toQ
  rw [if_neg hE]
  have hlt : V < 2 ^ (0 - E).toNat := by
    have h1 := vb_lt (b := 65536) (by omega) (d16 V) (d16_dg V)
    have h2 : vb 65536 (d16 V) = V := vb_db (by omega) V
    rw [h2, pow16] at h1
    exact Nat.lt_of_lt_of_le h1 (Nat.pow_le_pow_right (by omega) (by omega))
  have hd : V / 2 ^ (0 - E).toNat = 0 := Nat.div_eq_of_lt hlt
  unfold rq
  by_cases hz : V % 2 ^ (0 - E).toNat = 0
  · rw [hd, hz, restC_zero, upR_zero]; rfl
  · have h3 := h.2
    rw [decide_eq_true hz, Bool.true_and] at h3
    rw [h3, hd]; rfl
theorem whQ_len {m p : Int} : (d16 (Go.Rn.whQ m p)).length < 20000 := by
  obtain ⟨k, hk⟩ : ∃ k, k = 66 := ⟨_, rfl⟩
  have xb := xp_bd p
  have sb := sg_lt p
  have hQ : Go.Rn.whQ m p < 2 ^ (16 * k) := by
    by_cases h : xp p < 0
    · have := whQ_bd (m := m) h
      exact Nat.lt_of_le_of_lt this (Nat.lt_of_lt_of_le (show 4503599627370496 < 2 ^ 53 by decide) (Nat.pow_le_pow_right (by omega) (by omega)))
    · unfold Go.Rn.whQ toQ
      rw [if_pos (by omega)]
      refine Nat.lt_of_lt_of_le (Nat.mul_lt_mul_of_pos_right (show (sg p).toNat < 2 ^ 53 from ?_) (Nat.pow_pos (by omega))) ?_
      · have : (2 : Nat) ^ 53 = 9007199254740992 := rfl
        omega
      · rw [← Nat.pow_add]
        exact Nat.pow_le_pow_right (by omega) (by omega)
  have := d16_len hQ
  omega
theorem cmpZ_iff {V B : Nat} : cmpZ V B > 0 ↔ B < V := by
  unfold cmpZ
  split
  · omega
  · split <;> omega
theorem dt_n (p m : Int) (t : Bool) (L M : Int) : Fits (reckon (tabH Try.prog extY conIE hcIE) 300 13 [.int .u64 p, .int .i64 m, .bool t, .int .u64 L, .int .u64 M] [cmp true]) (.tuple #[.bool false, .int .u64 0, .int .i64 1]) [(decide (cl p > 3), true), lU p] := ⟨by kernel_rfl, by kernel_rfl, by kernel_rfl, by kernel_rfl⟩
theorem dt_it (p m : Int) (t : Bool) (L M : Int) : Fits (reckon (tabH Try.prog extY conIE hcIE) 300 13 [.int .u64 p, .int .i64 m, .bool t, .int .u64 L, .int .u64 M] [cmp false, cmp true, cmp false]) (.tuple #[.bool true, .int .u64 L, .int .i64 1]) [(decide (cl p < 3), false), lU p, (decide (p ≥ 9223372036854775808), true), (decide (cl p > 3), false), lU p] := ⟨by kernel_rfl, by kernel_rfl, by kernel_rfl, by kernel_rfl⟩
theorem dt_t1to (p m : Int) (t : Bool) (L M : Int) (V : Nat) (c : Int) (e : Bool) : Fits (reckon (tabH Try.prog extY conIE hcIE) 300 13 [.int .u64 p, .int .i64 m, .bool t, .int .u64 L, .int .u64 M] [cmp false, cmp true, cmp true, cmp true, cmp true, cmp e, num V, num c, cmp true]) (.tuple #[.bool true, .int .u64 L, .int .i64 1]) [(decide (c > 0), true), (decide (cmpZ (vO (I3 p V L.toNat) (aP16 1) (d16 V).length) (vO (I3 p V L.toNat) (aP16 2) (d16 L.toNat).length) = c), true), (two16 (I3 p V L.toNat) (aP16 1) (aP16 2) (d16 V).length (d16 V).length (d16 L.toNat).length (d16 L.toNat).length, true), (decide (0 ≤ L ∧ L < 18446744073709551616), true), (decide (toQ 0 (sgn p) (vO (I1 p) (aP16 0) (d16 (sg p).toNat).length) (xp p) 0 = V), true), (toL (vO (I1 p) (aP16 0) (d16 (sg p).toNat).length) (xp p) 0, e), (rowTo 0 (sgn p) (vO (I1 p) (aP16 0) (d16 (sg p).toNat).length) (d16 (sg p).toNat).length (xp p) 0, true), (okTo (I1 p) (aP16 0) (d16 (sg p).toNat).length (d16 (sg p).toNat).length (xp p) 0, true), lU p, (decide (m < 0), true), (decide (cl p < 3), true), lU p, (decide (p ≥ 9223372036854775808), true), (decide (cl p > 3), false), lU p] := ⟨by kernel_rfl, by kernel_rfl, by kernel_rfl, by kernel_rfl⟩
theorem dt_t1ttt (p m : Int) (L M : Int) (V : Nat) (c : Int) : Fits (reckon (tabH Try.prog extY conIE hcIE) 300 13 [.int .u64 p, .int .i64 m, .bool true, .int .u64 L, .int .u64 M] [cmp false, cmp true, cmp true, cmp true, cmp true, cmp true, num V, num c, cmp false]) (.tuple #[.bool true, .int .u64 ((vO (I3 p V L.toNat) (aP16 1) (d16 V).length % 18446744073709551616 : Nat) : Int), .int .i64 16]) [(rowS (I3 p V L.toNat) (aP16 1) (d16 V).length (d16 V).length, true), (decide (c > 0), false), (decide (cmpZ (vO (I3 p V L.toNat) (aP16 1) (d16 V).length) (vO (I3 p V L.toNat) (aP16 2) (d16 L.toNat).length) = c), true), (two16 (I3 p V L.toNat) (aP16 1) (aP16 2) (d16 V).length (d16 V).length (d16 L.toNat).length (d16 L.toNat).length, true), (decide (0 ≤ L ∧ L < 18446744073709551616), true), (decide (toQ 0 (sgn p) (vO (I1 p) (aP16 0) (d16 (sg p).toNat).length) (xp p) 0 = V), true), (toL (vO (I1 p) (aP16 0) (d16 (sg p).toNat).length) (xp p) 0, true), (rowTo 0 (sgn p) (vO (I1 p) (aP16 0) (d16 (sg p).toNat).length) (d16 (sg p).toNat).length (xp p) 0, true), (okTo (I1 p) (aP16 0) (d16 (sg p).toNat).length (d16 (sg p).toNat).length (xp p) 0, true), lU p, (decide (m < 0), true), (decide (cl p < 3), true), lU p, (decide (p ≥ 9223372036854775808), true), (decide (cl p > 3), false), lU p] := ⟨by kernel_rfl, by kernel_rfl, by kernel_rfl, by kernel_rfl⟩
theorem dt_t1ttf (p m : Int) (L M : Int) (V : Nat) (c : Int) : Fits (reckon (tabH Try.prog extY conIE hcIE) 300 13 [.int .u64 p, .int .i64 m, .bool false, .int .u64 L, .int .u64 M] [cmp false, cmp true, cmp true, cmp true, cmp true, cmp true, num V, num c, cmp false]) (.tuple #[.bool true, .int .u64 ((vO (I3 p V L.toNat) (aP16 1) (d16 V).length % 18446744073709551616 : Nat) : Int), .int .i64 0]) [(rowS (I3 p V L.toNat) (aP16 1) (d16 V).length (d16 V).length, true), (decide (c > 0), false), (decide (cmpZ (vO (I3 p V L.toNat) (aP16 1) (d16 V).length) (vO (I3 p V L.toNat) (aP16 2) (d16 L.toNat).length) = c), true), (two16 (I3 p V L.toNat) (aP16 1) (aP16 2) (d16 V).length (d16 V).length (d16 L.toNat).length (d16 L.toNat).length, true), (decide (0 ≤ L ∧ L < 18446744073709551616), true), (decide (toQ 0 (sgn p) (vO (I1 p) (aP16 0) (d16 (sg p).toNat).length) (xp p) 0 = V), true), (toL (vO (I1 p) (aP16 0) (d16 (sg p).toNat).length) (xp p) 0, true), (rowTo 0 (sgn p) (vO (I1 p) (aP16 0) (d16 (sg p).toNat).length) (d16 (sg p).toNat).length (xp p) 0, true), (okTo (I1 p) (aP16 0) (d16 (sg p).toNat).length (d16 (sg p).toNat).length (xp p) 0, true), lU p, (decide (m < 0), true), (decide (cl p < 3), true), lU p, (decide (p ≥ 9223372036854775808), true), (decide (cl p > 3), false), lU p] := ⟨by kernel_rfl, by kernel_rfl, by kernel_rfl, by kernel_rfl⟩
theorem dt_t1tfx (p m : Int) (t : Bool) (L M : Int) (V : Nat) (c : Int) : Fits (reckon (tabH Try.prog extY conIE hcIE) 300 13 [.int .u64 p, .int .i64 m, .bool t, .int .u64 L, .int .u64 M] [cmp false, cmp true, cmp true, cmp true, cmp true, cmp false, num V, num c, cmp false]) (.tuple #[.bool true, .int .u64 ((vO (I3 p V L.toNat) (aP16 1) (d16 V).length % 18446744073709551616 : Nat) : Int), .int .i64 0]) [(rowS (I3 p V L.toNat) (aP16 1) (d16 V).length (d16 V).length, true), (decide (c > 0), false), (decide (cmpZ (vO (I3 p V L.toNat) (aP16 1) (d16 V).length) (vO (I3 p V L.toNat) (aP16 2) (d16 L.toNat).length) = c), true), (two16 (I3 p V L.toNat) (aP16 1) (aP16 2) (d16 V).length (d16 V).length (d16 L.toNat).length (d16 L.toNat).length, true), (decide (0 ≤ L ∧ L < 18446744073709551616), true), (decide (toQ 0 (sgn p) (vO (I1 p) (aP16 0) (d16 (sg p).toNat).length) (xp p) 0 = V), true), (toL (vO (I1 p) (aP16 0) (d16 (sg p).toNat).length) (xp p) 0, false), (rowTo 0 (sgn p) (vO (I1 p) (aP16 0) (d16 (sg p).toNat).length) (d16 (sg p).toNat).length (xp p) 0, true), (okTo (I1 p) (aP16 0) (d16 (sg p).toNat).length (d16 (sg p).toNat).length (xp p) 0, true), lU p, (decide (m < 0), true), (decide (cl p < 3), true), lU p, (decide (p ≥ 9223372036854775808), true), (decide (cl p > 3), false), lU p] := ⟨by kernel_rfl, by kernel_rfl, by kernel_rfl, by kernel_rfl⟩
theorem dt_t1fo (p m : Int) (t : Bool) (L M : Int) (V : Nat) (c : Int) (e : Bool) : Fits (reckon (tabH Try.prog extY conIE hcIE) 300 13 [.int .u64 p, .int .i64 m, .bool t, .int .u64 L, .int .u64 M] [cmp false, cmp true, cmp true, cmp true, cmp false, cmp e, num V, num c, cmp true]) (.tuple #[.bool true, .int .u64 L, .int .i64 1]) [(decide (c > 0), true), (decide (cmpZ (vO (I2 p L.toNat) none 0) (vO (I2 p L.toNat) (aP16 1) (d16 L.toNat).length) = c), true), (two16 (I2 p L.toNat) none (aP16 1) 0 0 (d16 L.toNat).length (d16 L.toNat).length, true), (decide (0 ≤ L ∧ L < 18446744073709551616), true), (toL (vO (I1 p) (aP16 0) (d16 (sg p).toNat).length) (xp p) 0, e), (rowTo 0 (sgn p) (vO (I1 p) (aP16 0) (d16 (sg p).toNat).length) (d16 (sg p).toNat).length (xp p) 0, false), (okTo (I1 p) (aP16 0) (d16 (sg p).toNat).length (d16 (sg p).toNat).length (xp p) 0, true), lU p, (decide (m < 0), true), (decide (cl p < 3), true), lU p, (decide (p ≥ 9223372036854775808), true), (decide (cl p > 3), false), lU p] := ⟨by kernel_rfl, by kernel_rfl, by kernel_rfl, by kernel_rfl⟩
theorem dt_t1ftt (p m : Int) (L M : Int) (V : Nat) (c : Int) : Fits (reckon (tabH Try.prog extY conIE hcIE) 300 13 [.int .u64 p, .int .i64 m, .bool true, .int .u64 L, .int .u64 M] [cmp false, cmp true, cmp true, cmp true, cmp false, cmp true, num V, num c, cmp false]) (.tuple #[.bool true, .int .u64 ((vO (I2 p L.toNat) none 0 % 18446744073709551616 : Nat) : Int), .int .i64 16]) [(rowS (I2 p L.toNat) none 0 0, true), (decide (c > 0), false), (decide (cmpZ (vO (I2 p L.toNat) none 0) (vO (I2 p L.toNat) (aP16 1) (d16 L.toNat).length) = c), true), (two16 (I2 p L.toNat) none (aP16 1) 0 0 (d16 L.toNat).length (d16 L.toNat).length, true), (decide (0 ≤ L ∧ L < 18446744073709551616), true), (toL (vO (I1 p) (aP16 0) (d16 (sg p).toNat).length) (xp p) 0, true), (rowTo 0 (sgn p) (vO (I1 p) (aP16 0) (d16 (sg p).toNat).length) (d16 (sg p).toNat).length (xp p) 0, false), (okTo (I1 p) (aP16 0) (d16 (sg p).toNat).length (d16 (sg p).toNat).length (xp p) 0, true), lU p, (decide (m < 0), true), (decide (cl p < 3), true), lU p, (decide (p ≥ 9223372036854775808), true), (decide (cl p > 3), false), lU p] := ⟨by kernel_rfl, by kernel_rfl, by kernel_rfl, by kernel_rfl⟩
theorem dt_t1ftf (p m : Int) (L M : Int) (V : Nat) (c : Int) : Fits (reckon (tabH Try.prog extY conIE hcIE) 300 13 [.int .u64 p, .int .i64 m, .bool false, .int .u64 L, .int .u64 M] [cmp false, cmp true, cmp true, cmp true, cmp false, cmp true, num V, num c, cmp false]) (.tuple #[.bool true, .int .u64 ((vO (I2 p L.toNat) none 0 % 18446744073709551616 : Nat) : Int), .int .i64 0]) [(rowS (I2 p L.toNat) none 0 0, true), (decide (c > 0), false), (decide (cmpZ (vO (I2 p L.toNat) none 0) (vO (I2 p L.toNat) (aP16 1) (d16 L.toNat).length) = c), true), (two16 (I2 p L.toNat) none (aP16 1) 0 0 (d16 L.toNat).length (d16 L.toNat).length, true), (decide (0 ≤ L ∧ L < 18446744073709551616), true), (toL (vO (I1 p) (aP16 0) (d16 (sg p).toNat).length) (xp p) 0, true), (rowTo 0 (sgn p) (vO (I1 p) (aP16 0) (d16 (sg p).toNat).length) (d16 (sg p).toNat).length (xp p) 0, false), (okTo (I1 p) (aP16 0) (d16 (sg p).toNat).length (d16 (sg p).toNat).length (xp p) 0, true), lU p, (decide (m < 0), true), (decide (cl p < 3), true), lU p, (decide (p ≥ 9223372036854775808), true), (decide (cl p > 3), false), lU p] := ⟨by kernel_rfl, by kernel_rfl, by kernel_rfl, by kernel_rfl⟩
theorem dt_t1ffx (p m : Int) (t : Bool) (L M : Int) (V : Nat) (c : Int) : Fits (reckon (tabH Try.prog extY conIE hcIE) 300 13 [.int .u64 p, .int .i64 m, .bool t, .int .u64 L, .int .u64 M] [cmp false, cmp true, cmp true, cmp true, cmp false, cmp false, num V, num c, cmp false]) (.tuple #[.bool true, .int .u64 ((vO (I2 p L.toNat) none 0 % 18446744073709551616 : Nat) : Int), .int .i64 0]) [(rowS (I2 p L.toNat) none 0 0, true), (decide (c > 0), false), (decide (cmpZ (vO (I2 p L.toNat) none 0) (vO (I2 p L.toNat) (aP16 1) (d16 L.toNat).length) = c), true), (two16 (I2 p L.toNat) none (aP16 1) 0 0 (d16 L.toNat).length (d16 L.toNat).length, true), (decide (0 ≤ L ∧ L < 18446744073709551616), true), (toL (vO (I1 p) (aP16 0) (d16 (sg p).toNat).length) (xp p) 0, false), (rowTo 0 (sgn p) (vO (I1 p) (aP16 0) (d16 (sg p).toNat).length) (d16 (sg p).toNat).length (xp p) 0, false), (okTo (I1 p) (aP16 0) (d16 (sg p).toNat).length (d16 (sg p).toNat).length (xp p) 0, true), lU p, (decide (m < 0), true), (decide (cl p < 3), true), lU p, (decide (p ≥ 9223372036854775808), true), (decide (cl p > 3), false), lU p] := ⟨by kernel_rfl, by kernel_rfl, by kernel_rfl, by kernel_rfl⟩
theorem dt_t2to (p m : Int) (t : Bool) (L M : Int) (V : Nat) (c : Int) (e : Bool) : Fits (reckon (tabH Try.prog extY conIE hcIE) 300 13 [.int .u64 p, .int .i64 m, .bool t, .int .u64 L, .int .u64 M] [cmp false, cmp true, cmp true, cmp false, cmp true, cmp true, cmp e, num V, num c, cmp true]) (.tuple #[.bool true, .int .u64 L, .int .i64 1]) [(decide (c > 0), true), (decide (cmpZ (vO (I3 p V L.toNat) (aP16 1) (d16 V).length) (vO (I3 p V L.toNat) (aP16 2) (d16 L.toNat).length) = c), true), (two16 (I3 p V L.toNat) (aP16 1) (aP16 2) (d16 V).length (d16 V).length (d16 L.toNat).length (d16 L.toNat).length, true), (decide (0 ≤ L ∧ L < 18446744073709551616), true), (decide (toQ 0 (sgn p) (vO (I1 p) (aP16 0) (d16 (sg p).toNat).length) (xp p) 0 = V), true), (toL (vO (I1 p) (aP16 0) (d16 (sg p).toNat).length) (xp p) 0, e), (rowTo 0 (sgn p) (vO (I1 p) (aP16 0) (d16 (sg p).toNat).length) (d16 (sg p).toNat).length (xp p) 0, true), (okTo (I1 p) (aP16 0) (d16 (sg p).toNat).length (d16 (sg p).toNat).length (xp p) 0, true), lU p, (decide (m > 4), true), (decide (m < 0), false), (decide (cl p < 3), true), lU p, (decide (p ≥ 9223372036854775808), true), (decide (cl p > 3), false), lU p] := ⟨by kernel_rfl, by kernel_rfl, by kernel_rfl, by kernel_rfl⟩
theorem dt_t2ttt (p m : Int) (L M : Int) (V : Nat) (c : Int) : Fits (reckon (tabH Try.prog extY conIE hcIE) 300 13 [.int .u64 p, .int .i64 m, .bool true, .int .u64 L, .int .u64 M] [cmp false, cmp true, cmp true, cmp false, cmp true, cmp true, cmp true, num V, num c, cmp false]) (.tuple #[.bool true, .int .u64 ((vO (I3 p V L.toNat) (aP16 1) (d16 V).length % 18446744073709551616 : Nat) : Int), .int .i64 16]) [(rowS (I3 p V L.toNat) (aP16 1) (d16 V).length (d16 V).length, true), (decide (c > 0), false), (decide (cmpZ (vO (I3 p V L.toNat) (aP16 1) (d16 V).length) (vO (I3 p V L.toNat) (aP16 2) (d16 L.toNat).length) = c), true), (two16 (I3 p V L.toNat) (aP16 1) (aP16 2) (d16 V).length (d16 V).length (d16 L.toNat).length (d16 L.toNat).length, true), (decide (0 ≤ L ∧ L < 18446744073709551616), true), (decide (toQ 0 (sgn p) (vO (I1 p) (aP16 0) (d16 (sg p).toNat).length) (xp p) 0 = V), true), (toL (vO (I1 p) (aP16 0) (d16 (sg p).toNat).length) (xp p) 0, true), (rowTo 0 (sgn p) (vO (I1 p) (aP16 0) (d16 (sg p).toNat).length) (d16 (sg p).toNat).length (xp p) 0, true), (okTo (I1 p) (aP16 0) (d16 (sg p).toNat).length (d16 (sg p).toNat).length (xp p) 0, true), lU p, (decide (m > 4), true), (decide (m < 0), false), (decide (cl p < 3), true), lU p, (decide (p ≥ 9223372036854775808), true), (decide (cl p > 3), false), lU p] := ⟨by kernel_rfl, by kernel_rfl, by kernel_rfl, by kernel_rfl⟩
theorem dt_t2ttf (p m : Int) (L M : Int) (V : Nat) (c : Int) : Fits (reckon (tabH Try.prog extY conIE hcIE) 300 13 [.int .u64 p, .int .i64 m, .bool false, .int .u64 L, .int .u64 M] [cmp false, cmp true, cmp true, cmp false, cmp true, cmp true, cmp true, num V, num c, cmp false]) (.tuple #[.bool true, .int .u64 ((vO (I3 p V L.toNat) (aP16 1) (d16 V).length % 18446744073709551616 : Nat) : Int), .int .i64 0]) [(rowS (I3 p V L.toNat) (aP16 1) (d16 V).length (d16 V).length, true), (decide (c > 0), false), (decide (cmpZ (vO (I3 p V L.toNat) (aP16 1) (d16 V).length) (vO (I3 p V L.toNat) (aP16 2) (d16 L.toNat).length) = c), true), (two16 (I3 p V L.toNat) (aP16 1) (aP16 2) (d16 V).length (d16 V).length (d16 L.toNat).length (d16 L.toNat).length, true), (decide (0 ≤ L ∧ L < 18446744073709551616), true), (decide (toQ 0 (sgn p) (vO (I1 p) (aP16 0) (d16 (sg p).toNat).length) (xp p) 0 = V), true), (toL (vO (I1 p) (aP16 0) (d16 (sg p).toNat).length) (xp p) 0, true), (rowTo 0 (sgn p) (vO (I1 p) (aP16 0) (d16 (sg p).toNat).length) (d16 (sg p).toNat).length (xp p) 0, true), (okTo (I1 p) (aP16 0) (d16 (sg p).toNat).length (d16 (sg p).toNat).length (xp p) 0, true), lU p, (decide (m > 4), true), (decide (m < 0), false), (decide (cl p < 3), true), lU p, (decide (p ≥ 9223372036854775808), true), (decide (cl p > 3), false), lU p] := ⟨by kernel_rfl, by kernel_rfl, by kernel_rfl, by kernel_rfl⟩
theorem dt_t2tfx (p m : Int) (t : Bool) (L M : Int) (V : Nat) (c : Int) : Fits (reckon (tabH Try.prog extY conIE hcIE) 300 13 [.int .u64 p, .int .i64 m, .bool t, .int .u64 L, .int .u64 M] [cmp false, cmp true, cmp true, cmp false, cmp true, cmp true, cmp false, num V, num c, cmp false]) (.tuple #[.bool true, .int .u64 ((vO (I3 p V L.toNat) (aP16 1) (d16 V).length % 18446744073709551616 : Nat) : Int), .int .i64 0]) [(rowS (I3 p V L.toNat) (aP16 1) (d16 V).length (d16 V).length, true), (decide (c > 0), false), (decide (cmpZ (vO (I3 p V L.toNat) (aP16 1) (d16 V).length) (vO (I3 p V L.toNat) (aP16 2) (d16 L.toNat).length) = c), true), (two16 (I3 p V L.toNat) (aP16 1) (aP16 2) (d16 V).length (d16 V).length (d16 L.toNat).length (d16 L.toNat).length, true), (decide (0 ≤ L ∧ L < 18446744073709551616), true), (decide (toQ 0 (sgn p) (vO (I1 p) (aP16 0) (d16 (sg p).toNat).length) (xp p) 0 = V), true), (toL (vO (I1 p) (aP16 0) (d16 (sg p).toNat).length) (xp p) 0, false), (rowTo 0 (sgn p) (vO (I1 p) (aP16 0) (d16 (sg p).toNat).length) (d16 (sg p).toNat).length (xp p) 0, true), (okTo (I1 p) (aP16 0) (d16 (sg p).toNat).length (d16 (sg p).toNat).length (xp p) 0, true), lU p, (decide (m > 4), true), (decide (m < 0), false), (decide (cl p < 3), true), lU p, (decide (p ≥ 9223372036854775808), true), (decide (cl p > 3), false), lU p] := ⟨by kernel_rfl, by kernel_rfl, by kernel_rfl, by kernel_rfl⟩
theorem dt_t2fo (p m : Int) (t : Bool) (L M : Int) (V : Nat) (c : Int) (e : Bool) : Fits (reckon (tabH Try.prog extY conIE hcIE) 300 13 [.int .u64 p, .int .i64 m, .bool t, .int .u64 L, .int .u64 M] [cmp false, cmp true, cmp true, cmp false, cmp true, cmp false, cmp e, num V, num c, cmp true]) (.tuple #[.bool true, .int .u64 L, .int .i64 1]) [(decide (c > 0), true), (decide (cmpZ (vO (I2 p L.toNat) none 0) (vO (I2 p L.toNat) (aP16 1) (d16 L.toNat).length) = c), true), (two16 (I2 p L.toNat) none (aP16 1) 0 0 (d16 L.toNat).length (d16 L.toNat).length, true), (decide (0 ≤ L ∧ L < 18446744073709551616), true), (toL (vO (I1 p) (aP16 0) (d16 (sg p).toNat).length) (xp p) 0, e), (rowTo 0 (sgn p) (vO (I1 p) (aP16 0) (d16 (sg p).toNat).length) (d16 (sg p).toNat).length (xp p) 0, false), (okTo (I1 p) (aP16 0) (d16 (sg p).toNat).length (d16 (sg p).toNat).length (xp p) 0, true), lU p, (decide (m > 4), true), (decide (m < 0), false), (decide (cl p < 3), true), lU p, (decide (p ≥ 9223372036854775808), true), (decide (cl p > 3), false), lU p] := ⟨by kernel_rfl, by kernel_rfl, by kernel_rfl, by kernel_rfl⟩
theorem dt_t2ftt (p m : Int) (L M : Int) (V : Nat) (c : Int) : Fits (reckon (tabH Try.prog extY conIE hcIE) 300 13 [.int .u64 p, .int .i64 m, .bool true, .int .u64 L, .int .u64 M] [cmp false, cmp true, cmp true, cmp false, cmp true, cmp false, cmp true, num V, num c, cmp false]) (.tuple #[.bool true, .int .u64 ((vO (I2 p L.toNat) none 0 % 18446744073709551616 : Nat) : Int), .int .i64 16]) [(rowS (I2 p L.toNat) none 0 0, true), (decide (c > 0), false), (decide (cmpZ (vO (I2 p L.toNat) none 0) (vO (I2 p L.toNat) (aP16 1) (d16 L.toNat).length) = c), true), (two16 (I2 p L.toNat) none (aP16 1) 0 0 (d16 L.toNat).length (d16 L.toNat).length, true), (decide (0 ≤ L ∧ L < 18446744073709551616), true), (toL (vO (I1 p) (aP16 0) (d16 (sg p).toNat).length) (xp p) 0, true), (rowTo 0 (sgn p) (vO (I1 p) (aP16 0) (d16 (sg p).toNat).length) (d16 (sg p).toNat).length (xp p) 0, false), (okTo (I1 p) (aP16 0) (d16 (sg p).toNat).length (d16 (sg p).toNat).length (xp p) 0, true), lU p, (decide (m > 4), true), (decide (m < 0), false), (decide (cl p < 3), true), lU p, (decide (p ≥ 9223372036854775808), true), (decide (cl p > 3), false), lU p] := ⟨by kernel_rfl, by kernel_rfl, by kernel_rfl, by kernel_rfl⟩
theorem dt_t2ftf (p m : Int) (L M : Int) (V : Nat) (c : Int) : Fits (reckon (tabH Try.prog extY conIE hcIE) 300 13 [.int .u64 p, .int .i64 m, .bool false, .int .u64 L, .int .u64 M] [cmp false, cmp true, cmp true, cmp false, cmp true, cmp false, cmp true, num V, num c, cmp false]) (.tuple #[.bool true, .int .u64 ((vO (I2 p L.toNat) none 0 % 18446744073709551616 : Nat) : Int), .int .i64 0]) [(rowS (I2 p L.toNat) none 0 0, true), (decide (c > 0), false), (decide (cmpZ (vO (I2 p L.toNat) none 0) (vO (I2 p L.toNat) (aP16 1) (d16 L.toNat).length) = c), true), (two16 (I2 p L.toNat) none (aP16 1) 0 0 (d16 L.toNat).length (d16 L.toNat).length, true), (decide (0 ≤ L ∧ L < 18446744073709551616), true), (toL (vO (I1 p) (aP16 0) (d16 (sg p).toNat).length) (xp p) 0, true), (rowTo 0 (sgn p) (vO (I1 p) (aP16 0) (d16 (sg p).toNat).length) (d16 (sg p).toNat).length (xp p) 0, false), (okTo (I1 p) (aP16 0) (d16 (sg p).toNat).length (d16 (sg p).toNat).length (xp p) 0, true), lU p, (decide (m > 4), true), (decide (m < 0), false), (decide (cl p < 3), true), lU p, (decide (p ≥ 9223372036854775808), true), (decide (cl p > 3), false), lU p] := ⟨by kernel_rfl, by kernel_rfl, by kernel_rfl, by kernel_rfl⟩
theorem dt_t2ffx (p m : Int) (t : Bool) (L M : Int) (V : Nat) (c : Int) : Fits (reckon (tabH Try.prog extY conIE hcIE) 300 13 [.int .u64 p, .int .i64 m, .bool t, .int .u64 L, .int .u64 M] [cmp false, cmp true, cmp true, cmp false, cmp true, cmp false, cmp false, num V, num c, cmp false]) (.tuple #[.bool true, .int .u64 ((vO (I2 p L.toNat) none 0 % 18446744073709551616 : Nat) : Int), .int .i64 0]) [(rowS (I2 p L.toNat) none 0 0, true), (decide (c > 0), false), (decide (cmpZ (vO (I2 p L.toNat) none 0) (vO (I2 p L.toNat) (aP16 1) (d16 L.toNat).length) = c), true), (two16 (I2 p L.toNat) none (aP16 1) 0 0 (d16 L.toNat).length (d16 L.toNat).length, true), (decide (0 ≤ L ∧ L < 18446744073709551616), true), (toL (vO (I1 p) (aP16 0) (d16 (sg p).toNat).length) (xp p) 0, false), (rowTo 0 (sgn p) (vO (I1 p) (aP16 0) (d16 (sg p).toNat).length) (d16 (sg p).toNat).length (xp p) 0, false), (okTo (I1 p) (aP16 0) (d16 (sg p).toNat).length (d16 (sg p).toNat).length (xp p) 0, true), lU p, (decide (m > 4), true), (decide (m < 0), false), (decide (cl p < 3), true), lU p, (decide (p ≥ 9223372036854775808), true), (decide (cl p > 3), false), lU p] := ⟨by kernel_rfl, by kernel_rfl, by kernel_rfl, by kernel_rfl⟩
theorem dt_t3to (p m : Int) (t : Bool) (L M : Int) (V : Nat) (c : Int) (e : Bool) : Fits (reckon (tabH Try.prog extY conIE hcIE) 300 13 [.int .u64 p, .int .i64 m, .bool t, .int .u64 L, .int .u64 M] [cmp false, cmp true, cmp true, cmp false, cmp false, cmp true, cmp e, num V, num c, cmp true]) (.tuple #[.bool true, .int .u64 L, .int .i64 1]) [(decide (c > 0), true), (decide (cmpZ (vO (I3 p V L.toNat) (aP16 1) (d16 V).length) (vO (I3 p V L.toNat) (aP16 2) (d16 L.toNat).length) = c), true), (two16 (I3 p V L.toNat) (aP16 1) (aP16 2) (d16 V).length (d16 V).length (d16 L.toNat).length (d16 L.toNat).length, true), (decide (0 ≤ L ∧ L < 18446744073709551616), true), (decide (toQ m (sgn p) (vO (I1 p) (aP16 0) (d16 (sg p).toNat).length) (xp p) 0 = V), true), (toL (vO (I1 p) (aP16 0) (d16 (sg p).toNat).length) (xp p) 0, e), (rowTo m (sgn p) (vO (I1 p) (aP16 0) (d16 (sg p).toNat).length) (d16 (sg p).toNat).length (xp p) 0, true), (okTo (I1 p) (aP16 0) (d16 (sg p).toNat).length (d16 (sg p).toNat).length (xp p) 0, true), lU p, (decide (m > 4), false), (decide (m < 0), false), (decide (cl p < 3), true), lU p, (decide (p ≥ 9223372036854775808), true), (decide (cl p > 3), false), lU p] := ⟨by kernel_rfl, by kernel_rfl, by kernel_rfl, by kernel_rfl⟩
theorem dt_t3ttt (p m : Int) (L M : Int) (V : Nat) (c : Int) : Fits (reckon (tabH Try.prog extY conIE hcIE) 300 13 [.int .u64 p, .int .i64 m, .bool true, .int .u64 L, .int .u64 M] [cmp false, cmp true, cmp true, cmp false, cmp false, cmp true, cmp true, num V, num c, cmp false]) (.tuple #[.bool true, .int .u64 ((vO (I3 p V L.toNat) (aP16 1) (d16 V).length % 18446744073709551616 : Nat) : Int), .int .i64 16]) [(rowS (I3 p V L.toNat) (aP16 1) (d16 V).length (d16 V).length, true), (decide (c > 0), false), (decide (cmpZ (vO (I3 p V L.toNat) (aP16 1) (d16 V).length) (vO (I3 p V L.toNat) (aP16 2) (d16 L.toNat).length) = c), true), (two16 (I3 p V L.toNat) (aP16 1) (aP16 2) (d16 V).length (d16 V).length (d16 L.toNat).length (d16 L.toNat).length, true), (decide (0 ≤ L ∧ L < 18446744073709551616), true), (decide (toQ m (sgn p) (vO (I1 p) (aP16 0) (d16 (sg p).toNat).length) (xp p) 0 = V), true), (toL (vO (I1 p) (aP16 0) (d16 (sg p).toNat).length) (xp p) 0, true), (rowTo m (sgn p) (vO (I1 p) (aP16 0) (d16 (sg p).toNat).length) (d16 (sg p).toNat).length (xp p) 0, true), (okTo (I1 p) (aP16 0) (d16 (sg p).toNat).length (d16 (sg p).toNat).length (xp p) 0, true), lU p, (decide (m > 4), false), (decide (m < 0), false), (decide (cl p < 3), true), lU p, (decide (p ≥ 9223372036854775808), true), (decide (cl p > 3), false), lU p] := ⟨by kernel_rfl, by kernel_rfl, by kernel_rfl, by kernel_rfl⟩
theorem dt_t3ttf (p m : Int) (L M : Int) (V : Nat) (c : Int) : Fits (reckon (tabH Try.prog extY conIE hcIE) 300 13 [.int .u64 p, .int .i64 m, .bool false, .int .u64 L, .int .u64 M] [cmp false, cmp true, cmp true, cmp false, cmp false, cmp true, cmp true, num V, num c, cmp false]) (.tuple #[.bool true, .int .u64 ((vO (I3 p V L.toNat) (aP16 1) (d16 V).length % 18446744073709551616 : Nat) : Int), .int .i64 0]) [(rowS (I3 p V L.toNat) (aP16 1) (d16 V).length (d16 V).length, true), (decide (c > 0), false), (decide (cmpZ (vO (I3 p V L.toNat) (aP16 1) (d16 V).length) (vO (I3 p V L.toNat) (aP16 2) (d16 L.toNat).length) = c), true), (two16 (I3 p V L.toNat) (aP16 1) (aP16 2) (d16 V).length (d16 V).length (d16 L.toNat).length (d16 L.toNat).length, true), (decide (0 ≤ L ∧ L < 18446744073709551616), true), (decide (toQ m (sgn p) (vO (I1 p) (aP16 0) (d16 (sg p).toNat).length) (xp p) 0 = V), true), (toL (vO (I1 p) (aP16 0) (d16 (sg p).toNat).length) (xp p) 0, true), (rowTo m (sgn p) (vO (I1 p) (aP16 0) (d16 (sg p).toNat).length) (d16 (sg p).toNat).length (xp p) 0, true), (okTo (I1 p) (aP16 0) (d16 (sg p).toNat).length (d16 (sg p).toNat).length (xp p) 0, true), lU p, (decide (m > 4), false), (decide (m < 0), false), (decide (cl p < 3), true), lU p, (decide (p ≥ 9223372036854775808), true), (decide (cl p > 3), false), lU p] := ⟨by kernel_rfl, by kernel_rfl, by kernel_rfl, by kernel_rfl⟩
theorem dt_t3tfx (p m : Int) (t : Bool) (L M : Int) (V : Nat) (c : Int) : Fits (reckon (tabH Try.prog extY conIE hcIE) 300 13 [.int .u64 p, .int .i64 m, .bool t, .int .u64 L, .int .u64 M] [cmp false, cmp true, cmp true, cmp false, cmp false, cmp true, cmp false, num V, num c, cmp false]) (.tuple #[.bool true, .int .u64 ((vO (I3 p V L.toNat) (aP16 1) (d16 V).length % 18446744073709551616 : Nat) : Int), .int .i64 0]) [(rowS (I3 p V L.toNat) (aP16 1) (d16 V).length (d16 V).length, true), (decide (c > 0), false), (decide (cmpZ (vO (I3 p V L.toNat) (aP16 1) (d16 V).length) (vO (I3 p V L.toNat) (aP16 2) (d16 L.toNat).length) = c), true), (two16 (I3 p V L.toNat) (aP16 1) (aP16 2) (d16 V).length (d16 V).length (d16 L.toNat).length (d16 L.toNat).length, true), (decide (0 ≤ L ∧ L < 18446744073709551616), true), (decide (toQ m (sgn p) (vO (I1 p) (aP16 0) (d16 (sg p).toNat).length) (xp p) 0 = V), true), (toL (vO (I1 p) (aP16 0) (d16 (sg p).toNat).length) (xp p) 0, false), (rowTo m (sgn p) (vO (I1 p) (aP16 0) (d16 (sg p).toNat).length) (d16 (sg p).toNat).length (xp p) 0, true), (okTo (I1 p) (aP16 0) (d16 (sg p).toNat).length (d16 (sg p).toNat).length (xp p) 0, true), lU p, (decide (m > 4), false), (decide (m < 0), false), (decide (cl p < 3), true), lU p, (decide (p ≥ 9223372036854775808), true), (decide (cl p > 3), false), lU p] := ⟨by kernel_rfl, by kernel_rfl, by kernel_rfl, by kernel_rfl⟩
theorem dt_t3fo (p m : Int) (t : Bool) (L M : Int) (V : Nat) (c : Int) (e : Bool) : Fits (reckon (tabH Try.prog extY conIE hcIE) 300 13 [.int .u64 p, .int .i64 m, .bool t, .int .u64 L, .int .u64 M] [cmp false, cmp true, cmp true, cmp false, cmp false, cmp false, cmp e, num V, num c, cmp true]) (.tuple #[.bool true, .int .u64 L, .int .i64 1]) [(decide (c > 0), true), (decide (cmpZ (vO (I2 p L.toNat) none 0) (vO (I2 p L.toNat) (aP16 1) (d16 L.toNat).length) = c), true), (two16 (I2 p L.toNat) none (aP16 1) 0 0 (d16 L.toNat).length (d16 L.toNat).length, true), (decide (0 ≤ L ∧ L < 18446744073709551616), true), (toL (vO (I1 p) (aP16 0) (d16 (sg p).toNat).length) (xp p) 0, e), (rowTo m (sgn p) (vO (I1 p) (aP16 0) (d16 (sg p).toNat).length) (d16 (sg p).toNat).length (xp p) 0, false), (okTo (I1 p) (aP16 0) (d16 (sg p).toNat).length (d16 (sg p).toNat).length (xp p) 0, true), lU p, (decide (m > 4), false), (decide (m < 0), false), (decide (cl p < 3), true), lU p, (decide (p ≥ 9223372036854775808), true), (decide (cl p > 3), false), lU p] := ⟨by kernel_rfl, by kernel_rfl, by kernel_rfl, by kernel_rfl⟩
theorem dt_t3ftt (p m : Int) (L M : Int) (V : Nat) (c : Int) : Fits (reckon (tabH Try.prog extY conIE hcIE) 300 13 [.int .u64 p, .int .i64 m, .bool true, .int .u64 L, .int .u64 M] [cmp false, cmp true, cmp true, cmp false, cmp false, cmp false, cmp true, num V, num c, cmp false]) (.tuple #[.bool true, .int .u64 ((vO (I2 p L.toNat) none 0 % 18446744073709551616 : Nat) : Int), .int .i64 16]) [(rowS (I2 p L.toNat) none 0 0, true), (decide (c > 0), false), (decide (cmpZ (vO (I2 p L.toNat) none 0) (vO (I2 p L.toNat) (aP16 1) (d16 L.toNat).length) = c), true), (two16 (I2 p L.toNat) none (aP16 1) 0 0 (d16 L.toNat).length (d16 L.toNat).length, true), (decide (0 ≤ L ∧ L < 18446744073709551616), true), (toL (vO (I1 p) (aP16 0) (d16 (sg p).toNat).length) (xp p) 0, true), (rowTo m (sgn p) (vO (I1 p) (aP16 0) (d16 (sg p).toNat).length) (d16 (sg p).toNat).length (xp p) 0, false), (okTo (I1 p) (aP16 0) (d16 (sg p).toNat).length (d16 (sg p).toNat).length (xp p) 0, true), lU p, (decide (m > 4), false), (decide (m < 0), false), (decide (cl p < 3), true), lU p, (decide (p ≥ 9223372036854775808), true), (decide (cl p > 3), false), lU p] := ⟨by kernel_rfl, by kernel_rfl, by kernel_rfl, by kernel_rfl⟩
theorem dt_t3ftf (p m : Int) (L M : Int) (V : Nat) (c : Int) : Fits (reckon (tabH Try.prog extY conIE hcIE) 300 13 [.int .u64 p, .int .i64 m, .bool false, .int .u64 L, .int .u64 M] [cmp false, cmp true, cmp true, cmp false, cmp false, cmp false, cmp true, num V, num c, cmp false]) (.tuple #[.bool true, .int .u64 ((vO (I2 p L.toNat) none 0 % 18446744073709551616 : Nat) : Int), .int .i64 0]) [(rowS (I2 p L.toNat) none 0 0, true), (decide (c > 0), false), (decide (cmpZ (vO (I2 p L.toNat) none 0) (vO (I2 p L.toNat) (aP16 1) (d16 L.toNat).length) = c), true), (two16 (I2 p L.toNat) none (aP16 1) 0 0 (d16 L.toNat).length (d16 L.toNat).length, true), (decide (0 ≤ L ∧ L < 18446744073709551616), true), (toL (vO (I1 p) (aP16 0) (d16 (sg p).toNat).length) (xp p) 0, true), (rowTo m (sgn p) (vO (I1 p) (aP16 0) (d16 (sg p).toNat).length) (d16 (sg p).toNat).length (xp p) 0, false), (okTo (I1 p) (aP16 0) (d16 (sg p).toNat).length (d16 (sg p).toNat).length (xp p) 0, true), lU p, (decide (m > 4), false), (decide (m < 0), false), (decide (cl p < 3), true), lU p, (decide (p ≥ 9223372036854775808), true), (decide (cl p > 3), false), lU p] := ⟨by kernel_rfl, by kernel_rfl, by kernel_rfl, by kernel_rfl⟩
theorem dt_t3ffx (p m : Int) (t : Bool) (L M : Int) (V : Nat) (c : Int) : Fits (reckon (tabH Try.prog extY conIE hcIE) 300 13 [.int .u64 p, .int .i64 m, .bool t, .int .u64 L, .int .u64 M] [cmp false, cmp true, cmp true, cmp false, cmp false, cmp false, cmp false, num V, num c, cmp false]) (.tuple #[.bool true, .int .u64 ((vO (I2 p L.toNat) none 0 % 18446744073709551616 : Nat) : Int), .int .i64 0]) [(rowS (I2 p L.toNat) none 0 0, true), (decide (c > 0), false), (decide (cmpZ (vO (I2 p L.toNat) none 0) (vO (I2 p L.toNat) (aP16 1) (d16 L.toNat).length) = c), true), (two16 (I2 p L.toNat) none (aP16 1) 0 0 (d16 L.toNat).length (d16 L.toNat).length, true), (decide (0 ≤ L ∧ L < 18446744073709551616), true), (toL (vO (I1 p) (aP16 0) (d16 (sg p).toNat).length) (xp p) 0, false), (rowTo m (sgn p) (vO (I1 p) (aP16 0) (d16 (sg p).toNat).length) (d16 (sg p).toNat).length (xp p) 0, false), (okTo (I1 p) (aP16 0) (d16 (sg p).toNat).length (d16 (sg p).toNat).length (xp p) 0, true), lU p, (decide (m > 4), false), (decide (m < 0), false), (decide (cl p < 3), true), lU p, (decide (p ≥ 9223372036854775808), true), (decide (cl p > 3), false), lU p] := ⟨by kernel_rfl, by kernel_rfl, by kernel_rfl, by kernel_rfl⟩
theorem dt_if (p m : Int) (t : Bool) (L M : Int) : Fits (reckon (tabH Try.prog extY conIE hcIE) 300 13 [.int .u64 p, .int .i64 m, .bool t, .int .u64 L, .int .u64 M] [cmp false, cmp false, cmp false]) (.tuple #[.bool false, .int .u64 M, .int .i64 1]) [(decide (cl p < 3), false), lU p, (decide (p ≥ 9223372036854775808), false), (decide (cl p > 3), false), lU p] := ⟨by kernel_rfl, by kernel_rfl, by kernel_rfl, by kernel_rfl⟩
theorem dt_f1to (p m : Int) (t : Bool) (L M : Int) (V : Nat) (c : Int) (e : Bool) : Fits (reckon (tabH Try.prog extY conIE hcIE) 300 13 [.int .u64 p, .int .i64 m, .bool t, .int .u64 L, .int .u64 M] [cmp false, cmp false, cmp true, cmp true, cmp true, cmp e, num V, num c, cmp true]) (.tuple #[.bool false, .int .u64 M, .int .i64 1]) [(decide (c > 0), true), (decide (cmpZ (vO (I3 p V M.toNat) (aP16 1) (d16 V).length) (vO (I3 p V M.toNat) (aP16 2) (d16 M.toNat).length) = c), true), (two16 (I3 p V M.toNat) (aP16 1) (aP16 2) (d16 V).length (d16 V).length (d16 M.toNat).length (d16 M.toNat).length, true), (decide (0 ≤ M ∧ M < 18446744073709551616), true), (decide (toQ 0 (sgn p) (vO (I1 p) (aP16 0) (d16 (sg p).toNat).length) (xp p) 0 = V), true), (toL (vO (I1 p) (aP16 0) (d16 (sg p).toNat).length) (xp p) 0, e), (rowTo 0 (sgn p) (vO (I1 p) (aP16 0) (d16 (sg p).toNat).length) (d16 (sg p).toNat).length (xp p) 0, true), (okTo (I1 p) (aP16 0) (d16 (sg p).toNat).length (d16 (sg p).toNat).length (xp p) 0, true), lU p, (decide (m < 0), true), (decide (cl p < 3), true), lU p, (decide (p ≥ 9223372036854775808), false), (decide (cl p > 3), false), lU p] := ⟨by kernel_rfl, by kernel_rfl, by kernel_rfl, by kernel_rfl⟩
theorem dt_f1ttt (p m : Int) (L M : Int) (V : Nat) (c : Int) : Fits (reckon (tabH Try.prog extY conIE hcIE) 300 13 [.int .u64 p, .int .i64 m, .bool true, .int .u64 L, .int .u64 M] [cmp false, cmp false, cmp true, cmp true, cmp true, cmp true, num V, num c, cmp false]) (.tuple #[.bool false, .int .u64 ((vO (I3 p V M.toNat) (aP16 1) (d16 V).length % 18446744073709551616 : Nat) : Int), .int .i64 16]) [(rowS (I3 p V M.toNat) (aP16 1) (d16 V).length (d16 V).length, true), (decide (c > 0), false), (decide (cmpZ (vO (I3 p V M.toNat) (aP16 1) (d16 V).length) (vO (I3 p V M.toNat) (aP16 2) (d16 M.toNat).length) = c), true), (two16 (I3 p V M.toNat) (aP16 1) (aP16 2) (d16 V).length (d16 V).length (d16 M.toNat).length (d16 M.toNat).length, true), (decide (0 ≤ M ∧ M < 18446744073709551616), true), (decide (toQ 0 (sgn p) (vO (I1 p) (aP16 0) (d16 (sg p).toNat).length) (xp p) 0 = V), true), (toL (vO (I1 p) (aP16 0) (d16 (sg p).toNat).length) (xp p) 0, true), (rowTo 0 (sgn p) (vO (I1 p) (aP16 0) (d16 (sg p).toNat).length) (d16 (sg p).toNat).length (xp p) 0, true), (okTo (I1 p) (aP16 0) (d16 (sg p).toNat).length (d16 (sg p).toNat).length (xp p) 0, true), lU p, (decide (m < 0), true), (decide (cl p < 3), true), lU p, (decide (p ≥ 9223372036854775808), false), (decide (cl p > 3), false), lU p] := ⟨by kernel_rfl, by kernel_rfl, by kernel_rfl, by kernel_rfl⟩
theorem dt_f1ttf (p m : Int) (L M : Int) (V : Nat) (c : Int) : Fits (reckon (tabH Try.prog extY conIE hcIE) 300 13 [.int .u64 p, .int .i64 m, .bool false, .int .u64 L, .int .u64 M] [cmp false, cmp false, cmp true, cmp true, cmp true, cmp true, num V, num c, cmp false]) (.tuple #[.bool false, .int .u64 ((vO (I3 p V M.toNat) (aP16 1) (d16 V).length % 18446744073709551616 : Nat) : Int), .int .i64 0]) [(rowS (I3 p V M.toNat) (aP16 1) (d16 V).length (d16 V).length, true), (decide (c > 0), false), (decide (cmpZ (vO (I3 p V M.toNat) (aP16 1) (d16 V).length) (vO (I3 p V M.toNat) (aP16 2) (d16 M.toNat).length) = c), true), (two16 (I3 p V M.toNat) (aP16 1) (aP16 2) (d16 V).length (d16 V).length (d16 M.toNat).length (d16 M.toNat).length, true), (decide (0 ≤ M ∧ M < 18446744073709551616), true), (decide (toQ 0 (sgn p) (vO (I1 p) (aP16 0) (d16 (sg p).toNat).length) (xp p) 0 = V), true), (toL (vO (I1 p) (aP16 0) (d16 (sg p).toNat).length) (xp p) 0, true), (rowTo 0 (sgn p) (vO (I1 p) (aP16 0) (d16 (sg p).toNat).length) (d16 (sg p).toNat).length (xp p) 0, true), (okTo (I1 p) (aP16 0) (d16 (sg p).toNat).length (d16 (sg p).toNat).length (xp p) 0, true), lU p, (decide (m < 0), true), (decide (cl p < 3), true), lU p, (decide (p ≥ 9223372036854775808), false), (decide (cl p > 3), false), lU p] := ⟨by kernel_rfl, by kernel_rfl, by kernel_rfl, by kernel_rfl⟩
theorem dt_f1tfx (p m : Int) (t : Bool) (L M : Int) (V : Nat) (c : Int) : Fits (reckon (tabH Try.prog extY conIE hcIE) 300 13 [.int .u64 p, .int .i64 m, .bool t, .int .u64 L, .int .u64 M] [cmp false, cmp false, cmp true, cmp true, cmp true, cmp false, num V, num c, cmp false]) (.tuple #[.bool false, .int .u64 ((vO (I3 p V M.toNat) (aP16 1) (d16 V).length % 18446744073709551616 : Nat) : Int), .int .i64 0]) [(rowS (I3 p V M.toNat) (aP16 1) (d16 V).length (d16 V).length, true), (decide (c > 0), false), (decide (cmpZ (vO (I3 p V M.toNat) (aP16 1) (d16 V).length) (vO (I3 p V M.toNat) (aP16 2) (d16 M.toNat).length) = c), true), (two16 (I3 p V M.toNat) (aP16 1) (aP16 2) (d16 V).length (d16 V).length (d16 M.toNat).length (d16 M.toNat).length, true), (decide (0 ≤ M ∧ M < 18446744073709551616), true), (decide (toQ 0 (sgn p) (vO (I1 p) (aP16 0) (d16 (sg p).toNat).length) (xp p) 0 = V), true), (toL (vO (I1 p) (aP16 0) (d16 (sg p).toNat).length) (xp p) 0, false), (rowTo 0 (sgn p) (vO (I1 p) (aP16 0) (d16 (sg p).toNat).length) (d16 (sg p).toNat).length (xp p) 0, true), (okTo (I1 p) (aP16 0) (d16 (sg p).toNat).length (d16 (sg p).toNat).length (xp p) 0, true), lU p, (decide (m < 0), true), (decide (cl p < 3), true), lU p, (decide (p ≥ 9223372036854775808), false), (decide (cl p > 3), false), lU p] := ⟨by kernel_rfl, by kernel_rfl, by kernel_rfl, by kernel_rfl⟩
theorem dt_f1fo (p m : Int) (t : Bool) (L M : Int) (V : Nat) (c : Int) (e : Bool) : Fits (reckon (tabH Try.prog extY conIE hcIE) 300 13 [.int .u64 p, .int .i64 m, .bool t, .int .u64 L, .int .u64 M] [cmp false, cmp false, cmp true, cmp true, cmp false, cmp e, num V, num c, cmp true]) (.tuple #[.bool false, .int .u64 M, .int .i64 1]) [(decide (c > 0), true), (decide (cmpZ (vO (I2 p M.toNat) none 0) (vO (I2 p M.toNat) (aP16 1) (d16 M.toNat).length) = c), true), (two16 (I2 p M.toNat) none (aP16 1) 0 0 (d16 M.toNat).length (d16 M.toNat).length, true), (decide (0 ≤ M ∧ M < 18446744073709551616), true), (toL (vO (I1 p) (aP16 0) (d16 (sg p).toNat).length) (xp p) 0, e), (rowTo 0 (sgn p) (vO (I1 p) (aP16 0) (d16 (sg p).toNat).length) (d16 (sg p).toNat).length (xp p) 0, false), (okTo (I1 p) (aP16 0) (d16 (sg p).toNat).length (d16 (sg p).toNat).length (xp p) 0, true), lU p, (decide (m < 0), true), (decide (cl p < 3), true), lU p, (decide (p ≥ 9223372036854775808), false), (decide (cl p > 3), false), lU p] := ⟨by kernel_rfl, by kernel_rfl, by kernel_rfl, by kernel_rfl⟩
theorem dt_f1ftt (p m : Int) (L M : Int) (V : Nat) (c : Int) : Fits (reckon (tabH Try.prog extY conIE hcIE) 300 13 [.int .u64 p, .int .i64 m, .bool true, .int .u64 L, .int .u64 M] [cmp false, cmp false, cmp true, cmp true, cmp false, cmp true, num V, num c, cmp false]) (.tuple #[.bool false, .int .u64 ((vO (I2 p M.toNat) none 0 % 18446744073709551616 : Nat) : Int), .int .i64 16]) [(rowS (I2 p M.toNat) none 0 0, true), (decide (c > 0), false), (decide (cmpZ (vO (I2 p M.toNat) none 0) (vO (I2 p M.toNat) (aP16 1) (d16 M.toNat).length) = c), true), (two16 (I2 p M.toNat) none (aP16 1) 0 0 (d16 M.toNat).length (d16 M.toNat).length, true), (decide (0 ≤ M ∧ M < 18446744073709551616), true), (toL (vO (I1 p) (aP16 0) (d16 (sg p).toNat).length) (xp p) 0, true), (rowTo 0 (sgn p) (vO (I1 p) (aP16 0) (d16 (sg p).toNat).length) (d16 (sg p).toNat).length (xp p) 0, false), (okTo (I1 p) (aP16 0) (d16 (sg p).toNat).length (d16 (sg p).toNat).length (xp p) 0, true), lU p, (decide (m < 0), true), (decide (cl p < 3), true), lU p, (decide (p ≥ 9223372036854775808), false), (decide (cl p > 3), false), lU p] := ⟨by kernel_rfl, by kernel_rfl, by kernel_rfl, by kernel_rfl⟩
theorem dt_f1ftf (p m : Int) (L M : Int) (V : Nat) (c : Int) : Fits (reckon (tabH Try.prog extY conIE hcIE) 300 13 [.int .u64 p, .int .i64 m, .bool false, .int .u64 L, .int .u64 M] [cmp false, cmp false, cmp true, cmp true, cmp false, cmp true, num V, num c, cmp false]) (.tuple #[.bool false, .int .u64 ((vO (I2 p M.toNat) none 0 % 18446744073709551616 : Nat) : Int), .int .i64 0]) [(rowS (I2 p M.toNat) none 0 0, true), (decide (c > 0), false), (decide (cmpZ (vO (I2 p M.toNat) none 0) (vO (I2 p M.toNat) (aP16 1) (d16 M.toNat).length) = c), true), (two16 (I2 p M.toNat) none (aP16 1) 0 0 (d16 M.toNat).length (d16 M.toNat).length, true), (decide (0 ≤ M ∧ M < 18446744073709551616), true), (toL (vO (I1 p) (aP16 0) (d16 (sg p).toNat).length) (xp p) 0, true), (rowTo 0 (sgn p) (vO (I1 p) (aP16 0) (d16 (sg p).toNat).length) (d16 (sg p).toNat).length (xp p) 0, false), (okTo (I1 p) (aP16 0) (d16 (sg p).toNat).length (d16 (sg p).toNat).length (xp p) 0, true), lU p, (decide (m < 0), true), (decide (cl p < 3), true), lU p, (decide (p ≥ 9223372036854775808), false), (decide (cl p > 3), false), lU p] := ⟨by kernel_rfl, by kernel_rfl, by kernel_rfl, by kernel_rfl⟩
theorem dt_f1ffx (p m : Int) (t : Bool) (L M : Int) (V : Nat) (c : Int) : Fits (reckon (tabH Try.prog extY conIE hcIE) 300 13 [.int .u64 p, .int .i64 m, .bool t, .int .u64 L, .int .u64 M] [cmp false, cmp false, cmp true, cmp true, cmp false, cmp false, num V, num c, cmp false]) (.tuple #[.bool false, .int .u64 ((vO (I2 p M.toNat) none 0 % 18446744073709551616 : Nat) : Int), .int .i64 0]) [(rowS (I2 p M.toNat) none 0 0, true), (decide (c > 0), false), (decide (cmpZ (vO (I2 p M.toNat) none 0) (vO (I2 p M.toNat) (aP16 1) (d16 M.toNat).length) = c), true), (two16 (I2 p M.toNat) none (aP16 1) 0 0 (d16 M.toNat).length (d16 M.toNat).length, true), (decide (0 ≤ M ∧ M < 18446744073709551616), true), (toL (vO (I1 p) (aP16 0) (d16 (sg p).toNat).length) (xp p) 0, false), (rowTo 0 (sgn p) (vO (I1 p) (aP16 0) (d16 (sg p).toNat).length) (d16 (sg p).toNat).length (xp p) 0, false), (okTo (I1 p) (aP16 0) (d16 (sg p).toNat).length (d16 (sg p).toNat).length (xp p) 0, true), lU p, (decide (m < 0), true), (decide (cl p < 3), true), lU p, (decide (p ≥ 9223372036854775808), false), (decide (cl p > 3), false), lU p] := ⟨by kernel_rfl, by kernel_rfl, by kernel_rfl, by kernel_rfl⟩
theorem dt_f2to (p m : Int) (t : Bool) (L M : Int) (V : Nat) (c : Int) (e : Bool) : Fits (reckon (tabH Try.prog extY conIE hcIE) 300 13 [.int .u64 p, .int .i64 m, .bool t, .int .u64 L, .int .u64 M] [cmp false, cmp false, cmp true, cmp false, cmp true, cmp true, cmp e, num V, num c, cmp true]) (.tuple #[.bool false, .int .u64 M, .int .i64 1]) [(decide (c > 0), true), (decide (cmpZ (vO (I3 p V M.toNat) (aP16 1) (d16 V).length) (vO (I3 p V M.toNat) (aP16 2) (d16 M.toNat).length) = c), true), (two16 (I3 p V M.toNat) (aP16 1) (aP16 2) (d16 V).length (d16 V).length (d16 M.toNat).length (d16 M.toNat).length, true), (decide (0 ≤ M ∧ M < 18446744073709551616), true), (decide (toQ 0 (sgn p) (vO (I1 p) (aP16 0) (d16 (sg p).toNat).length) (xp p) 0 = V), true), (toL (vO (I1 p) (aP16 0) (d16 (sg p).toNat).length) (xp p) 0, e), (rowTo 0 (sgn p) (vO (I1 p) (aP16 0) (d16 (sg p).toNat).length) (d16 (sg p).toNat).length (xp p) 0, true), (okTo (I1 p) (aP16 0) (d16 (sg p).toNat).length (d16 (sg p).toNat).length (xp p) 0, true), lU p, (decide (m > 4), true), (decide (m < 0), false), (decide (cl p < 3), true), lU p, (decide (p ≥ 9223372036854775808), false), (decide (cl p > 3), false), lU p] := ⟨by kernel_rfl, by kernel_rfl, by kernel_rfl, by kernel_rfl⟩
theorem dt_f2ttt (p m : Int) (L M : Int) (V : Nat) (c : Int) : Fits (reckon (tabH Try.prog extY conIE hcIE) 300 13 [.int .u64 p, .int .i64 m, .bool true, .int .u64 L, .int .u64 M] [cmp false, cmp false, cmp true, cmp false, cmp true, cmp true, cmp true, num V, num c, cmp false]) (.tuple #[.bool false, .int .u64 ((vO (I3 p V M.toNat) (aP16 1) (d16 V).length % 18446744073709551616 : Nat) : Int), .int .i64 16]) [(rowS (I3 p V M.toNat) (aP16 1) (d16 V).length (d16 V).length, true), (decide (c > 0), false), (decide (cmpZ (vO (I3 p V M.toNat) (aP16 1) (d16 V).length) (vO (I3 p V M.toNat) (aP16 2) (d16 M.toNat).length) = c), true), (two16 (I3 p V M.toNat) (aP16 1) (aP16 2) (d16 V).length (d16 V).length (d16 M.toNat).length (d16 M.toNat).length, true), (decide (0 ≤ M ∧ M < 18446744073709551616), true), (decide (toQ 0 (sgn p) (vO (I1 p) (aP16 0) (d16 (sg p).toNat).length) (xp p) 0 = V), true), (toL (vO (I1 p) (aP16 0) (d16 (sg p).toNat).length) (xp p) 0, true), (rowTo 0 (sgn p) (vO (I1 p) (aP16 0) (d16 (sg p).toNat).length) (d16 (sg p).toNat).length (xp p) 0, true), (okTo (I1 p) (aP16 0) (d16 (sg p).toNat).length (d16 (sg p).toNat).length (xp p) 0, true), lU p, (decide (m > 4), true), (decide (m < 0), false), (decide (cl p < 3), true), lU p, (decide (p ≥ 9223372036854775808), false), (decide (cl p > 3), false), lU p] := ⟨by kernel_rfl, by kernel_rfl, by kernel_rfl, by kernel_rfl⟩
theorem dt_f2ttf (p m : Int) (L M : Int) (V : Nat) (c : Int) : Fits (reckon (tabH Try.prog extY conIE hcIE) 300 13 [.int .u64 p, .int .i64 m, .bool false, .int .u64 L, .int .u64 M] [cmp false, cmp false, cmp true, cmp false, cmp true, cmp true, cmp true, num V, num c, cmp false]) (.tuple #[.bool false, .int .u64 ((vO (I3 p V M.toNat) (aP16 1) (d16 V).length % 18446744073709551616 : Nat) : Int), .int .i64 0]) [(rowS (I3 p V M.toNat) (aP16 1) (d16 V).length (d16 V).length, true), (decide (c > 0), false), (decide (cmpZ (vO (I3 p V M.toNat) (aP16 1) (d16 V).length) (vO (I3 p V M.toNat) (aP16 2) (d16 M.toNat).length) = c), true), (two16 (I3 p V M.toNat) (aP16 1) (aP16 2) (d16 V).length (d16 V).length (d16 M.toNat).length (d16 M.toNat).length, true), (decide (0 ≤ M ∧ M < 18446744073709551616), true), (decide (toQ 0 (sgn p) (vO (I1 p) (aP16 0) (d16 (sg p).toNat).length) (xp p) 0 = V), true), (toL (vO (I1 p) (aP16 0) (d16 (sg p).toNat).length) (xp p) 0, true), (rowTo 0 (sgn p) (vO (I1 p) (aP16 0) (d16 (sg p).toNat).length) (d16 (sg p).toNat).length (xp p) 0, true), (okTo (I1 p) (aP16 0) (d16 (sg p).toNat).length (d16 (sg p).toNat).length (xp p) 0, true), lU p, (decide (m > 4), true), (decide (m < 0), false), (decide (cl p < 3), true), lU p, (decide (p ≥ 9223372036854775808), false), (decide (cl p > 3), false), lU p] := ⟨by kernel_rfl, by kernel_rfl, by kernel_rfl, by kernel_rfl⟩
theorem dt_f2tfx (p m : Int) (t : Bool) (L M : Int) (V : Nat) (c : Int) : Fits (reckon (tabH Try.prog extY conIE hcIE) 300 13 [.int .u64 p, .int .i64 m, .bool t, .int .u64 L, .int .u64 M] [cmp false, cmp false, cmp true, cmp false, cmp true, cmp true, cmp false, num V, num c, cmp false]) (.tuple #[.bool false, .int .u64 ((vO (I3 p V M.toNat) (aP16 1) (d16 V).length % 18446744073709551616 : Nat) : Int), .int .i64 0]) [(rowS (I3 p V M.toNat) (aP16 1) (d16 V).length (d16 V).length, true), (decide (c > 0), false), (decide (cmpZ (vO (I3 p V M.toNat) (aP16 1) (d16 V).length) (vO (I3 p V M.toNat) (aP16 2) (d16 M.toNat).length) = c), true), (two16 (I3 p V M.toNat) (aP16 1) (aP16 2) (d16 V).length (d16 V).length (d16 M.toNat).length (d16 M.toNat).length, true), (decide (0 ≤ M ∧ M < 18446744073709551616), true), (decide (toQ 0 (sgn p) (vO (I1 p) (aP16 0) (d16 (sg p).toNat).length) (xp p) 0 = V), true), (toL (vO (I1 p) (aP16 0) (d16 (sg p).toNat).length) (xp p) 0, false), (rowTo 0 (sgn p) (vO (I1 p) (aP16 0) (d16 (sg p).toNat).length) (d16 (sg p).toNat).length (xp p) 0, true), (okTo (I1 p) (aP16 0) (d16 (sg p).toNat).length (d16 (sg p).toNat).length (xp p) 0, true), lU p, (decide (m > 4), true), (decide (m < 0), false), (decide (cl p < 3), true), lU p, (decide (p ≥ 9223372036854775808), false), (decide (cl p > 3), false), lU p] := ⟨by kernel_rfl, by kernel_rfl, by kernel_rfl, by kernel_rfl⟩
theorem dt_f2fo (p m : Int) (t : Bool) (L M : Int) (V : Nat) (c : Int) (e : Bool) : Fits (reckon (tabH Try.prog extY conIE hcIE) 300 13 [.int .u64 p, .int .i64 m, .bool t, .int .u64 L, .int .u64 M] [cmp false, cmp false, cmp true, cmp false, cmp true, cmp false, cmp e, num V, num c, cmp true]) (.tuple #[.bool false, .int .u64 M, .int .i64 1]) [(decide (c > 0), true), (decide (cmpZ (vO (I2 p M.toNat) none 0) (vO (I2 p M.toNat) (aP16 1) (d16 M.toNat).length) = c), true), (two16 (I2 p M.toNat) none (aP16 1) 0 0 (d16 M.toNat).length (d16 M.toNat).length, true), (decide (0 ≤ M ∧ M < 18446744073709551616), true), (toL (vO (I1 p) (aP16 0) (d16 (sg p).toNat).length) (xp p) 0, e), (rowTo 0 (sgn p) (vO (I1 p) (aP16 0) (d16 (sg p).toNat).length) (d16 (sg p).toNat).length (xp p) 0, false), (okTo (I1 p) (aP16 0) (d16 (sg p).toNat).length (d16 (sg p).toNat).length (xp p) 0, true), lU p, (decide (m > 4), true), (decide (m < 0), false), (decide (cl p < 3), true), lU p, (decide (p ≥ 9223372036854775808), false), (decide (cl p > 3), false), lU p] := ⟨by kernel_rfl, by kernel_rfl, by kernel_rfl, by kernel_rfl⟩
theorem dt_f2ftt (p m : Int) (L M : Int) (V : Nat) (c : Int) : Fits (reckon (tabH Try.prog extY conIE hcIE) 300 13 [.int .u64 p, .int .i64 m, .bool true, .int .u64 L, .int .u64 M] [cmp false, cmp false, cmp true, cmp false, cmp true, cmp false, cmp true, num V, num c, cmp false]) (.tuple #[.bool false, .int .u64 ((vO (I2 p M.toNat) none 0 % 18446744073709551616 : Nat) : Int), .int .i64 16]) [(rowS (I2 p M.toNat) none 0 0, true), (decide (c > 0), false), (decide (cmpZ (vO (I2 p M.toNat) none 0) (vO (I2 p M.toNat) (aP16 1) (d16 M.toNat).length) = c), true), (two16 (I2 p M.toNat) none (aP16 1) 0 0 (d16 M.toNat).length (d16 M.toNat).length, true), (decide (0 ≤ M ∧ M < 18446744073709551616), true), (toL (vO (I1 p) (aP16 0) (d16 (sg p).toNat).length) (xp p) 0, true), (rowTo 0 (sgn p) (vO (I1 p) (aP16 0) (d16 (sg p).toNat).length) (d16 (sg p).toNat).length (xp p) 0, false), (okTo (I1 p) (aP16 0) (d16 (sg p).toNat).length (d16 (sg p).toNat).length (xp p) 0, true), lU p, (decide (m > 4), true), (decide (m < 0), false), (decide (cl p < 3), true), lU p, (decide (p ≥ 9223372036854775808), false), (decide (cl p > 3), false), lU p] := ⟨by kernel_rfl, by kernel_rfl, by kernel_rfl, by kernel_rfl⟩
theorem dt_f2ftf (p m : Int) (L M : Int) (V : Nat) (c : Int) : Fits (reckon (tabH Try.prog extY conIE hcIE) 300 13 [.int .u64 p, .int .i64 m, .bool false, .int .u64 L, .int .u64 M] [cmp false, cmp false, cmp true, cmp false, cmp true, cmp false, cmp true, num V, num c, cmp false]) (.tuple #[.bool false, .int .u64 ((vO (I2 p M.toNat) none 0 % 18446744073709551616 : Nat) : Int), .int .i64 0]) [(rowS (I2 p M.toNat) none 0 0, true), (decide (c > 0), false), (decide (cmpZ (vO (I2 p M.toNat) none 0) (vO (I2 p M.toNat) (aP16 1) (d16 M.toNat).length) = c), true), (two16 (I2 p M.toNat) none (aP16 1) 0 0 (d16 M.toNat).length (d16 M.toNat).length, true), (decide (0 ≤ M ∧ M < 18446744073709551616), true), (toL (vO (I1 p) (aP16 0) (d16 (sg p).toNat).length) (xp p) 0, true), (rowTo 0 (sgn p) (vO (I1 p) (aP16 0) (d16 (sg p).toNat).length) (d16 (sg p).toNat).length (xp p) 0, false), (okTo (I1 p) (aP16 0) (d16 (sg p).toNat).length (d16 (sg p).toNat).length (xp p) 0, true), lU p, (decide (m > 4), true), (decide (m < 0), false), (decide (cl p < 3), true), lU p, (decide (p ≥ 9223372036854775808), false), (decide (cl p > 3), false), lU p] := ⟨by kernel_rfl, by kernel_rfl, by kernel_rfl, by kernel_rfl⟩
theorem dt_f2ffx (p m : Int) (t : Bool) (L M : Int) (V : Nat) (c : Int) : Fits (reckon (tabH Try.prog extY conIE hcIE) 300 13 [.int .u64 p, .int .i64 m, .bool t, .int .u64 L, .int .u64 M] [cmp false, cmp false, cmp true, cmp false, cmp true, cmp false, cmp false, num V, num c, cmp false]) (.tuple #[.bool false, .int .u64 ((vO (I2 p M.toNat) none 0 % 18446744073709551616 : Nat) : Int), .int .i64 0]) [(rowS (I2 p M.toNat) none 0 0, true), (decide (c > 0), false), (decide (cmpZ (vO (I2 p M.toNat) none 0) (vO (I2 p M.toNat) (aP16 1) (d16 M.toNat).length) = c), true), (two16 (I2 p M.toNat) none (aP16 1) 0 0 (d16 M.toNat).length (d16 M.toNat).length, true), (decide (0 ≤ M ∧ M < 18446744073709551616), true), (toL (vO (I1 p) (aP16 0) (d16 (sg p).toNat).length) (xp p) 0, false), (rowTo 0 (sgn p) (vO (I1 p) (aP16 0) (d16 (sg p).toNat).length) (d16 (sg p).toNat).length (xp p) 0, false), (okTo (I1 p) (aP16 0) (d16 (sg p).toNat).length (d16 (sg p).toNat).length (xp p) 0, true), lU p, (decide (m > 4), true), (decide (m < 0), false), (decide (cl p < 3), true), lU p, (decide (p ≥ 9223372036854775808), false), (decide (cl p > 3), false), lU p] := ⟨by kernel_rfl, by kernel_rfl, by kernel_rfl, by kernel_rfl⟩
theorem dt_f3to (p m : Int) (t : Bool) (L M : Int) (V : Nat) (c : Int) (e : Bool) : Fits (reckon (tabH Try.prog extY conIE hcIE) 300 13 [.int .u64 p, .int .i64 m, .bool t, .int .u64 L, .int .u64 M] [cmp false, cmp false, cmp true, cmp false, cmp false, cmp true, cmp e, num V, num c, cmp true]) (.tuple #[.bool false, .int .u64 M, .int .i64 1]) [(decide (c > 0), true), (decide (cmpZ (vO (I3 p V M.toNat) (aP16 1) (d16 V).length) (vO (I3 p V M.toNat) (aP16 2) (d16 M.toNat).length) = c), true), (two16 (I3 p V M.toNat) (aP16 1) (aP16 2) (d16 V).length (d16 V).length (d16 M.toNat).length (d16 M.toNat).length, true), (decide (0 ≤ M ∧ M < 18446744073709551616), true), (decide (toQ m (sgn p) (vO (I1 p) (aP16 0) (d16 (sg p).toNat).length) (xp p) 0 = V), true), (toL (vO (I1 p) (aP16 0) (d16 (sg p).toNat).length) (xp p) 0, e), (rowTo m (sgn p) (vO (I1 p) (aP16 0) (d16 (sg p).toNat).length) (d16 (sg p).toNat).length (xp p) 0, true), (okTo (I1 p) (aP16 0) (d16 (sg p).toNat).length (d16 (sg p).toNat).length (xp p) 0, true), lU p, (decide (m > 4), false), (decide (m < 0), false), (decide (cl p < 3), true), lU p, (decide (p ≥ 9223372036854775808), false), (decide (cl p > 3), false), lU p] := ⟨by kernel_rfl, by kernel_rfl, by kernel_rfl, by kernel_rfl⟩
theorem dt_f3ttt (p m : Int) (L M : Int) (V : Nat) (c : Int) : Fits (reckon (tabH Try.prog extY conIE hcIE) 300 13 [.int .u64 p, .int .i64 m, .bool true, .int .u64 L, .int .u64 M] [cmp false, cmp false, cmp true, cmp false, cmp false, cmp true, cmp true, num V, num c, cmp false]) (.tuple #[.bool false, .int .u64 ((vO (I3 p V M.toNat) (aP16 1) (d16 V).length % 18446744073709551616 : Nat) : Int), .int .i64 16]) [(rowS (I3 p V M.toNat) (aP16 1) (d16 V).length (d16 V).length, true), (decide (c > 0), false), (decide (cmpZ (vO (I3 p V M.toNat) (aP16 1) (d16 V).length) (vO (I3 p V M.toNat) (aP16 2) (d16 M.toNat).length) = c), true), (two16 (I3 p V M.toNat) (aP16 1) (aP16 2) (d16 V).length (d16 V).length (d16 M.toNat).length (d16 M.toNat).length, true), (decide (0 ≤ M ∧ M < 18446744073709551616), true), (decide (toQ m (sgn p) (vO (I1 p) (aP16 0) (d16 (sg p).toNat).length) (xp p) 0 = V), true), (toL (vO (I1 p) (aP16 0) (d16 (sg p).toNat).length) (xp p) 0, true), (rowTo m (sgn p) (vO (I1 p) (aP16 0) (d16 (sg p).toNat).length) (d16 (sg p).toNat).length (xp p) 0, true), (okTo (I1 p) (aP16 0) (d16 (sg p).toNat).length (d16 (sg p).toNat).length (xp p) 0, true), lU p, (decide (m > 4), false), (decide (m < 0), false), (decide (cl p < 3), true), lU p, (decide (p ≥ 9223372036854775808), false), (decide (cl p > 3), false), lU p] := ⟨by kernel_rfl, by kernel_rfl, by kernel_rfl, by kernel_rfl⟩
theorem dt_f3ttf (p m : Int) (L M : Int) (V : Nat) (c : Int) : Fits (reckon (tabH Try.prog extY conIE hcIE) 300 13 [.int .u64 p, .int .i64 m, .bool false, .int .u64 L, .int .u64 M] [cmp false, cmp false, cmp true, cmp false, cmp false, cmp true, cmp true, num V, num c, cmp false]) (.tuple #[.bool false, .int .u64 ((vO (I3 p V M.toNat) (aP16 1) (d16 V).length % 18446744073709551616 : Nat) : Int), .int .i64 0]) [(rowS (I3 p V M.toNat) (aP16 1) (d16 V).length (d16 V).length, true), (decide (c > 0), false), (decide (cmpZ (vO (I3 p V M.toNat) (aP16 1) (d16 V).length) (vO (I3 p V M.toNat) (aP16 2) (d16 M.toNat).length) = c), true), (two16 (I3 p V M.toNat) (aP16 1) (aP16 2) (d16 V).length (d16 V).length (d16 M.toNat).length (d16 M.toNat).length, true), (decide (0 ≤ M ∧ M < 18446744073709551616), true), (decide (toQ m (sgn p) (vO (I1 p) (aP16 0) (d16 (sg p).toNat).length) (xp p) 0 = V), true), (toL (vO (I1 p) (aP16 0) (d16 (sg p).toNat).length) (xp p) 0, true), (rowTo m (sgn p) (vO (I1 p) (aP16 0) (d16 (sg p).toNat).length) (d16 (sg p).toNat).length (xp p) 0, true), (okTo (I1 p) (aP16 0) (d16 (sg p).toNat).length (d16 (sg p).toNat).length (xp p) 0, true), lU p, (decide (m > 4), false), (decide (m < 0), false), (decide (cl p < 3), true), lU p, (decide (p ≥ 9223372036854775808), false), (decide (cl p > 3), false), lU p] := ⟨by kernel_rfl, by kernel_rfl, by kernel_rfl, by kernel_rfl⟩
theorem dt_f3tfx (p m : Int) (t : Bool) (L M : Int) (V : Nat) (c : Int) : Fits (reckon (tabH Try.prog extY conIE hcIE) 300 13 [.int .u64 p, .int .i64 m, .bool t, .int .u64 L, .int .u64 M] [cmp false, cmp false, cmp true, cmp false, cmp false, cmp true, cmp false, num V, num c, cmp false]) (.tuple #[.bool false, .int .u64 ((vO (I3 p V M.toNat) (aP16 1) (d16 V).length % 18446744073709551616 : Nat) : Int), .int .i64 0]) [(rowS (I3 p V M.toNat) (aP16 1) (d16 V).length (d16 V).length, true), (decide (c > 0), false), (decide (cmpZ (vO (I3 p V M.toNat) (aP16 1) (d16 V).length) (vO (I3 p V M.toNat) (aP16 2) (d16 M.toNat).length) = c), true), (two16 (I3 p V M.toNat) (aP16 1) (aP16 2) (d16 V).length (d16 V).length (d16 M.toNat).length (d16 M.toNat).length, true), (decide (0 ≤ M ∧ M < 18446744073709551616), true), (decide (toQ m (sgn p) (vO (I1 p) (aP16 0) (d16 (sg p).toNat).length) (xp p) 0 = V), true), (toL (vO (I1 p) (aP16 0) (d16 (sg p).toNat).length) (xp p) 0, false), (rowTo m (sgn p) (vO (I1 p) (aP16 0) (d16 (sg p).toNat).length) (d16 (sg p).toNat).length (xp p) 0, true), (okTo (I1 p) (aP16 0) (d16 (sg p).toNat).length (d16 (sg p).toNat).length (xp p) 0, true), lU p, (decide (m > 4), false), (decide (m < 0), false), (decide (cl p < 3), true), lU p, (decide (p ≥ 9223372036854775808), false), (decide (cl p > 3), false), lU p] := ⟨by kernel_rfl, by kernel_rfl, by kernel_rfl, by kernel_rfl⟩
theorem dt_f3fo (p m : Int) (t : Bool) (L M : Int) (V : Nat) (c : Int) (e : Bool) : Fits (reckon (tabH Try.prog extY conIE hcIE) 300 13 [.int .u64 p, .int .i64 m, .bool t, .int .u64 L, .int .u64 M] [cmp false, cmp false, cmp true, cmp false, cmp false, cmp false, cmp e, num V, num c, cmp true]) (.tuple #[.bool false, .int .u64 M, .int .i64 1]) [(decide (c > 0), true), (decide (cmpZ (vO (I2 p M.toNat) none 0) (vO (I2 p M.toNat) (aP16 1) (d16 M.toNat).length) = c), true), (two16 (I2 p M.toNat) none (aP16 1) 0 0 (d16 M.toNat).length (d16 M.toNat).length, true), (decide (0 ≤ M ∧ M < 18446744073709551616), true), (toL (vO (I1 p) (aP16 0) (d16 (sg p).toNat).length) (xp p) 0, e), (rowTo m (sgn p) (vO (I1 p) (aP16 0) (d16 (sg p).toNat).length) (d16 (sg p).toNat).length (xp p) 0, false), (okTo (I1 p) (aP16 0) (d16 (sg p).toNat).length (d16 (sg p).toNat).length (xp p) 0, true), lU p, (decide (m > 4), false), (decide (m < 0), false), (decide (cl p < 3), true), lU p, (decide (p ≥ 9223372036854775808), false), (decide (cl p > 3), false), lU p] := ⟨by kernel_rfl, by kernel_rfl, by kernel_rfl, by kernel_rfl⟩
theorem dt_f3ftt (p m : Int) (L M : Int) (V : Nat) (c : Int) : Fits (reckon (tabH Try.prog extY conIE hcIE) 300 13 [.int .u64 p, .int .i64 m, .bool true, .int .u64 L, .int .u64 M] [cmp false, cmp false, cmp true, cmp false, cmp false, cmp false, cmp true, num V, num c, cmp false]) (.tuple #[.bool false, .int .u64 ((vO (I2 p M.toNat) none 0 % 18446744073709551616 : Nat) : Int), .int .i64 16]) [(rowS (I2 p M.toNat) none 0 0, true), (decide (c > 0), false), (decide (cmpZ (vO (I2 p M.toNat) none 0) (vO (I2 p M.toNat) (aP16 1) (d16 M.toNat).length) = c), true), (two16 (I2 p M.toNat) none (aP16 1) 0 0 (d16 M.toNat).length (d16 M.toNat).length, true), (decide (0 ≤ M ∧ M < 18446744073709551616), true), (toL (vO (I1 p) (aP16 0) (d16 (sg p).toNat).length) (xp p) 0, true), (rowTo m (sgn p) (vO (I1 p) (aP16 0) (d16 (sg p).toNat).length) (d16 (sg p).toNat).length (xp p) 0, false), (okTo (I1 p) (aP16 0) (d16 (sg p).toNat).length (d16 (sg p).toNat).length (xp p) 0, true), lU p, (decide (m > 4), false), (decide (m < 0), false), (decide (cl p < 3), true), lU p, (decide (p ≥ 9223372036854775808), false), (decide (cl p > 3), false), lU p] := ⟨by kernel_rfl, by kernel_rfl, by kernel_rfl, by kernel_rfl⟩
theorem dt_f3ftf (p m : Int) (L M : Int) (V : Nat) (c : Int) : Fits (reckon (tabH Try.prog extY conIE hcIE) 300 13 [.int .u64 p, .int .i64 m, .bool false, .int .u64 L, .int .u64 M] [cmp false, cmp false, cmp true, cmp false, cmp false, cmp false, cmp true, num V, num c, cmp false]) (.tuple #[.bool false, .int .u64 ((vO (I2 p M.toNat) none 0 % 18446744073709551616 : Nat) : Int), .int .i64 0]) [(rowS (I2 p M.toNat) none 0 0, true), (decide (c > 0), false), (decide (cmpZ (vO (I2 p M.toNat) none 0) (vO (I2 p M.toNat) (aP16 1) (d16 M.toNat).length) = c), true), (two16 (I2 p M.toNat) none (aP16 1) 0 0 (d16 M.toNat).length (d16 M.toNat).length, true), (decide (0 ≤ M ∧ M < 18446744073709551616), true), (toL (vO (I1 p) (aP16 0) (d16 (sg p).toNat).length) (xp p) 0, true), (rowTo m (sgn p) (vO (I1 p) (aP16 0) (d16 (sg p).toNat).length) (d16 (sg p).toNat).length (xp p) 0, false), (okTo (I1 p) (aP16 0) (d16 (sg p).toNat).length (d16 (sg p).toNat).length (xp p) 0, true), lU p, (decide (m > 4), false), (decide (m < 0), false), (decide (cl p < 3), true), lU p, (decide (p ≥ 9223372036854775808), false), (decide (cl p > 3), false), lU p] := ⟨by kernel_rfl, by kernel_rfl, by kernel_rfl, by kernel_rfl⟩
theorem dt_f3ffx (p m : Int) (t : Bool) (L M : Int) (V : Nat) (c : Int) : Fits (reckon (tabH Try.prog extY conIE hcIE) 300 13 [.int .u64 p, .int .i64 m, .bool t, .int .u64 L, .int .u64 M] [cmp false, cmp false, cmp true, cmp false, cmp false, cmp false, cmp false, num V, num c, cmp false]) (.tuple #[.bool false, .int .u64 ((vO (I2 p M.toNat) none 0 % 18446744073709551616 : Nat) : Int), .int .i64 0]) [(rowS (I2 p M.toNat) none 0 0, true), (decide (c > 0), false), (decide (cmpZ (vO (I2 p M.toNat) none 0) (vO (I2 p M.toNat) (aP16 1) (d16 M.toNat).length) = c), true), (two16 (I2 p M.toNat) none (aP16 1) 0 0 (d16 M.toNat).length (d16 M.toNat).length, true), (decide (0 ≤ M ∧ M < 18446744073709551616), true), (toL (vO (I1 p) (aP16 0) (d16 (sg p).toNat).length) (xp p) 0, false), (rowTo m (sgn p) (vO (I1 p) (aP16 0) (d16 (sg p).toNat).length) (d16 (sg p).toNat).length (xp p) 0, false), (okTo (I1 p) (aP16 0) (d16 (sg p).toNat).length (d16 (sg p).toNat).length (xp p) 0, true), lU p, (decide (m > 4), false), (decide (m < 0), false), (decide (cl p < 3), true), lU p, (decide (p ≥ 9223372036854775808), false), (decide (cl p > 3), false), lU p] := ⟨by kernel_rfl, by kernel_rfl, by kernel_rfl, by kernel_rfl⟩
theorem do_1 (n : Bool) (x m : Int) (V : Nat) : Fits (reckon (tabH Try.prog extY conIE hcIE) 300 9 [.bool n, .int .u64 x, .int .i64 m] [num V]) (.tuple #[.int .u64 (sS n (rnP m n V 0)), .int .i64 (rnF m n V 0)]) [(decide (vO (IO x) (aP16 0) (d16 x.toNat).length = V), true), (okRo (IO x) (aP16 0) (d16 x.toNat).length (d16 x.toNat).length 0, true), (decide (0 ≤ x ∧ x < 18446744073709551616), true)] := ⟨by kernel_rfl, by kernel_rfl, by kernel_rfl, by kernel_rfl⟩
theorem dt_fin_t (p m : Int) (t : Bool) (L M : Int) (hp : U p) (hB : U L) (c2 : cl p ≤ 2) (hs : sgn p = true) (w : World) : Calls Try.prog 13 #[.int .u64 p, .int .i64 m, .bool t, .int .u64 L, .int .u64 M] w fun r w' => r = .returned (.tuple #[.bool true, .int .u64 (if L.toNat < Go.Rn.whQ m p then L else (Go.Rn.whQ m p : Nat)), .int .i64 (if L.toNat < Go.Rn.whQ m p then 1 else if t = true ∧ Go.Rn.whL p = true then 16 else 0)]) ∧ Tidy w w' := by
  have T0 := tabH_ok conIE_ok hcIE_ok
  have kp : decide (U p) = true := decide_eq_true hp
  have xa := xp_bd p
  have sa := sg_lt p
  have ba := cl_bd p
  have hsd : decide (p ≥ 9223372036854775808) = true := hs
  have kB : decide (0 ≤ L ∧ L < 18446744073709551616) = true := decide_eq_true hB
  have e64 : (2 : Nat) ^ (16 * 4) = 18446744073709551616 := rfl
  have uB : L.toNat < 18446744073709551616 := by have := hB.2; omega
  have l1 := d16_len (A := (sg p).toNat) (k := 4) (by omega)
  have l3 := d16_len (A := L.toNat) (k := 4) (by omega)
  have eA : vO (I1 p) (aP16 0) (d16 (sg p).toNat).length = (sg p).toNat := vO_aP (V := (sg p).toNat) rfl
  have hok : okTo (I1 p) (aP16 0) (d16 (sg p).toNat).length (d16 (sg p).toNat).length (xp p) 0 = true := by
    unfold okTo aP16
    rw [rowP_d16 (A := (sg p).toNat) rfl (by omega), rowOf_d16 (A := (sg p).toNat) rfl, show canB (d16 (sg p).toNat) = true from canB_mk (can_db (by omega) _), blt_iff.2 (by omega), decide_eq_true ⟨⟨by omega, by omega⟩, ⟨by omega, by omega⟩⟩]
    rfl
  obtain ⟨V, hVV⟩ : ∃ V, V = Go.Rn.whQ m p := ⟨_, rfl⟩
  have l2 := whQ_len (m := m) (p := p)
  rw [← hVV] at l2 ⊢
  obtain ⟨c, hk⟩ : ∃ c, cmpZ V L.toNat = c := ⟨_, rfl⟩
  have hcc : c > 0 ↔ L.toNat < V := by rw [← hk]; exact cmpZ_iff
  have hz : ∀ {K}, toQ K (sgn p) (sg p).toNat (xp p) 0 = V → rowTo K (sgn p) (sg p).toNat (d16 (sg p).toNat).length (xp p) 0 = false → V = 0 := fun h1 h2 => h1.symm.trans (nil_zeroI h2)
  have hk0 : V = 0 → cmpZ 0 L.toNat = c := fun h => by rw [h] at hk; exact hk
  obtain ⟨e, he⟩ : ∃ e, Go.Rn.whL p = e := ⟨_, rfl⟩
  have hL : toL (sg p).toNat (xp p) 0 = e := he
  rw [he]
  by_cases hm1 : m < 0
  · have hN : mN m = 0 := by unfold mN; rw [if_pos hm1]
    have hV : toQ 0 (sgn p) (sg p).toNat (xp p) 0 = V := by have h := toQ_mN m (sgn p) (sg p).toNat (xp p) 0; rw [hN] at h; exact h.trans hVV.symm
    cases hr : rowTo 0 (sgn p) (sg p).toNat (d16 (sg p).toNat).length (xp p) 0 with
    | true =>
      by_cases ho : L.toNat < V
      · have hg : decide (c > 0) = true := decide_eq_true (hcc.2 ho)
        rw [if_pos ho, if_pos ho]
        exact fits_calls T0 (dt_t1to p m t L M V c e) (okCons hg (okCons (decide_eq_true (by rw [vO_aP (V := V) rfl, vO_aP (V := L.toNat) rfl]; exact hk)) (okCons (oTwo (V := V) (W := L.toNat) rfl rfl (by omega) (by omega)) (okCons kB (okCons (decide_eq_true (by rw [eA]; exact hV)) (okCons (by rw [eA]; exact hL) (okCons (by rw [eA]; exact hr) (okCons hok (okCons kp (okCons (decide_eq_true hm1) (okCons (decide_eq_true (by omega)) (okCons kp (okCons (hsd) (okCons (decide_eq_false (by omega)) (okL1 kp))))))))))))))) (by rfl) (by rfl) w
      have hg : decide (c > 0) = false := decide_eq_false fun h => ho (hcc.1 h)
      rw [if_neg ho, if_neg ho]
      have ev : ((vO (I3 p V L.toNat) (aP16 1) (d16 V).length % 18446744073709551616 : Nat) : Int) = (V : Int) := by
        rw [vO_aP (V := V) rfl, Nat.mod_eq_of_lt (by omega)]
      cases e with
      | true =>
        cases t with
        | true =>
          have hf := dt_t1ttt p m L M V c
          rw [ev] at hf
          exact fits_calls T0 hf (okCons (rowS_d (V := V) rfl (by omega)) (okCons hg (okCons (decide_eq_true (by rw [vO_aP (V := V) rfl, vO_aP (V := L.toNat) rfl]; exact hk)) (okCons (oTwo (V := V) (W := L.toNat) rfl rfl (by omega) (by omega)) (okCons kB (okCons (decide_eq_true (by rw [eA]; exact hV)) (okCons (by rw [eA]; exact hL) (okCons (by rw [eA]; exact hr) (okCons hok (okCons kp (okCons (decide_eq_true hm1) (okCons (decide_eq_true (by omega)) (okCons kp (okCons (hsd) (okCons (decide_eq_false (by omega)) (okL1 kp)))))))))))))))) (by rfl) (by rfl) w
        | false =>
          have hf := dt_t1ttf p m L M V c
          rw [ev] at hf
          exact fits_calls T0 hf (okCons (rowS_d (V := V) rfl (by omega)) (okCons hg (okCons (decide_eq_true (by rw [vO_aP (V := V) rfl, vO_aP (V := L.toNat) rfl]; exact hk)) (okCons (oTwo (V := V) (W := L.toNat) rfl rfl (by omega) (by omega)) (okCons kB (okCons (decide_eq_true (by rw [eA]; exact hV)) (okCons (by rw [eA]; exact hL) (okCons (by rw [eA]; exact hr) (okCons hok (okCons kp (okCons (decide_eq_true hm1) (okCons (decide_eq_true (by omega)) (okCons kp (okCons (hsd) (okCons (decide_eq_false (by omega)) (okL1 kp)))))))))))))))) (by rfl) (by rfl) w
      | false =>
        rw [if_neg (by simp)]
        have hf := dt_t1tfx p m t L M V c
        rw [ev] at hf
        exact fits_calls T0 hf (okCons (rowS_d (V := V) rfl (by omega)) (okCons hg (okCons (decide_eq_true (by rw [vO_aP (V := V) rfl, vO_aP (V := L.toNat) rfl]; exact hk)) (okCons (oTwo (V := V) (W := L.toNat) rfl rfl (by omega) (by omega)) (okCons kB (okCons (decide_eq_true (by rw [eA]; exact hV)) (okCons (by rw [eA]; exact hL) (okCons (by rw [eA]; exact hr) (okCons hok (okCons kp (okCons (decide_eq_true hm1) (okCons (decide_eq_true (by omega)) (okCons kp (okCons (hsd) (okCons (decide_eq_false (by omega)) (okL1 kp)))))))))))))))) (by rfl) (by rfl) w
    | false =>
      by_cases ho : L.toNat < V
      · have hg : decide (c > 0) = true := decide_eq_true (hcc.2 ho)
        rw [if_pos ho, if_pos ho]
        exact fits_calls T0 (dt_t1fo p m t L M V c e) (okCons hg (okCons (decide_eq_true (by rw [vO_nil _, vO_aP (V := L.toNat) rfl]; exact (hk0 (hz hV hr)))) (okCons (two_nilI (W := L.toNat) rfl (by omega)) (okCons kB (okCons (by rw [eA]; exact hL) (okCons (by rw [eA]; exact hr) (okCons hok (okCons kp (okCons (decide_eq_true hm1) (okCons (decide_eq_true (by omega)) (okCons kp (okCons (hsd) (okCons (decide_eq_false (by omega)) (okL1 kp)))))))))))))) (by rfl) (by rfl) w
      have hg : decide (c > 0) = false := decide_eq_false fun h => ho (hcc.1 h)
      rw [if_neg ho, if_neg ho]
      have ev : ((vO (I2 p L.toNat) none 0 % 18446744073709551616 : Nat) : Int) = (V : Int) := by
        rw [vO_nil, hz hV hr]
      cases e with
      | true =>
        cases t with
        | true =>
          have hf := dt_t1ftt p m L M V c
          rw [ev] at hf
          exact fits_calls T0 hf (okCons (rowS_nil _) (okCons hg (okCons (decide_eq_true (by rw [vO_nil _, vO_aP (V := L.toNat) rfl]; exact (hk0 (hz hV hr)))) (okCons (two_nilI (W := L.toNat) rfl (by omega)) (okCons kB (okCons (by rw [eA]; exact hL) (okCons (by rw [eA]; exact hr) (okCons hok (okCons kp (okCons (decide_eq_true hm1) (okCons (decide_eq_true (by omega)) (okCons kp (okCons (hsd) (okCons (decide_eq_false (by omega)) (okL1 kp))))))))))))))) (by rfl) (by rfl) w
        | false =>
          have hf := dt_t1ftf p m L M V c
          rw [ev] at hf
          exact fits_calls T0 hf (okCons (rowS_nil _) (okCons hg (okCons (decide_eq_true (by rw [vO_nil _, vO_aP (V := L.toNat) rfl]; exact (hk0 (hz hV hr)))) (okCons (two_nilI (W := L.toNat) rfl (by omega)) (okCons kB (okCons (by rw [eA]; exact hL) (okCons (by rw [eA]; exact hr) (okCons hok (okCons kp (okCons (decide_eq_true hm1) (okCons (decide_eq_true (by omega)) (okCons kp (okCons (hsd) (okCons (decide_eq_false (by omega)) (okL1 kp))))))))))))))) (by rfl) (by rfl) w
      | false =>
        rw [if_neg (by simp)]
        have hf := dt_t1ffx p m t L M V c
        rw [ev] at hf
        exact fits_calls T0 hf (okCons (rowS_nil _) (okCons hg (okCons (decide_eq_true (by rw [vO_nil _, vO_aP (V := L.toNat) rfl]; exact (hk0 (hz hV hr)))) (okCons (two_nilI (W := L.toNat) rfl (by omega)) (okCons kB (okCons (by rw [eA]; exact hL) (okCons (by rw [eA]; exact hr) (okCons hok (okCons kp (okCons (decide_eq_true hm1) (okCons (decide_eq_true (by omega)) (okCons kp (okCons (hsd) (okCons (decide_eq_false (by omega)) (okL1 kp))))))))))))))) (by rfl) (by rfl) w
  by_cases hm2 : m > 4
  · have hN : mN m = 0 := by unfold mN; rw [if_neg hm1, if_pos hm2]
    have hV : toQ 0 (sgn p) (sg p).toNat (xp p) 0 = V := by have h := toQ_mN m (sgn p) (sg p).toNat (xp p) 0; rw [hN] at h; exact h.trans hVV.symm
    cases hr : rowTo 0 (sgn p) (sg p).toNat (d16 (sg p).toNat).length (xp p) 0 with
    | true =>
      by_cases ho : L.toNat < V
      · have hg : decide (c > 0) = true := decide_eq_true (hcc.2 ho)
        rw [if_pos ho, if_pos ho]
        exact fits_calls T0 (dt_t2to p m t L M V c e) (okCons hg (okCons (decide_eq_true (by rw [vO_aP (V := V) rfl, vO_aP (V := L.toNat) rfl]; exact hk)) (okCons (oTwo (V := V) (W := L.toNat) rfl rfl (by omega) (by omega)) (okCons kB (okCons (decide_eq_true (by rw [eA]; exact hV)) (okCons (by rw [eA]; exact hL) (okCons (by rw [eA]; exact hr) (okCons hok (okCons kp (okCons (decide_eq_true hm2) (okCons (decide_eq_false hm1) (okCons (decide_eq_true (by omega)) (okCons kp (okCons (hsd) (okCons (decide_eq_false (by omega)) (okL1 kp)))))))))))))))) (by rfl) (by rfl) w
      have hg : decide (c > 0) = false := decide_eq_false fun h => ho (hcc.1 h)
      rw [if_neg ho, if_neg ho]
      have ev : ((vO (I3 p V L.toNat) (aP16 1) (d16 V).length % 18446744073709551616 : Nat) : Int) = (V : Int) := by
        rw [vO_aP (V := V) rfl, Nat.mod_eq_of_lt (by omega)]
      cases e with
      | true =>
        cases t with
        | true =>
          have hf := dt_t2ttt p m L M V c
          rw [ev] at hf
          exact fits_calls T0 hf (okCons (rowS_d (V := V) rfl (by omega)) (okCons hg (okCons (decide_eq_true (by rw [vO_aP (V := V) rfl, vO_aP (V := L.toNat) rfl]; exact hk)) (okCons (oTwo (V := V) (W := L.toNat) rfl rfl (by omega) (by omega)) (okCons kB (okCons (decide_eq_true (by rw [eA]; exact hV)) (okCons (by rw [eA]; exact hL) (okCons (by rw [eA]; exact hr) (okCons hok (okCons kp (okCons (decide_eq_true hm2) (okCons (decide_eq_false hm1) (okCons (decide_eq_true (by omega)) (okCons kp (okCons (hsd) (okCons (decide_eq_false (by omega)) (okL1 kp))))))))))))))))) (by rfl) (by rfl) w
        | false =>
          have hf := dt_t2ttf p m L M V c
          rw [ev] at hf
          exact fits_calls T0 hf (okCons (rowS_d (V := V) rfl (by omega)) (okCons hg (okCons (decide_eq_true (by rw [vO_aP (V := V) rfl, vO_aP (V := L.toNat) rfl]; exact hk)) (okCons (oTwo (V := V) (W := L.toNat) rfl rfl (by omega) (by omega)) (okCons kB (okCons (decide_eq_true (by rw [eA]; exact hV)) (okCons (by rw [eA]; exact hL) (okCons (by rw [eA]; exact hr) (okCons hok (okCons kp (okCons (decide_eq_true hm2) (okCons (decide_eq_false hm1) (okCons (decide_eq_true (by omega)) (okCons kp (okCons (hsd) (okCons (decide_eq_false (by omega)) (okL1 kp))))))))))))))))) (by rfl) (by rfl) w
      | false =>
        rw [if_neg (by simp)]
        have hf := dt_t2tfx p m t L M V c
        rw [ev] at hf
        exact fits_calls T0 hf (okCons (rowS_d (V := V) rfl (by omega)) (okCons hg (okCons (decide_eq_true (by rw [vO_aP (V := V) rfl, vO_aP (V := L.toNat) rfl]; exact hk)) (okCons (oTwo (V := V) (W := L.toNat) rfl rfl (by omega) (by omega)) (okCons kB (okCons (decide_eq_true (by rw [eA]; exact hV)) (okCons (by rw [eA]; exact hL) (okCons (by rw [eA]; exact hr) (okCons hok (okCons kp (okCons (decide_eq_true hm2) (okCons (decide_eq_false hm1) (okCons (decide_eq_true (by omega)) (okCons kp (okCons (hsd) (okCons (decide_eq_false (by omega)) (okL1 kp))))))))))))))))) (by rfl) (by rfl) w
    | false =>
      by_cases ho : L.toNat < V
      · have hg : decide (c > 0) = true := decide_eq_true (hcc.2 ho)
        rw [if_pos ho, if_pos ho]
        exact fits_calls T0 (dt_t2fo p m t L M V c e) (okCons hg (okCons (decide_eq_true (by rw [vO_nil _, vO_aP (V := L.toNat) rfl]; exact (hk0 (hz hV hr)))) (okCons (two_nilI (W := L.toNat) rfl (by omega)) (okCons kB (okCons (by rw [eA]; exact hL) (okCons (by rw [eA]; exact hr) (okCons hok (okCons kp (okCons (decide_eq_true hm2) (okCons (decide_eq_false hm1) (okCons (decide_eq_true (by omega)) (okCons kp (okCons (hsd) (okCons (decide_eq_false (by omega)) (okL1 kp))))))))))))))) (by rfl) (by rfl) w
      have hg : decide (c > 0) = false := decide_eq_false fun h => ho (hcc.1 h)
      rw [if_neg ho, if_neg ho]
      have ev : ((vO (I2 p L.toNat) none 0 % 18446744073709551616 : Nat) : Int) = (V : Int) := by
        rw [vO_nil, hz hV hr]
      cases e with
      | true =>
        cases t with
        | true =>
          have hf := dt_t2ftt p m L M V c
          rw [ev] at hf
          exact fits_calls T0 hf (okCons (rowS_nil _) (okCons hg (okCons (decide_eq_true (by rw [vO_nil _, vO_aP (V := L.toNat) rfl]; exact (hk0 (hz hV hr)))) (okCons (two_nilI (W := L.toNat) rfl (by omega)) (okCons kB (okCons (by rw [eA]; exact hL) (okCons (by rw [eA]; exact hr) (okCons hok (okCons kp (okCons (decide_eq_true hm2) (okCons (decide_eq_false hm1) (okCons (decide_eq_true (by omega)) (okCons kp (okCons (hsd) (okCons (decide_eq_false (by omega)) (okL1 kp)))))))))))))))) (by rfl) (by rfl) w
        | false =>
          have hf := dt_t2ftf p m L M V c
          rw [ev] at hf
          exact fits_calls T0 hf (okCons (rowS_nil _) (okCons hg (okCons (decide_eq_true (by rw [vO_nil _, vO_aP (V := L.toNat) rfl]; exact (hk0 (hz hV hr)))) (okCons (two_nilI (W := L.toNat) rfl (by omega)) (okCons kB (okCons (by rw [eA]; exact hL) (okCons (by rw [eA]; exact hr) (okCons hok (okCons kp (okCons (decide_eq_true hm2) (okCons (decide_eq_false hm1) (okCons (decide_eq_true (by omega)) (okCons kp (okCons (hsd) (okCons (decide_eq_false (by omega)) (okL1 kp)))))))))))))))) (by rfl) (by rfl) w
      | false =>
        rw [if_neg (by simp)]
        have hf := dt_t2ffx p m t L M V c
        rw [ev] at hf
        exact fits_calls T0 hf (okCons (rowS_nil _) (okCons hg (okCons (decide_eq_true (by rw [vO_nil _, vO_aP (V := L.toNat) rfl]; exact (hk0 (hz hV hr)))) (okCons (two_nilI (W := L.toNat) rfl (by omega)) (okCons kB (okCons (by rw [eA]; exact hL) (okCons (by rw [eA]; exact hr) (okCons hok (okCons kp (okCons (decide_eq_true hm2) (okCons (decide_eq_false hm1) (okCons (decide_eq_true (by omega)) (okCons kp (okCons (hsd) (okCons (decide_eq_false (by omega)) (okL1 kp)))))))))))))))) (by rfl) (by rfl) w
  have hV : toQ m (sgn p) (sg p).toNat (xp p) 0 = V := hVV.symm
  cases hr : rowTo m (sgn p) (sg p).toNat (d16 (sg p).toNat).length (xp p) 0 with
  | true =>
    by_cases ho : L.toNat < V
    · have hg : decide (c > 0) = true := decide_eq_true (hcc.2 ho)
      rw [if_pos ho, if_pos ho]
      exact fits_calls T0 (dt_t3to p m t L M V c e) (okCons hg (okCons (decide_eq_true (by rw [vO_aP (V := V) rfl, vO_aP (V := L.toNat) rfl]; exact hk)) (okCons (oTwo (V := V) (W := L.toNat) rfl rfl (by omega) (by omega)) (okCons kB (okCons (decide_eq_true (by rw [eA]; exact hV)) (okCons (by rw [eA]; exact hL) (okCons (by rw [eA]; exact hr) (okCons hok (okCons kp (okCons (decide_eq_false hm2) (okCons (decide_eq_false hm1) (okCons (decide_eq_true (by omega)) (okCons kp (okCons (hsd) (okCons (decide_eq_false (by omega)) (okL1 kp)))))))))))))))) (by rfl) (by rfl) w
    have hg : decide (c > 0) = false := decide_eq_false fun h => ho (hcc.1 h)
    rw [if_neg ho, if_neg ho]
    have ev : ((vO (I3 p V L.toNat) (aP16 1) (d16 V).length % 18446744073709551616 : Nat) : Int) = (V : Int) := by
      rw [vO_aP (V := V) rfl, Nat.mod_eq_of_lt (by omega)]
    cases e with
    | true =>
      cases t with
      | true =>
        have hf := dt_t3ttt p m L M V c
        rw [ev] at hf
        exact fits_calls T0 hf (okCons (rowS_d (V := V) rfl (by omega)) (okCons hg (okCons (decide_eq_true (by rw [vO_aP (V := V) rfl, vO_aP (V := L.toNat) rfl]; exact hk)) (okCons (oTwo (V := V) (W := L.toNat) rfl rfl (by omega) (by omega)) (okCons kB (okCons (decide_eq_true (by rw [eA]; exact hV)) (okCons (by rw [eA]; exact hL) (okCons (by rw [eA]; exact hr) (okCons hok (okCons kp (okCons (decide_eq_false hm2) (okCons (decide_eq_false hm1) (okCons (decide_eq_true (by omega)) (okCons kp (okCons (hsd) (okCons (decide_eq_false (by omega)) (okL1 kp))))))))))))))))) (by rfl) (by rfl) w
      | false =>
        have hf := dt_t3ttf p m L M V c
        rw [ev] at hf
        exact fits_calls T0 hf (okCons (rowS_d (V := V) rfl (by omega)) (okCons hg (okCons (decide_eq_true (by rw [vO_aP (V := V) rfl, vO_aP (V := L.toNat) rfl]; exact hk)) (okCons (oTwo (V := V) (W := L.toNat) rfl rfl (by omega) (by omega)) (okCons kB (okCons (decide_eq_true (by rw [eA]; exact hV)) (okCons (by rw [eA]; exact hL) (okCons (by rw [eA]; exact hr) (okCons hok (okCons kp (okCons (decide_eq_false hm2) (okCons (decide_eq_false hm1) (okCons (decide_eq_true (by omega)) (okCons kp (okCons (hsd) (okCons (decide_eq_false (by omega)) (okL1 kp))))))))))))))))) (by rfl) (by rfl) w
    | false =>
      rw [if_neg (by simp)]
      have hf := dt_t3tfx p m t L M V c
      rw [ev] at hf
      exact fits_calls T0 hf (okCons (rowS_d (V := V) rfl (by omega)) (okCons hg (okCons (decide_eq_true (by rw [vO_aP (V := V) rfl, vO_aP (V := L.toNat) rfl]; exact hk)) (okCons (oTwo (V := V) (W := L.toNat) rfl rfl (by omega) (by omega)) (okCons kB (okCons (decide_eq_true (by rw [eA]; exact hV)) (okCons (by rw [eA]; exact hL) (okCons (by rw [eA]; exact hr) (okCons hok (okCons kp (okCons (decide_eq_false hm2) (okCons (decide_eq_false hm1) (okCons (decide_eq_true (by omega)) (okCons kp (okCons (hsd) (okCons (decide_eq_false (by omega)) (okL1 kp))))))))))))))))) (by rfl) (by rfl) w
  | false =>
    by_cases ho : L.toNat < V
    · have hg : decide (c > 0) = true := decide_eq_true (hcc.2 ho)
      rw [if_pos ho, if_pos ho]
      exact fits_calls T0 (dt_t3fo p m t L M V c e) (okCons hg (okCons (decide_eq_true (by rw [vO_nil _, vO_aP (V := L.toNat) rfl]; exact (hk0 (hz hV hr)))) (okCons (two_nilI (W := L.toNat) rfl (by omega)) (okCons kB (okCons (by rw [eA]; exact hL) (okCons (by rw [eA]; exact hr) (okCons hok (okCons kp (okCons (decide_eq_false hm2) (okCons (decide_eq_false hm1) (okCons (decide_eq_true (by omega)) (okCons kp (okCons (hsd) (okCons (decide_eq_false (by omega)) (okL1 kp))))))))))))))) (by rfl) (by rfl) w
    have hg : decide (c > 0) = false := decide_eq_false fun h => ho (hcc.1 h)
    rw [if_neg ho, if_neg ho]
    have ev : ((vO (I2 p L.toNat) none 0 % 18446744073709551616 : Nat) : Int) = (V : Int) := by
      rw [vO_nil, hz hV hr]
    cases e with
    | true =>
      cases t with
      | true =>
        have hf := dt_t3ftt p m L M V c
        rw [ev] at hf
        exact fits_calls T0 hf (okCons (rowS_nil _) (okCons hg (okCons (decide_eq_true (by rw [vO_nil _, vO_aP (V := L.toNat) rfl]; exact (hk0 (hz hV hr)))) (okCons (two_nilI (W := L.toNat) rfl (by omega)) (okCons kB (okCons (by rw [eA]; exact hL) (okCons (by rw [eA]; exact hr) (okCons hok (okCons kp (okCons (decide_eq_false hm2) (okCons (decide_eq_false hm1) (okCons (decide_eq_true (by omega)) (okCons kp (okCons (hsd) (okCons (decide_eq_false (by omega)) (okL1 kp)))))))))))))))) (by rfl) (by rfl) w
      | false =>
        have hf := dt_t3ftf p m L M V c
        rw [ev] at hf
        exact fits_calls T0 hf (okCons (rowS_nil _) (okCons hg (okCons (decide_eq_true (by rw [vO_nil _, vO_aP (V := L.toNat) rfl]; exact (hk0 (hz hV hr)))) (okCons (two_nilI (W := L.toNat) rfl (by omega)) (okCons kB (okCons (by rw [eA]; exact hL) (okCons (by rw [eA]; exact hr) (okCons hok (okCons kp (okCons (decide_eq_false hm2) (okCons (decide_eq_false hm1) (okCons (decide_eq_true (by omega)) (okCons kp (okCons (hsd) (okCons (decide_eq_false (by omega)) (okL1 kp)))))))))))))))) (by rfl) (by rfl) w
    | false =>
      rw [if_neg (by simp)]
      have hf := dt_t3ffx p m t L M V c
      rw [ev] at hf
      exact fits_calls T0 hf (okCons (rowS_nil _) (okCons hg (okCons (decide_eq_true (by rw [vO_nil _, vO_aP (V := L.toNat) rfl]; exact (hk0 (hz hV hr)))) (okCons (two_nilI (W := L.toNat) rfl (by omega)) (okCons kB (okCons (by rw [eA]; exact hL) (okCons (by rw [eA]; exact hr) (okCons hok (okCons kp (okCons (decide_eq_false hm2) (okCons (decide_eq_false hm1) (okCons (decide_eq_true (by omega)) (okCons kp (okCons (hsd) (okCons (decide_eq_false (by omega)) (okL1 kp)))))))))))))))) (by rfl) (by rfl) w
theorem dt_fin_f (p m : Int) (t : Bool) (L M : Int) (hp : U p) (hB : U M) (c2 : cl p ≤ 2) (hs : sgn p = false) (w : World) : Calls Try.prog 13 #[.int .u64 p, .int .i64 m, .bool t, .int .u64 L, .int .u64 M] w fun r w' => r = .returned (.tuple #[.bool false, .int .u64 (if M.toNat < Go.Rn.whQ m p then M else (Go.Rn.whQ m p : Nat)), .int .i64 (if M.toNat < Go.Rn.whQ m p then 1 else if t = true ∧ Go.Rn.whL p = true then 16 else 0)]) ∧ Tidy w w' := by
  have T0 := tabH_ok conIE_ok hcIE_ok
  have kp : decide (U p) = true := decide_eq_true hp
  have xa := xp_bd p
  have sa := sg_lt p
  have ba := cl_bd p
  have hsd : decide (p ≥ 9223372036854775808) = false := hs
  have kB : decide (0 ≤ M ∧ M < 18446744073709551616) = true := decide_eq_true hB
  have e64 : (2 : Nat) ^ (16 * 4) = 18446744073709551616 := rfl
  have uB : M.toNat < 18446744073709551616 := by have := hB.2; omega
  have l1 := d16_len (A := (sg p).toNat) (k := 4) (by omega)
  have l3 := d16_len (A := M.toNat) (k := 4) (by omega)
  have eA : vO (I1 p) (aP16 0) (d16 (sg p).toNat).length = (sg p).toNat := vO_aP (V := (sg p).toNat) rfl
  have hok : okTo (I1 p) (aP16 0) (d16 (sg p).toNat).length (d16 (sg p).toNat).length (xp p) 0 = true := by
    unfold okTo aP16
    rw [rowP_d16 (A := (sg p).toNat) rfl (by omega), rowOf_d16 (A := (sg p).toNat) rfl, show canB (d16 (sg p).toNat) = true from canB_mk (can_db (by omega) _), blt_iff.2 (by omega), decide_eq_true ⟨⟨by omega, by omega⟩, ⟨by omega, by omega⟩⟩]
    rfl
  obtain ⟨V, hVV⟩ : ∃ V, V = Go.Rn.whQ m p := ⟨_, rfl⟩
  have l2 := whQ_len (m := m) (p := p)
  rw [← hVV] at l2 ⊢
  obtain ⟨c, hk⟩ : ∃ c, cmpZ V M.toNat = c := ⟨_, rfl⟩
  have hcc : c > 0 ↔ M.toNat < V := by rw [← hk]; exact cmpZ_iff
  have hz : ∀ {K}, toQ K (sgn p) (sg p).toNat (xp p) 0 = V → rowTo K (sgn p) (sg p).toNat (d16 (sg p).toNat).length (xp p) 0 = false → V = 0 := fun h1 h2 => h1.symm.trans (nil_zeroI h2)
  have hk0 : V = 0 → cmpZ 0 M.toNat = c := fun h => by rw [h] at hk; exact hk
  obtain ⟨e, he⟩ : ∃ e, Go.Rn.whL p = e := ⟨_, rfl⟩
  have hL : toL (sg p).toNat (xp p) 0 = e := he
  rw [he]
  by_cases hm1 : m < 0
  · have hN : mN m = 0 := by unfold mN; rw [if_pos hm1]
    have hV : toQ 0 (sgn p) (sg p).toNat (xp p) 0 = V := by have h := toQ_mN m (sgn p) (sg p).toNat (xp p) 0; rw [hN] at h; exact h.trans hVV.symm
    cases hr : rowTo 0 (sgn p) (sg p).toNat (d16 (sg p).toNat).length (xp p) 0 with
    | true =>
      by_cases ho : M.toNat < V
      · have hg : decide (c > 0) = true := decide_eq_true (hcc.2 ho)
        rw [if_pos ho, if_pos ho]
        exact fits_calls T0 (dt_f1to p m t L M V c e) (okCons hg (okCons (decide_eq_true (by rw [vO_aP (V := V) rfl, vO_aP (V := M.toNat) rfl]; exact hk)) (okCons (oTwo (V := V) (W := M.toNat) rfl rfl (by omega) (by omega)) (okCons kB (okCons (decide_eq_true (by rw [eA]; exact hV)) (okCons (by rw [eA]; exact hL) (okCons (by rw [eA]; exact hr) (okCons hok (okCons kp (okCons (decide_eq_true hm1) (okCons (decide_eq_true (by omega)) (okCons kp (okCons (hsd) (okCons (decide_eq_false (by omega)) (okL1 kp))))))))))))))) (by rfl) (by rfl) w
      have hg : decide (c > 0) = false := decide_eq_false fun h => ho (hcc.1 h)
      rw [if_neg ho, if_neg ho]
      have ev : ((vO (I3 p V M.toNat) (aP16 1) (d16 V).length % 18446744073709551616 : Nat) : Int) = (V : Int) := by
        rw [vO_aP (V := V) rfl, Nat.mod_eq_of_lt (by omega)]
      cases e with
      | true =>
        cases t with
        | true =>
          have hf := dt_f1ttt p m L M V c
          rw [ev] at hf
          exact fits_calls T0 hf (okCons (rowS_d (V := V) rfl (by omega)) (okCons hg (okCons (decide_eq_true (by rw [vO_aP (V := V) rfl, vO_aP (V := M.toNat) rfl]; exact hk)) (okCons (oTwo (V := V) (W := M.toNat) rfl rfl (by omega) (by omega)) (okCons kB (okCons (decide_eq_true (by rw [eA]; exact hV)) (okCons (by rw [eA]; exact hL) (okCons (by rw [eA]; exact hr) (okCons hok (okCons kp (okCons (decide_eq_true hm1) (okCons (decide_eq_true (by omega)) (okCons kp (okCons (hsd) (okCons (decide_eq_false (by omega)) (okL1 kp)))))))))))))))) (by rfl) (by rfl) w
        | false =>
          have hf := dt_f1ttf p m L M V c
          rw [ev] at hf
          exact fits_calls T0 hf (okCons (rowS_d (V := V) rfl (by omega)) (okCons hg (okCons (decide_eq_true (by rw [vO_aP (V := V) rfl, vO_aP (V := M.toNat) rfl]; exact hk)) (okCons (oTwo (V := V) (W := M.toNat) rfl rfl (by omega) (by omega)) (okCons kB (okCons (decide_eq_true (by rw [eA]; exact hV)) (okCons (by rw [eA]; exact hL) (okCons (by rw [eA]; exact hr) (okCons hok (okCons kp (okCons (decide_eq_true hm1) (okCons (decide_eq_true (by omega)) (okCons kp (okCons (hsd) (okCons (decide_eq_false (by omega)) (okL1 kp)))))))))))))))) (by rfl) (by rfl) w
      | false =>
        rw [if_neg (by simp)]
        have hf := dt_f1tfx p m t L M V c
        rw [ev] at hf
        exact fits_calls T0 hf (okCons (rowS_d (V := V) rfl (by omega)) (okCons hg (okCons (decide_eq_true (by rw [vO_aP (V := V) rfl, vO_aP (V := M.toNat) rfl]; exact hk)) (okCons (oTwo (V := V) (W := M.toNat) rfl rfl (by omega) (by omega)) (okCons kB (okCons (decide_eq_true (by rw [eA]; exact hV)) (okCons (by rw [eA]; exact hL) (okCons (by rw [eA]; exact hr) (okCons hok (okCons kp (okCons (decide_eq_true hm1) (okCons (decide_eq_true (by omega)) (okCons kp (okCons (hsd) (okCons (decide_eq_false (by omega)) (okL1 kp)))))))))))))))) (by rfl) (by rfl) w
    | false =>
      by_cases ho : M.toNat < V
      · have hg : decide (c > 0) = true := decide_eq_true (hcc.2 ho)
        rw [if_pos ho, if_pos ho]
        exact fits_calls T0 (dt_f1fo p m t L M V c e) (okCons hg (okCons (decide_eq_true (by rw [vO_nil _, vO_aP (V := M.toNat) rfl]; exact (hk0 (hz hV hr)))) (okCons (two_nilI (W := M.toNat) rfl (by omega)) (okCons kB (okCons (by rw [eA]; exact hL) (okCons (by rw [eA]; exact hr) (okCons hok (okCons kp (okCons (decide_eq_true hm1) (okCons (decide_eq_true (by omega)) (okCons kp (okCons (hsd) (okCons (decide_eq_false (by omega)) (okL1 kp)))))))))))))) (by rfl) (by rfl) w
      have hg : decide (c > 0) = false := decide_eq_false fun h => ho (hcc.1 h)
      rw [if_neg ho, if_neg ho]
      have ev : ((vO (I2 p M.toNat) none 0 % 18446744073709551616 : Nat) : Int) = (V : Int) := by
        rw [vO_nil, hz hV hr]
      cases e with
      | true =>
        cases t with
        | true =>
          have hf := dt_f1ftt p m L M V c
          rw [ev] at hf
          exact fits_calls T0 hf (okCons (rowS_nil _) (okCons hg (okCons (decide_eq_true (by rw [vO_nil _, vO_aP (V := M.toNat) rfl]; exact (hk0 (hz hV hr)))) (okCons (two_nilI (W := M.toNat) rfl (by omega)) (okCons kB (okCons (by rw [eA]; exact hL) (okCons (by rw [eA]; exact hr) (okCons hok (okCons kp (okCons (decide_eq_true hm1) (okCons (decide_eq_true (by omega)) (okCons kp (okCons (hsd) (okCons (decide_eq_false (by omega)) (okL1 kp))))))))))))))) (by rfl) (by rfl) w
        | false =>
          have hf := dt_f1ftf p m L M V c
          rw [ev] at hf
          exact fits_calls T0 hf (okCons (rowS_nil _) (okCons hg (okCons (decide_eq_true (by rw [vO_nil _, vO_aP (V := M.toNat) rfl]; exact (hk0 (hz hV hr)))) (okCons (two_nilI (W := M.toNat) rfl (by omega)) (okCons kB (okCons (by rw [eA]; exact hL) (okCons (by rw [eA]; exact hr) (okCons hok (okCons kp (okCons (decide_eq_true hm1) (okCons (decide_eq_true (by omega)) (okCons kp (okCons (hsd) (okCons (decide_eq_false (by omega)) (okL1 kp))))))))))))))) (by rfl) (by rfl) w
      | false =>
        rw [if_neg (by simp)]
        have hf := dt_f1ffx p m t L M V c
        rw [ev] at hf
        exact fits_calls T0 hf (okCons (rowS_nil _) (okCons hg (okCons (decide_eq_true (by rw [vO_nil _, vO_aP (V := M.toNat) rfl]; exact (hk0 (hz hV hr)))) (okCons (two_nilI (W := M.toNat) rfl (by omega)) (okCons kB (okCons (by rw [eA]; exact hL) (okCons (by rw [eA]; exact hr) (okCons hok (okCons kp (okCons (decide_eq_true hm1) (okCons (decide_eq_true (by omega)) (okCons kp (okCons (hsd) (okCons (decide_eq_false (by omega)) (okL1 kp))))))))))))))) (by rfl) (by rfl) w
  by_cases hm2 : m > 4
  · have hN : mN m = 0 := by unfold mN; rw [if_neg hm1, if_pos hm2]
    have hV : toQ 0 (sgn p) (sg p).toNat (xp p) 0 = V := by have h := toQ_mN m (sgn p) (sg p).toNat (xp p) 0; rw [hN] at h; exact h.trans hVV.symm
    cases hr : rowTo 0 (sgn p) (sg p).toNat (d16 (sg p).toNat).length (xp p) 0 with
    | true =>
      by_cases ho : M.toNat < V
      · have hg : decide (c > 0) = true := decide_eq_true (hcc.2 ho)
        rw [if_pos ho, if_pos ho]
        exact fits_calls T0 (dt_f2to p m t L M V c e) (okCons hg (okCons (decide_eq_true (by rw [vO_aP (V := V) rfl, vO_aP (V := M.toNat) rfl]; exact hk)) (okCons (oTwo (V := V) (W := M.toNat) rfl rfl (by omega) (by omega)) (okCons kB (okCons (decide_eq_true (by rw [eA]; exact hV)) (okCons (by rw [eA]; exact hL) (okCons (by rw [eA]; exact hr) (okCons hok (okCons kp (okCons (decide_eq_true hm2) (okCons (decide_eq_false hm1) (okCons (decide_eq_true (by omega)) (okCons kp (okCons (hsd) (okCons (decide_eq_false (by omega)) (okL1 kp)))))))))))))))) (by rfl) (by rfl) w
      have hg : decide (c > 0) = false := decide_eq_false fun h => ho (hcc.1 h)
      rw [if_neg ho, if_neg ho]
      have ev : ((vO (I3 p V M.toNat) (aP16 1) (d16 V).length % 18446744073709551616 : Nat) : Int) = (V : Int) := by
        rw [vO_aP (V := V) rfl, Nat.mod_eq_of_lt (by omega)]
      cases e with
      | true =>
        cases t with
        | true =>
          have hf := dt_f2ttt p m L M V c
          rw [ev] at hf
          exact fits_calls T0 hf (okCons (rowS_d (V := V) rfl (by omega)) (okCons hg (okCons (decide_eq_true (by rw [vO_aP (V := V) rfl, vO_aP (V := M.toNat) rfl]; exact hk)) (okCons (oTwo (V := V) (W := M.toNat) rfl rfl (by omega) (by omega)) (okCons kB (okCons (decide_eq_true (by rw [eA]; exact hV)) (okCons (by rw [eA]; exact hL) (okCons (by rw [eA]; exact hr) (okCons hok (okCons kp (okCons (decide_eq_true hm2) (okCons (decide_eq_false hm1) (okCons (decide_eq_true (by omega)) (okCons kp (okCons (hsd) (okCons (decide_eq_false (by omega)) (okL1 kp))))))))))))))))) (by rfl) (by rfl) w
        | false =>
          have hf := dt_f2ttf p m L M V c
          rw [ev] at hf
          exact fits_calls T0 hf (okCons (rowS_d (V := V) rfl (by omega)) (okCons hg (okCons (decide_eq_true (by rw [vO_aP (V := V) rfl, vO_aP (V := M.toNat) rfl]; exact hk)) (okCons (oTwo (V := V) (W := M.toNat) rfl rfl (by omega) (by omega)) (okCons kB (okCons (decide_eq_true (by rw [eA]; exact hV)) (okCons (by rw [eA]; exact hL) (okCons (by rw [eA]; exact hr) (okCons hok (okCons kp (okCons (decide_eq_true hm2) (okCons (decide_eq_false hm1) (okCons (decide_eq_true (by omega)) (okCons kp (okCons (hsd) (okCons (decide_eq_false (by omega)) (okL1 kp))))))))))))))))) (by rfl) (by rfl) w
      | false =>
        rw [if_neg (by simp)]
        have hf := dt_f2tfx p m t L M V c
        rw [ev] at hf
        exact fits_calls T0 hf (okCons (rowS_d (V := V) rfl (by omega)) (okCons hg (okCons (decide_eq_true (by rw [vO_aP (V := V) rfl, vO_aP (V := M.toNat) rfl]; exact hk)) (okCons (oTwo (V := V) (W := M.toNat) rfl rfl (by omega) (by omega)) (okCons kB (okCons (decide_eq_true (by rw [eA]; exact hV)) (okCons (by rw [eA]; exact hL) (okCons (by rw [eA]; exact hr) (okCons hok (okCons kp (okCons (decide_eq_true hm2) (okCons (decide_eq_false hm1) (okCons (decide_eq_true (by omega)) (okCons kp (okCons (hsd) (okCons (decide_eq_false (by omega)) (okL1 kp))))))))))))))))) (by rfl) (by rfl) w
    | false =>
      by_cases ho : M.toNat < V
      · have hg : decide (c > 0) = true := decide_eq_true (hcc.2 ho)
        rw [if_pos ho, if_pos ho]
        exact fits_calls T0 (dt_f2fo p m t L M V c e) (okCons hg (okCons (decide_eq_true (by rw [vO_nil _, vO_aP (V := M.toNat) rfl]; exact (hk0 (hz hV hr)))) (okCons (two_nilI (W := M.toNat) rfl (by omega)) (okCons kB (okCons (by rw [eA]; exact hL) (okCons (by rw [eA]; exact hr) (okCons hok (okCons kp (okCons (decide_eq_true hm2) (okCons (decide_eq_false hm1) (okCons (decide_eq_true (by omega)) (okCons kp (okCons (hsd) (okCons (decide_eq_false (by omega)) (okL1 kp))))))))))))))) (by rfl) (by rfl) w
      have hg : decide (c > 0) = false := decide_eq_false fun h => ho (hcc.1 h)
      rw [if_neg ho, if_neg ho]
      have ev : ((vO (I2 p M.toNat) none 0 % 18446744073709551616 : Nat) : Int) = (V : Int) := by
        rw [vO_nil, hz hV hr]
      cases e with
      | true =>
        cases t with
        | true =>
          have hf := dt_f2ftt p m L M V c
          rw [ev] at hf
          exact fits_calls T0 hf (okCons (rowS_nil _) (okCons hg (okCons (decide_eq_true (by rw [vO_nil _, vO_aP (V := M.toNat) rfl]; exact (hk0 (hz hV hr)))) (okCons (two_nilI (W := M.toNat) rfl (by omega)) (okCons kB (okCons (by rw [eA]; exact hL) (okCons (by rw [eA]; exact hr) (okCons hok (okCons kp (okCons (decide_eq_true hm2) (okCons (decide_eq_false hm1) (okCons (decide_eq_true (by omega)) (okCons kp (okCons (hsd) (okCons (decide_eq_false (by omega)) (okL1 kp)))))))))))))))) (by rfl) (by rfl) w
        | false =>
          have hf := dt_f2ftf p m L M V c
          rw [ev] at hf
          exact fits_calls T0 hf (okCons (rowS_nil _) (okCons hg (okCons (decide_eq_true (by rw [vO_nil _, vO_aP (V := M.toNat) rfl]; exact (hk0 (hz hV hr)))) (okCons (two_nilI (W := M.toNat) rfl (by omega)) (okCons kB (okCons (by rw [eA]; exact hL) (okCons (by rw [eA]; exact hr) (okCons hok (okCons kp (okCons (decide_eq_true hm2) (okCons (decide_eq_false hm1) (okCons (decide_eq_true (by omega)) (okCons kp (okCons (hsd) (okCons (decide_eq_false (by omega)) (okL1 kp)))))))))))))))) (by rfl) (by rfl) w
      | false =>
        rw [if_neg (by simp)]
        have hf := dt_f2ffx p m t L M V c
        rw [ev] at hf
        exact fits_calls T0 hf (okCons (rowS_nil _) (okCons hg (okCons (decide_eq_true (by rw [vO_nil _, vO_aP (V := M.toNat) rfl]; exact (hk0 (hz hV hr)))) (okCons (two_nilI (W := M.toNat) rfl (by omega)) (okCons kB (okCons (by rw [eA]; exact hL) (okCons (by rw [eA]; exact hr) (okCons hok (okCons kp (okCons (decide_eq_true hm2) (okCons (decide_eq_false hm1) (okCons (decide_eq_true (by omega)) (okCons kp (okCons (hsd) (okCons (decide_eq_false (by omega)) (okL1 kp)))))))))))))))) (by rfl) (by rfl) w
  have hV : toQ m (sgn p) (sg p).toNat (xp p) 0 = V := hVV.symm
  cases hr : rowTo m (sgn p) (sg p).toNat (d16 (sg p).toNat).length (xp p) 0 with
  | true =>
    by_cases ho : M.toNat < V
    · have hg : decide (c > 0) = true := decide_eq_true (hcc.2 ho)
      rw [if_pos ho, if_pos ho]
      exact fits_calls T0 (dt_f3to p m t L M V c e) (okCons hg (okCons (decide_eq_true (by rw [vO_aP (V := V) rfl, vO_aP (V := M.toNat) rfl]; exact hk)) (okCons (oTwo (V := V) (W := M.toNat) rfl rfl (by omega) (by omega)) (okCons kB (okCons (decide_eq_true (by rw [eA]; exact hV)) (okCons (by rw [eA]; exact hL) (okCons (by rw [eA]; exact hr) (okCons hok (okCons kp (okCons (decide_eq_false hm2) (okCons (decide_eq_false hm1) (okCons (decide_eq_true (by omega)) (okCons kp (okCons (hsd) (okCons (decide_eq_false (by omega)) (okL1 kp)))))))))))))))) (by rfl) (by rfl) w
    have hg : decide (c > 0) = false := decide_eq_false fun h => ho (hcc.1 h)
    rw [if_neg ho, if_neg ho]
    have ev : ((vO (I3 p V M.toNat) (aP16 1) (d16 V).length % 18446744073709551616 : Nat) : Int) = (V : Int) := by
      rw [vO_aP (V := V) rfl, Nat.mod_eq_of_lt (by omega)]
    cases e with
    | true =>
      cases t with
      | true =>
        have hf := dt_f3ttt p m L M V c
        rw [ev] at hf
        exact fits_calls T0 hf (okCons (rowS_d (V := V) rfl (by omega)) (okCons hg (okCons (decide_eq_true (by rw [vO_aP (V := V) rfl, vO_aP (V := M.toNat) rfl]; exact hk)) (okCons (oTwo (V := V) (W := M.toNat) rfl rfl (by omega) (by omega)) (okCons kB (okCons (decide_eq_true (by rw [eA]; exact hV)) (okCons (by rw [eA]; exact hL) (okCons (by rw [eA]; exact hr) (okCons hok (okCons kp (okCons (decide_eq_false hm2) (okCons (decide_eq_false hm1) (okCons (decide_eq_true (by omega)) (okCons kp (okCons (hsd) (okCons (decide_eq_false (by omega)) (okL1 kp))))))))))))))))) (by rfl) (by rfl) w
      | false =>
        have hf := dt_f3ttf p m L M V c
        rw [ev] at hf
        exact fits_calls T0 hf (okCons (rowS_d (V := V) rfl (by omega)) (okCons hg (okCons (decide_eq_true (by rw [vO_aP (V := V) rfl, vO_aP (V := M.toNat) rfl]; exact hk)) (okCons (oTwo (V := V) (W := M.toNat) rfl rfl (by omega) (by omega)) (okCons kB (okCons (decide_eq_true (by rw [eA]; exact hV)) (okCons (by rw [eA]; exact hL) (okCons (by rw [eA]; exact hr) (okCons hok (okCons kp (okCons (decide_eq_false hm2) (okCons (decide_eq_false hm1) (okCons (decide_eq_true (by omega)) (okCons kp (okCons (hsd) (okCons (decide_eq_false (by omega)) (okL1 kp))))))))))))))))) (by rfl) (by rfl) w
    | false =>
      rw [if_neg (by simp)]
      have hf := dt_f3tfx p m t L M V c
      rw [ev] at hf
      exact fits_calls T0 hf (okCons (rowS_d (V := V) rfl (by omega)) (okCons hg (okCons (decide_eq_true (by rw [vO_aP (V := V) rfl, vO_aP (V := M.toNat) rfl]; exact hk)) (okCons (oTwo (V := V) (W := M.toNat) rfl rfl (by omega) (by omega)) (okCons kB (okCons (decide_eq_true (by rw [eA]; exact hV)) (okCons (by rw [eA]; exact hL) (okCons (by rw [eA]; exact hr) (okCons hok (okCons kp (okCons (decide_eq_false hm2) (okCons (decide_eq_false hm1) (okCons (decide_eq_true (by omega)) (okCons kp (okCons (hsd) (okCons (decide_eq_false (by omega)) (okL1 kp))))))))))))))))) (by rfl) (by rfl) w
  | false =>
    by_cases ho : M.toNat < V
    · have hg : decide (c > 0) = true := decide_eq_true (hcc.2 ho)
      rw [if_pos ho, if_pos ho]
      exact fits_calls T0 (dt_f3fo p m t L M V c e) (okCons hg (okCons (decide_eq_true (by rw [vO_nil _, vO_aP (V := M.toNat) rfl]; exact (hk0 (hz hV hr)))) (okCons (two_nilI (W := M.toNat) rfl (by omega)) (okCons kB (okCons (by rw [eA]; exact hL) (okCons (by rw [eA]; exact hr) (okCons hok (okCons kp (okCons (decide_eq_false hm2) (okCons (decide_eq_false hm1) (okCons (decide_eq_true (by omega)) (okCons kp (okCons (hsd) (okCons (decide_eq_false (by omega)) (okL1 kp))))))))))))))) (by rfl) (by rfl) w
    have hg : decide (c > 0) = false := decide_eq_false fun h => ho (hcc.1 h)
    rw [if_neg ho, if_neg ho]
    have ev : ((vO (I2 p M.toNat) none 0 % 18446744073709551616 : Nat) : Int) = (V : Int) := by
      rw [vO_nil, hz hV hr]
    cases e with
    | true =>
      cases t with
      | true =>
        have hf := dt_f3ftt p m L M V c
        rw [ev] at hf
        exact fits_calls T0 hf (okCons (rowS_nil _) (okCons hg (okCons (decide_eq_true (by rw [vO_nil _, vO_aP (V := M.toNat) rfl]; exact (hk0 (hz hV hr)))) (okCons (two_nilI (W := M.toNat) rfl (by omega)) (okCons kB (okCons (by rw [eA]; exact hL) (okCons (by rw [eA]; exact hr) (okCons hok (okCons kp (okCons (decide_eq_false hm2) (okCons (decide_eq_false hm1) (okCons (decide_eq_true (by omega)) (okCons kp (okCons (hsd) (okCons (decide_eq_false (by omega)) (okL1 kp)))))))))))))))) (by rfl) (by rfl) w
      | false =>
        have hf := dt_f3ftf p m L M V c
        rw [ev] at hf
        exact fits_calls T0 hf (okCons (rowS_nil _) (okCons hg (okCons (decide_eq_true (by rw [vO_nil _, vO_aP (V := M.toNat) rfl]; exact (hk0 (hz hV hr)))) (okCons (two_nilI (W := M.toNat) rfl (by omega)) (okCons kB (okCons (by rw [eA]; exact hL) (okCons (by rw [eA]; exact hr) (okCons hok (okCons kp (okCons (decide_eq_false hm2) (okCons (decide_eq_false hm1) (okCons (decide_eq_true (by omega)) (okCons kp (okCons (hsd) (okCons (decide_eq_false (by omega)) (okL1 kp)))))))))))))))) (by rfl) (by rfl) w
    | false =>
      rw [if_neg (by simp)]
      have hf := dt_f3ffx p m t L M V c
      rw [ev] at hf
      exact fits_calls T0 hf (okCons (rowS_nil _) (okCons hg (okCons (decide_eq_true (by rw [vO_nil _, vO_aP (V := M.toNat) rfl]; exact (hk0 (hz hV hr)))) (okCons (two_nilI (W := M.toNat) rfl (by omega)) (okCons kB (okCons (by rw [eA]; exact hL) (okCons (by rw [eA]; exact hr) (okCons hok (okCons kp (okCons (decide_eq_false hm2) (okCons (decide_eq_false hm1) (okCons (decide_eq_true (by omega)) (okCons kp (okCons (hsd) (okCons (decide_eq_false (by omega)) (okL1 kp)))))))))))))))) (by rfl) (by rfl) w
theorem dt_calls (p m : Int) (t : Bool) (L M : Int) (hp : U p) (hL : U L) (hM : U M) (w : World) : Calls Try.prog 13 #[.int .u64 p, .int .i64 m, .bool t, .int .u64 L, .int .u64 M] w fun r w' => r = .returned (.tuple #[.bool (tiS p), .int .u64 (tiN L.toNat M.toNat m p : Nat), .int .i64 (tiF L.toNat M.toNat m p t)]) ∧ Tidy w w' := by
  have T0 := tabH_ok conIE_ok hcIE_ok
  have kp : decide (U p) = true := decide_eq_true hp
  have xa := xp_bd p
  have sa := sg_lt p
  have ba := cl_bd p
  have hl0 := hL.1
  have hm0 := hM.1
  unfold tiS tiN tiF
  by_cases h3 : 3 < cl p
  · rw [if_pos h3, if_pos h3, decide_eq_false (by omega)]
    exact fits_calls T0 (dt_n p m t L M) (okCons (decide_eq_true (by omega)) (okL1 kp)) (by rfl) (by rfl) w
  rw [if_neg h3, if_neg h3, decide_eq_true (show cl p ≤ 3 by omega)]
  cases hs : sgn p with
  | true =>
    have hsd : decide (p ≥ 9223372036854775808) = true := hs
    have hb : bdN L.toNat M.toNat p = L.toNat := by unfold bdN; rw [if_pos hs]
    have eB : ((L.toNat : Nat) : Int) = L := Int.toNat_of_nonneg hl0
    by_cases c3 : cl p = 3
    · have hB : tiB L.toNat M.toNat m p = true := decide_eq_true (.inl c3)
      rw [if_pos hB, if_pos hB, hb, eB]
      exact fits_calls T0 (dt_it p m t L M) (okCons (decide_eq_false (by omega)) (okCons kp (okCons (hsd) (okCons (decide_eq_false (by omega)) (okL1 kp))))) (by rfl) (by rfl) w
    · have hf := dt_fin_t p m t L M hp hL (by omega) hs w
      by_cases ho : L.toNat < Go.Rn.whQ m p
      · have hB : tiB L.toNat M.toNat m p = true := decide_eq_true (.inr (by rw [hb]; exact ho))
        rw [if_pos ho, if_pos ho] at hf
        rw [if_pos hB, if_pos hB, hb, eB]
        exact hf
      · have hB : ¬ tiB L.toNat M.toNat m p = true := fun h => by
          have := of_decide_eq_true h
          rw [hb] at this
          omega
        rw [if_neg ho, if_neg ho] at hf
        rw [if_neg hB, if_neg hB]
        exact hf
  | false =>
    have hsd : decide (p ≥ 9223372036854775808) = false := hs
    have hb : bdN L.toNat M.toNat p = M.toNat := by unfold bdN; rw [if_neg (by rw [hs]; decide)]
    have eB : ((M.toNat : Nat) : Int) = M := Int.toNat_of_nonneg hm0
    by_cases c3 : cl p = 3
    · have hB : tiB L.toNat M.toNat m p = true := decide_eq_true (.inl c3)
      rw [if_pos hB, if_pos hB, hb, eB]
      exact fits_calls T0 (dt_if p m t L M) (okCons (decide_eq_false (by omega)) (okCons kp (okCons (hsd) (okCons (decide_eq_false (by omega)) (okL1 kp))))) (by rfl) (by rfl) w
    · have hf := dt_fin_f p m t L M hp hM (by omega) hs w
      by_cases ho : M.toNat < Go.Rn.whQ m p
      · have hB : tiB L.toNat M.toNat m p = true := decide_eq_true (.inr (by rw [hb]; exact ho))
        rw [if_pos ho, if_pos ho] at hf
        rw [if_pos hB, if_pos hB, hb, eB]
        exact hf
      · have hB : ¬ tiB L.toNat M.toNat m p = true := fun h => by
          have := of_decide_eq_true h
          rw [hb] at this
          omega
        rw [if_neg ho, if_neg ho] at hf
        rw [if_neg hB, if_neg hB]
        exact hf
def gDt : Ans := fun vals s =>
  match vals with
  | [.int .u64 p, .int .i64 m, .bool t, .int .u64 L, .int .u64 M] => some (.tuple #[.bool (tiS p), .int .u64 (tiN L.toNat M.toNat m p : Nat), .int .i64 (tiF L.toNat M.toNat m p t)], s, [(decide (U p ∧ U L ∧ U M), true)])
  | _ => none
theorem gDt_ok : AnsOk 13 gDt := by
  intro vals s v s' lg h hl w
  unfold gDt at h
  split at h
  · cases h
    obtain ⟨h1, h2, h3⟩ := of_decide_eq_true (hl _ (List.mem_singleton.2 rfl))
    exact dt_calls _ _ _ _ _ h1 h2 h3 w
  · cases h
theorem do_calls (n : Bool) (x m : Int) (hx : U x) (w : World) : Calls Try.prog 9 #[.bool n, .int .u64 x, .int .i64 m] w fun r w' => r = .returned (.tuple #[.int .u64 (sS n (rnP m n x.toNat 0)), .int .i64 (rnF m n x.toNat 0)]) ∧ Tidy w w' := by
  have T0 := tabH_ok conIE_ok hcIE_ok
  have h0 := hx.1
  have h1 := hx.2
  have e64 : (2 : Nat) ^ (16 * 4) = 18446744073709551616 := rfl
  have l1 := d16_len (A := x.toNat) (k := 4) (by omega)
  have kx : decide (0 ≤ x ∧ x < 18446744073709551616) = true := decide_eq_true hx
  have kr : okRo (IO x) (aP16 0) (d16 x.toNat).length (d16 x.toNat).length 0 = true := by
    unfold okRo aP16
    rw [rowP_d16 (A := x.toNat) rfl (by omega), rowOf_d16 (A := x.toNat) rfl, show canB (d16 x.toNat) = true from canB_mk (can_db (by omega) _), blt_iff.2 (by omega), decide_eq_true ⟨by omega, by omega⟩]
    rfl
  obtain ⟨V, hV⟩ : ∃ V, x.toNat = V := ⟨_, rfl⟩
  have hf := do_1 n x m V
  rw [← hV] at hf
  have hV : x.toNat = x.toNat := rfl
  exact fits_calls T0 hf (okCons (decide_eq_true ((vO_aP (V := x.toNat) rfl).trans hV)) (okCons kr (okL1 kx))) (by rfl) (by rfl) w
def gDo : Ans := fun vals s =>
  match vals with
  | [.bool n, .int .u64 x, .int .i64 m] => some (.tuple #[.int .u64 (sS n (rnP m n x.toNat 0)), .int .i64 (rnF m n x.toNat 0)], s, [(decide (U x), true)])
  | _ => none
theorem gDo_ok : AnsOk 9 gDo := by
  intro vals s v s' lg h hl w
  unfold gDo at h
  split at h
  · cases h
    exact do_calls _ _ _ (of_decide_eq_true (hl _ (List.mem_singleton.2 rfl))) w
  · cases h
end Go.Proofs.Ytmfgjfnhonohjaa

/-
  What the laws of whole numbers of the machine call, the document's among them.
-/
namespace Go.Proofs.Ytmfgjfnhonohjaa
open Go.KRun Go.Wd Go.Pt Go.Rn
set_option maxRecDepth 100000

def conI4 : Con := alt 13 gDt (alt 9 gDo (alt 15 gNb conI3))
theorem conI4_ok : ConOk conI4 := alt_ok Try.func13 rfl gDt_ok (alt_ok Try.func9 rfl gDo_ok (alt_ok Try.func15 rfl gNb_ok conI3_ok))
end Go.Proofs.Ytmfgjfnhonohjaa

/-
  Whole numbers of the machine, forth and back, in plain terms.
-/
namespace Go.Proofs.Ytmfgjfnhonohjaa
open Go.KRun Go.Wd Go.Pt Go.Rn
set_option maxRecDepth 100000

theorem oi_U (m n : Int) : U (oiP m n) := by
  obtain ⟨h0, h1⟩ := rnP_bd m (decide (n < 0)) n.natAbs 0
  exact (sS_mag h0 (by omega)).2.2.1
theorem oiF_bd (m n : Int) : 0 ≤ oiF m n ∧ oiF m n ≤ 24 := by
  unfold oiF rnF
  split
  · omega
  · split
    · omega
    · split
      · split <;> omega
      · omega
theorem opF_bd (m k : Int) : 0 ≤ opF m k ∧ opF m k ≤ 24 := by
  unfold opF rnF
  split
  · omega
  · split
    · omega
    · split
      · split <;> omega
      · omega
/-- what a pattern below Endless is -/
theorem oi_parts {m n : Int} (h : rnP m (decide (n < 0)) n.natAbs 0 < 9218868437227405312) : cl (oiP m n) ≤ 2 ∧ ex (oiP m n) ≠ 2047 ∧ sgn (oiP m n) = decide (n < 0) ∧ uV (oiP m n) = uV (rnP m (decide (n < 0)) n.natAbs 0) := by
  obtain ⟨h0, _⟩ := rnP_bd m (decide (n < 0)) n.natAbs 0
  obtain ⟨g1, g2, _, g4⟩ := sS_mag (n := decide (n < 0)) h0 (show rnP m (decide (n < 0)) n.natAbs 0 < 9223372036854775808 by omega)
  have c : cl (oiP m n) ≤ 2 := (mag_cl _).2.2.2 (by unfold oiP; rw [g1]; exact h)
  exact ⟨c, fin_ex c, g2, g4⟩
theorem sgI_own (n : Int) : sgI (decide (n < 0)) n.natAbs = n := by
  by_cases h : n < 0
  · rw [decide_eq_true h]; simp only [sgI]; omega
  · rw [decide_eq_false h]; simp only [sgI]; omega
/-- a number of 53 bits is itself again -/
theorem oi_back {n : Int} (h : n.natAbs ≤ 4503599627370496) (m k : Int) (t : Bool) (L M : Nat) : oiF m n = 0 ∧ (-(L : Int) ≤ n ∧ n ≤ (M : Int) → tiI L M k (oiP m n) = n ∧ tiF L M k (oiP m n) t = 0) ∧ (n < -(L : Int) → tiI L M k (oiP m n) = -(L : Int) ∧ tiF L M k (oiP m n) t = 1) := by
  obtain ⟨j, hj⟩ : ∃ j : Nat, (j : Int) = 1074 := ⟨1074, rfl⟩
  obtain ⟨f0, _, _, b1, u⟩ := int_num hj h m (decide (n < 0))
  obtain ⟨c, fx, s, e⟩ := oi_parts (m := m) (n := n) (by omega)
  obtain ⟨t1, t2⟩ := ti_own (L := L) (M := M) hj c fx (e.trans u) k t
  have hb : bdN L M (oiP m n) = if n < 0 then L else M := by
    unfold bdN
    rw [s]
    by_cases h : n < 0
    · rw [if_pos h, if_pos (decide_eq_true h)]
    · rw [if_neg h, if_neg (by rw [decide_eq_false h]; decide)]
  refine ⟨f0, fun hr => ?_, fun hr => ?_⟩
  · have := t1 (by rw [hb]; split <;> omega)
    rw [s, sgI_own] at this
    exact this
  · have := t2 (by rw [hb, if_pos (by omega)]; omega)
    rw [s, hb, if_pos (by omega), decide_eq_true (by omega)] at this
    exact this
/-- a greater one is by Down not greater, by Up not less -/
theorem oi_sides {n : Int} (hn : Go.Pt.I n) : tiF 9223372036854775808 9223372036854775807 0 (oiP 4 n) true = 0 ∧ tiI 9223372036854775808 9223372036854775807 0 (oiP 4 n) ≤ n ∧ (tiF 9223372036854775808 9223372036854775807 0 (oiP 3 n) true = 1 ∨ (tiF 9223372036854775808 9223372036854775807 0 (oiP 3 n) true ≠ 1 ∧ n ≤ tiI 9223372036854775808 9223372036854775807 0 (oiP 3 n))) := by
  have h0 := hn.1
  have h1 := hn.2
  obtain ⟨j, hj⟩ : ∃ j : Nat, (j : Int) = 1074 := ⟨1074, rfl⟩
  have hX : n.natAbs ≤ 9223372036854775808 := by omega
  have hb : ∀ m, sgn (oiP m n) = decide (n < 0) → bdN 9223372036854775808 9223372036854775807 (oiP m n) = if n < 0 then 9223372036854775808 else 9223372036854775807 := fun m s => by
    unfold bdN
    rw [s]
    by_cases h : n < 0
    · rw [if_pos h, if_pos (decide_eq_true h)]
    · rw [if_neg h, if_neg (by rw [decide_eq_false h]; decide)]
  obtain ⟨W, u, _, le, w63, d1, d2⟩ := of_num hj hX 4 (decide (n < 0))
  obtain ⟨V, u', _, le', v63, e1, e2⟩ := of_num hj hX 3 (decide (n < 0))
  have x1 : n < 0 → -(W : Int) ≤ n ∧ n ≤ -(V : Int) := fun hneg => by
    have d2 := d2 (.inr ⟨rfl, decide_eq_true hneg⟩)
    have e1 := e1 (.inr ⟨rfl, decide_eq_true hneg⟩)
    omega
  have x2 : ¬ n < 0 → (W : Int) ≤ n ∧ n ≤ (V : Int) ∧ W ≤ 9223372036854775807 := fun hneg => by
    have d1 := d1 (.inl ⟨rfl, decide_eq_false hneg⟩)
    have e2 := e2 (.inl ⟨rfl, decide_eq_false hneg⟩)
    omega
  have y1 : ¬ V ≤ 9223372036854775807 → 9223372036854775807 < V := fun h => by omega
  obtain ⟨c, fx, s, e⟩ := oi_parts (m := 4) (n := n) (by omega)
  obtain ⟨c', fx', s', e'⟩ := oi_parts (m := 3) (n := n) (by omega)
  clear le le' h0 h1 hX d1 d2 e1 e2
  have t1 := (ti_own (L := 9223372036854775808) (M := 9223372036854775807) hj c fx (e.trans u) 0 true).1
  obtain ⟨t3, t4⟩ := ti_own (L := 9223372036854775808) (M := 9223372036854775807) hj c' fx' (e'.trans u') 0 true
  rw [hb 4 s, s] at t1
  rw [hb 3 s', s'] at t3 t4
  by_cases hneg : n < 0
  · rw [if_pos hneg, decide_eq_true hneg] at t1 t3
    have t1 := t1 w63
    have t3 := t3 v63
    have z1 : tiI 9223372036854775808 9223372036854775807 0 (oiP 4 n) ≤ n := by rw [t1.1]; exact (x1 hneg).1
    have z3 : n ≤ tiI 9223372036854775808 9223372036854775807 0 (oiP 3 n) := by rw [t3.1]; exact (x1 hneg).2
    exact ⟨t1.2, z1, .inr ⟨(fun h => absurd (t3.2.symm.trans h) (by decide)), z3⟩⟩
  · rw [if_neg hneg, decide_eq_false hneg] at t1 t3 t4
    have t1 := t1 (x2 hneg).2.2
    have z1 : tiI 9223372036854775808 9223372036854775807 0 (oiP 4 n) ≤ n := by rw [t1.1]; exact (x2 hneg).1
    refine ⟨t1.2, z1, ?_⟩
    by_cases hv : V ≤ 9223372036854775807
    · have t3 := t3 hv
      have z3 : n ≤ tiI 9223372036854775808 9223372036854775807 0 (oiP 3 n) := by rw [t3.1]; exact (x2 hneg).2.1
      exact .inr ⟨(fun h => absurd (t3.2.symm.trans h) (by decide)), z3⟩
    · exact .inl (t4 (y1 hv)).2
end Go.Proofs.Ytmfgjfnhonohjaa
