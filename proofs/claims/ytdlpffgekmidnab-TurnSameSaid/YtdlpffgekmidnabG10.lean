/-
  NumU, NumY, NumX4, FiA, NumFa, NumFb, NumFc, NumFd, NumFe, NumFf, NumFg, NumFh, FiB, FiC
-/
import Derived.Test.YtdlpffgekmidnabG09
import Derived.OneCell
namespace Go.Pt
def bOr (x y : Int) : Int := IntKind.u64.wrap ((BitVec.ofInt 64 x ||| BitVec.ofInt 64 y).toNat : Nat)
def bXor (x y : Int) : Int := IntKind.u64.wrap ((BitVec.ofInt 64 x ^^^ BitVec.ofInt 64 y).toNat : Nat)
def bNot (x y : Int) : Int := IntKind.u64.wrap ((BitVec.ofInt 64 x &&& ~~~(BitVec.ofInt 64 y)).toNat : Nat)
abbrev U (p : Int) : Prop := 0 ≤ p ∧ p < 18446744073709551616
abbrev I (n : Int) : Prop := -9223372036854775808 ≤ n ∧ n ≤ 9223372036854775807
theorem wrapU (n : Int) : IntKind.u64.wrap n = n % 18446744073709551616 := by simp [IntKind.wrap, IntKind.bits, IntKind.signed]
theorem wrapU' {n : Int} (h : U n) : IntKind.u64.wrap n = n := by rw [wrapU]; unfold U at h; omega
theorem wrapI' {n : Int} (h : I n) : IntKind.i64.wrap n = n := by
  unfold I at h
  simp [IntKind.wrap, IntKind.bits, IntKind.signed]; omega
theorem ofU {Z : Nat} (h : Z < 18446744073709551616) : (BitVec.ofInt 64 (Z : Int)).toNat = Z := by simp; omega
theorem back {V : BitVec 64} : IntKind.u64.wrap (V.toNat : Nat) = (V.toNat : Int) := by
  have := V.isLt
  exact wrapU' ⟨by omega, by omega⟩
theorem or_low {p q : Int} (k : Nat) {z : Int} (hz : 0 ≤ z) (hq : q = 2 ^ k * z) (hp : 0 ≤ p) (hk : p < 2 ^ k) (hs : q + p < 18446744073709551616) : bOr p q = q + p := by
  obtain ⟨Z, rfl⟩ := Int.eq_ofNat_of_zero_le hz
  obtain ⟨Y, rfl⟩ := Int.eq_ofNat_of_zero_le hp
  have ex : (2 : Int) ^ k * (Z : Nat) = ((2 ^ k * Z : Nat) : Int) := by simp
  have hY : Y < 2 ^ k := by
    have : ((Y : Nat) : Int) < ((2 ^ k : Nat) : Int) := by simpa using hk
    exact Int.ofNat_lt.1 this
  subst hq
  rw [ex] at hs ⊢
  have hX : 2 ^ k * Z + Y < 18446744073709551616 := by omega
  unfold bOr
  rw [back, BitVec.toNat_or, ofU (by omega), ofU (by omega), Nat.or_comm, ← Nat.two_pow_add_eq_or_of_lt hY]
  omega
theorem bNot_sign {p : Int} (hp : U p) : bNot p 9223372036854775808 = p % 9223372036854775808 := by
  obtain ⟨h0, h1⟩ := hp
  obtain ⟨Z, rfl⟩ := Int.eq_ofNat_of_zero_le h0
  unfold bNot
  have e : (~~~(BitVec.ofInt 64 9223372036854775808)).toNat = 2 ^ 63 - 1 := by decide
  rw [back, BitVec.toNat_and, ofU (by omega), e, Nat.and_two_pow_sub_one_eq_mod]
  omega
theorem xor_sign (r : Nat) (h : r < 2 ^ 63) : r ^^^ 2 ^ 63 = 2 ^ 63 + r := by
  have e : 2 ^ 63 + r = 2 ^ 63 ||| r := by
    have := Nat.two_pow_add_eq_or_of_lt h 1
    simpa using this
  rw [e]
  refine Nat.eq_of_testBit_eq fun i => ?_
  rw [Nat.testBit_xor, Nat.testBit_or, Nat.testBit_two_pow]
  by_cases hi : 63 = i
  · subst hi
    rw [Nat.testBit_lt_two_pow h]
    simp
  · simp [hi]
theorem bXor_sign {p : Int} (hp : U p) : bXor p 9223372036854775808 = (p + 9223372036854775808) % 18446744073709551616 := by
  obtain ⟨h0, h1⟩ := hp
  obtain ⟨Z, rfl⟩ := Int.eq_ofNat_of_zero_le h0
  unfold bXor
  have e : (BitVec.ofInt 64 9223372036854775808).toNat = 2 ^ 63 := by decide
  rw [back, BitVec.toNat_xor, ofU (by omega), e]
  by_cases hz : Z < 2 ^ 63
  · rw [xor_sign Z hz]
    omega
  · have h2 := xor_sign (Z - 2 ^ 63) (by omega)
    have e2 : Z = (Z - 2 ^ 63) ^^^ 2 ^ 63 := by rw [h2]; omega
    have e3 : Z ^^^ 2 ^ 63 = Z - 2 ^ 63 := by
      rw [e2, Nat.xor_assoc, Nat.xor_self, Nat.xor_zero, ← e2]
    rw [e3]
    omega
/-! ### a pattern's parts -/
end Go.Pt
namespace Go.Rn
open Go.Pt
/-! ### how great a multiple's number is -/
theorem toQ_le {m : Int} {neg : Bool} {T : Nat} {E e : Int} {n : Nat} (h : (bitLen T : Int) + (E - e) ≤ n) : toQ m neg T E e ≤ 2 ^ n := by
  have a1 := (bitLen_spec T).1
  unfold toQ
  by_cases he : e ≤ E
  · rw [if_pos he]
    have hp : 0 < 2 ^ (E - e).toNat := Nat.pow_pos (by omega)
    have := Nat.mul_le_mul_right (2 ^ (E - e).toNat) (Nat.le_of_lt a1)
    rw [← Nat.pow_add] at this
    have h2 := Nat.pow_le_pow_right (show 0 < 2 by omega) (show bitLen T + (E - e).toNat ≤ n by omega)
    omega
  · rw [if_neg he]
    have b := (rq_bd m neg T (e - E).toNat).2
    have h2 := Nat.pow_le_pow_right (show 0 < 2 by omega) (show bitLen T ≤ n + (e - E).toNat by omega)
    have h3 : T / 2 ^ (e - E).toNat < 2 ^ n := by
      apply Nat.div_lt_of_lt_mul
      rw [Nat.pow_add, Nat.mul_comm] at h2
      omega
    omega
theorem toQ_ge {m : Int} {neg : Bool} {T : Nat} {E e : Int} {n : Nat} (hT : T ≠ 0) (h : (n : Int) + 1 ≤ (bitLen T : Int) + (E - e)) : 2 ^ n ≤ toQ m neg T E e := by
  have a2 := (bitLen_spec T).2 hT
  have a3 := len_pos hT
  unfold toQ
  by_cases he : e ≤ E
  · rw [if_pos he]
    have := Nat.mul_le_mul_right (2 ^ (E - e).toNat) a2
    rw [← Nat.pow_add] at this
    have h2 := Nat.pow_le_pow_right (show 0 < 2 by omega) (show n ≤ bitLen T - 1 + (E - e).toNat by omega)
    omega
  · rw [if_neg he]
    have b := (rq_bd m neg T (e - E).toNat).1
    have hp : 0 < 2 ^ (e - E).toNat := Nat.pow_pos (by omega)
    have h2 := Nat.pow_le_pow_right (show 0 < 2 by omega) (show n + (e - E).toNat ≤ bitLen T - 1 by omega)
    have h3 : 2 ^ n ≤ T / 2 ^ (e - E).toNat := by
      rw [Nat.le_div_iff_mul_le hp, ← Nat.pow_add]
      omega
    omega
theorem low_hi (m : Int) (neg : Bool) (T : Nat) (E : Int) : toQ m neg T E (lowE T E) ≤ 9007199254740992 := by
  refine toQ_le (n := 53) ?_
  unfold lowE lgN
  split <;> omega
theorem low_lo {m : Int} {neg : Bool} {T : Nat} {E : Int} (hT : T ≠ 0) (h : -1074 ≤ lgN T E - 52) : 4503599627370496 ≤ toQ m neg T E (lowE T E) := by
  refine toQ_ge (n := 52) hT ?_
  unfold lowE lgN at *
  split <;> omega
/-! ### order -/
theorem toQ_mono {m : Int} {neg : Bool} {T U : Nat} {E : Int} (e : Int) (h : T ≤ U) : toQ m neg T E e ≤ toQ m neg U E e := by
  unfold toQ
  split
  · exact Nat.mul_le_mul_right _ h
  · exact rq_mono _ h
theorem lgN_mono {T U : Nat} (E : Int) (h : T ≤ U) : lgN T E ≤ lgN U E := by
  have := len_mono h
  unfold lgN
  omega
theorem p0_mono {m : Int} {neg : Bool} {T U : Nat} {E : Int} (hT : T ≠ 0) (h : T ≤ U) : p0 m neg T E ≤ p0 m neg U E := by
  have hl := lgN_mono E h
  unfold p0
  by_cases he : lowE T E = lowE U E
  · rw [he]
    have := toQ_mono (m := m) (neg := neg) (E := E) (lowE U E) h
    omega
  · have h1 := low_hi m neg T E
    have h3 : -1074 ≤ lgN U E - 52 ∧ lowE T E + 1 ≤ lowE U E := by
      unfold lowE at he ⊢
      split at he <;> split at he <;> (try split) <;> (try split) <;> omega
    have h2 := low_lo (m := m) (neg := neg) (T := U) (E := E) (by omega) h3.1
    omega
theorem lowE_ge (T : Nat) (E : Int) : -1074 ≤ lowE T E := by unfold lowE; split <;> omega
theorem p0_nonneg (m : Int) (neg : Bool) (T : Nat) (E : Int) : 0 ≤ p0 m neg T E := by
  have := lowE_ge T E
  unfold p0
  omega
theorem bey_or (m : Int) (neg : Bool) : bey m neg = 9218868437227405312 ∨ bey m neg = 9218868437227405311 := by unfold bey; split <;> simp
theorem rnP_bd (m : Int) (neg : Bool) (T : Nat) (E : Int) : 0 ≤ rnP m neg T E ∧ rnP m neg T E ≤ 9218868437227405312 := by
  have h := p0_nonneg m neg T E
  have hb := bey_or m neg
  unfold rnP
  split
  · omega
  · split <;> omega
theorem rnP_mono {m : Int} {neg : Bool} {T U : Nat} {E : Int} (h : T ≤ U) : rnP m neg T E ≤ rnP m neg U E := by
  have hU := rnP_bd m neg U E
  by_cases hT : T = 0
  · unfold rnP at *
    rw [if_pos hT]
    exact hU.1
  · have hp := p0_mono (m := m) (neg := neg) (E := E) hT h
    have hb := bey_or m neg
    unfold rnP
    rw [if_neg hT, if_neg (show ¬ U = 0 by omega)]
    split <;> split <;> omega
/-! ### between -/
/-! ### a pattern's own number -/
end Go.Rn
namespace Go.Wd
open Go.Rn
/-- a number of four words, as a whole number -/
def W4.nat (x : W4) : Nat := x.val.toNat
theorem W4.nat_val {x : W4} (h : x.ok) : x.val = (x.nat : Int) := by
  have := (W4.val_bd h).1
  unfold W4.nat
  omega
theorem W4.nat_lt {x : W4} (h : x.ok) : x.nat < 2 ^ 256 := by
  have := W4.val_bd h
  have e : (2 : Nat) ^ 256 = 115792089237316195423570985008687907853269984665640564039457584007913129639936 := rfl
  unfold W4.nat
  omega
def ofN (n : Nat) : W4 := W4.of (n : Int)
theorem ofN_ok (n : Nat) : (ofN n).ok := W4.ok_of _
theorem ofN_nat {n : Nat} (h : n < 2 ^ 256) : (ofN n).nat = n := by
  have e : (2 : Nat) ^ 256 = 115792089237316195423570985008687907853269984665640564039457584007913129639936 := rfl
  unfold W4.nat ofN
  rw [W4.val_of]
  omega
theorem ofN_self {x : W4} (h : x.ok) : ofN x.nat = x := by
  unfold ofN
  rw [← W4.nat_val h, W4.of_val h]
theorem of_mod (n : Int) : W4.of (n % 115792089237316195423570985008687907853269984665640564039457584007913129639936) = W4.of n := by
  unfold W4.of
  refine W4.ext' ?_ ?_ ?_ ?_ <;> dsimp only <;> omega
theorem ofN_mod (n : Nat) : ofN (n % 2 ^ 256) = ofN n := by
  have e : (2 : Nat) ^ 256 = 115792089237316195423570985008687907853269984665640564039457584007913129639936 := rfl
  unfold ofN
  rw [← of_mod (n : Int), e]
  congr 1
theorem ofN_zero : ofN 0 = ⟨0, 0, 0, 0⟩ := by rfl
theorem ofN_big {n k : Nat} (h : 256 ≤ k) : ofN (n * 2 ^ k) = ⟨0, 0, 0, 0⟩ := by
  rw [← ofN_mod]
  have : n * 2 ^ k % 2 ^ 256 = 0 := by
    obtain ⟨j, rfl⟩ : ∃ j, k = j + 256 := ⟨k - 256, by omega⟩
    rw [Nat.pow_add, ← Nat.mul_assoc, Nat.mul_mod_left]
  rw [this, ofN_zero]
theorem ofN_mul_mod (n k : Nat) : ofN (n % 2 ^ 256 * k) = ofN (n * k) := by
  rw [← ofN_mod (n % 2 ^ 256 * k), ← ofN_mod (n * k), Nat.mod_mul_mod]
theorem small_div {n k : Nat} (h : n < 2 ^ 256) (hk : 256 ≤ k) : n / 2 ^ k = 0 := by
  have := Nat.pow_le_pow_right (show 0 < 2 by omega) hk
  exact Nat.div_eq_of_lt (by omega)
theorem small_mod {n k : Nat} (h : n < 2 ^ 256) (hk : 256 ≤ k) : n % 2 ^ k = n := by
  have := Nat.pow_le_pow_right (show 0 < 2 by omega) hk
  exact Nat.mod_eq_of_lt (by omega)
theorem cast_pow (k : Nat) : ((2 : Int) ^ k) = ((2 ^ k : Nat) : Int) := by simp
/-- the size: a half more, if so -/
def tw (x : W4) (b : Bool) : Nat := 2 * x.nat + (match b with | true => 1 | false => 0)
theorem tw_div (x : W4) (b : Bool) (d : Nat) : tw x b / 2 ^ (d + 1) = x.nat / 2 ^ d := by
  unfold tw
  rw [Nat.pow_succ, Nat.mul_comm (2 ^ d) 2, ← Nat.div_div_eq_div_mul]
  congr 1
  cases b <;> simp only <;> omega
theorem tw_mod (x : W4) (b : Bool) (d : Nat) : tw x b % 2 ^ (d + 1) = 2 * (x.nat % 2 ^ d) + (match b with | true => 1 | false => 0) := by
  unfold tw
  rw [Nat.pow_succ, Nat.mul_comm (2 ^ d) 2, Nat.mod_mul]
  have e : (2 * x.nat + (match b with | true => 1 | false => 0)) / 2 = x.nat := by cases b <;> simp only <;> omega
  rw [e]
  cases b <;> simp only <;> omega
theorem tw_zero {x : W4} {b : Bool} (h : x.ok) : tw x b = 0 ↔ (eqW x ⟨0, 0, 0, 0⟩ && !b) = true := by
  have e : x.nat = 0 ↔ x = ⟨0, 0, 0, 0⟩ := by
    constructor
    · intro h0
      rw [← ofN_self h, h0, ofN_zero]
    · intro h0; rw [h0]; rfl
  rw [Bool.and_eq_true, eqW_iff, ← e]
  unfold tw
  cases b <;> simp <;> omega
/-- what is beyond, by bits: d: one bit fewer than the multiple has -/
theorem rc_none {x : W4} {d : Nat} (h : x.nat % 2 ^ d = 0) : restC (tw x false % 2 ^ (d + 1)) (2 ^ (d + 1)) = 0 := by
  rw [tw_mod, h]
  simp [restC]
theorem rc_zero {x : W4} : restC (tw x true % 2 ^ (0 + 1)) (2 ^ (0 + 1)) = 2 := by
  rw [tw_mod]
  simp [restC, Nat.mod_one]
theorem mod_bit (V j : Nat) : V % 2 ^ (j + 1) = V % 2 ^ j + 2 ^ j * (V / 2 ^ j % 2) := by rw [Nat.pow_succ, Nat.mod_mul]
theorem rc_below {x : W4} {b : Bool} {j : Nat} (h : x.nat / 2 ^ j % 2 = 0) (h0 : x.nat % 2 ^ (j + 1) ≠ 0 ∨ b = true) : restC (tw x b % 2 ^ (j + 1 + 1)) (2 ^ (j + 1 + 1)) = 1 := by
  have hp : 0 < 2 ^ j := Nat.pow_pos (by omega)
  have hm := mod_bit x.nat j
  rw [h, Nat.mul_zero, Nat.add_zero] at hm
  have hl := Nat.mod_lt x.nat hp
  rw [hm] at h0
  rw [tw_mod, hm, Nat.pow_succ, Nat.pow_succ]
  unfold restC
  cases b
  · simp only [Bool.false_eq_true, or_false] at *
    rw [if_neg (by omega), if_pos (by omega)]
  · simp only
    rw [if_neg (by omega), if_pos (by omega)]
theorem rc_above {x : W4} {b : Bool} {j : Nat} (h : x.nat / 2 ^ j % 2 = 1) (h0 : x.nat % 2 ^ j ≠ 0 ∨ b = true) : restC (tw x b % 2 ^ (j + 1 + 1)) (2 ^ (j + 1 + 1)) = 3 := by
  have hp : 0 < 2 ^ j := Nat.pow_pos (by omega)
  have hm := mod_bit x.nat j
  rw [h, Nat.mul_one] at hm
  rw [tw_mod, hm, Nat.pow_succ, Nat.pow_succ]
  unfold restC
  cases b
  · simp only [Bool.false_eq_true, or_false] at *
    rw [if_neg (by omega), if_neg (by omega), if_neg (by omega)]
  · simp only
    rw [if_neg (by omega), if_neg (by omega), if_neg (by omega)]
theorem rc_half {x : W4} {j : Nat} (h : x.nat / 2 ^ j % 2 = 1) (h0 : x.nat % 2 ^ j = 0) : restC (tw x false % 2 ^ (j + 1 + 1)) (2 ^ (j + 1 + 1)) = 2 := by
  have hp : 0 < 2 ^ j := Nat.pow_pos (by omega)
  have hm := mod_bit x.nat j
  rw [h, h0, Nat.mul_one] at hm
  rw [tw_mod, hm, Nat.pow_succ, Nat.pow_succ]
  unfold restC
  simp only
  rw [if_neg (by omega), if_neg (by omega), if_pos (by omega)]
/-- all below the first bit is nothing: then the number is told by what is above it -/
theorem back_iff {x : W4} (hx : x.ok) {j : Nat} (h : x.nat / 2 ^ j % 2 = 1) : eqW x (ofN ((2 * (x.nat / 2 ^ (j + 1)) + 1) * 2 ^ j)) = decide (x.nat % 2 ^ j = 0) := by
  have hl := W4.nat_lt hx
  have hm := mod_bit x.nat j
  rw [h, Nat.mul_one] at hm
  have hd := Nat.div_add_mod x.nat (2 ^ (j + 1))
  have e : (2 * (x.nat / 2 ^ (j + 1)) + 1) * 2 ^ j = x.nat - x.nat % 2 ^ j := by
    rw [Nat.pow_succ] at hd hm ⊢
    rw [Nat.add_mul, Nat.one_mul, Nat.mul_comm 2, Nat.mul_assoc, Nat.mul_comm 2, Nat.mul_comm]
    omega
  rw [e, Bool.eq_iff_iff, eqW_iff, decide_eq_true_eq]
  have hle : x.nat % 2 ^ j ≤ x.nat := Nat.mod_le _ _
  constructor
  · intro hh
    have := congrArg W4.nat hh
    rw [ofN_nat (by omega)] at this
    omega
  · intro hh
    rw [hh, Nat.sub_zero, ofN_self hx]
end Go.Wd
namespace Go.Proofs.Ytdlpffgekmidnab
open Go.KRun Go.Wd
set_option maxRecDepth 100000
def conFA : Con := alt 53 (g2 (plain2 mulV4)) (alt 45 (g1n (plain1n shrV4)) (alt 31 (g1n (plain1n shlV4)) (alt 30 (g1 lenV4) (alt 46 (g2 (plain2 addV4)) conN))))
theorem conFA_ok : ConOk conFA := alt_ok Try.func53 rfl (plain2_ok mul_calls) (alt_ok Try.func45 rfl (plain1n_ok shr_calls) (alt_ok Try.func31 rfl (plain1n_ok shl_calls) (alt_ok Try.func30 rfl (g1_ok wlen_calls) (alt_ok Try.func46 rfl (plain2_ok add_calls) conN_ok))))
/-- the two halves of a product; the product, cut; whether it is too great -/
def mLo (a b : W4) : W4 := W4.of (a.val * b.val)
def mHi (a b : W4) : W4 := W4.of (a.val * b.val / 115792089237316195423570985008687907853269984665640564039457584007913129639936)
def fmW (a b : W4) : W4 := W4.of ((shlW (mHi a b) 8).val + (shrW (mLo a b) 248).val)
def q2 (a b : W4) : Bool × Bool := (decide (a.ok ∧ b.ok), true)
def qk (a : W4) (n : Int) : Bool × Bool := (decide (a.ok ∧ -9223372036854775808 ≤ n ∧ n ≤ 9223372036854775807), true)
theorem fm_fits (a b : W4) : Fits (reckon (tabOf Try.prog extY conFA true) 300 42 [vW a, vW b] []) (.tuple #[vW (fmW a b), .bool (decide (lenI (mHi a b) > 248))]) [(decide (mHi a b).ok, true), q2 (shlW (mHi a b) 8) (shrW (mLo a b) 248), qk (mHi a b) 8, qk (mLo a b) 248, q2 a b] := ⟨by kernel_rfl, by kernel_rfl, by kernel_rfl, by kernel_rfl⟩
theorem len_gt {n k : Nat} : k < bitLen n ↔ 2 ^ k ≤ n := by
  have h := bitLen_spec n
  constructor
  · intro c
    have hn : n ≠ 0 := by
      rintro rfl
      exact absurd c (by decide +revert)
    exact Nat.le_trans (Nat.pow_le_pow_right (by omega) (by omega)) (h.2 hn)
  · intro c
    rcases Nat.lt_or_ge k (bitLen n) with e | e
    · exact e
    · have := Nat.pow_le_pow_right (show 0 < 2 by omega) e
      omega
theorem lenI_gt (x : W4) (k : Nat) : lenI x > k ↔ 2 ^ k ≤ x.nat := by
  unfold lenI W4.nat
  have := @len_gt x.val.toNat k
  omega
/-- what is answered, in plain numbers -/
def fmI (a b : W4) : Int := a.val * b.val / 452312848583266388373324160190187140051835877600158453279131187530910662656
def fmV4 (a b : W4) : Value := .tuple #[vW (W4.of (fmI a b)), .bool (decide (115792089237316195423570985008687907853269984665640564039457584007913129639936 ≤ fmI a b))]
theorem mul_bd2 {a b : W4} (ha : a.ok) (hb : b.ok) : 0 ≤ a.val * b.val ∧ a.val * b.val < 115792089237316195423570985008687907853269984665640564039457584007913129639936 * 115792089237316195423570985008687907853269984665640564039457584007913129639936 := by
  have h1 := W4.val_bd ha
  have h2 := W4.val_bd hb
  have h3 := Int.mul_nonneg h1.1 h2.1
  have h4 := Int.mul_le_mul (show a.val ≤ 115792089237316195423570985008687907853269984665640564039457584007913129639935 by omega) (show b.val ≤ 115792089237316195423570985008687907853269984665640564039457584007913129639935 by omega) h2.1 (by omega)
  constructor
  · exact h3
  · exact Int.lt_of_le_of_lt h4 (by decide)
theorem fm_calls (a b : W4) (ha : a.ok) (hb : b.ok) (w : World) : Calls Try.prog 42 #[vW a, vW b] w fun e w' => e = .returned (fmV4 a b) ∧ Tidy w w' := by
  have h := fits_calls (tabY_ok conFA_ok) (fm_fits a b) (okCons (decide_eq_true (W4.ok_of _)) (okCons (decide_eq_true ⟨by unfold shlW; rw [if_neg (by decide), if_neg (by decide)]; exact W4.ok_of _, by unfold shrW; rw [if_neg (by decide), if_neg (by decide)]; exact W4.ok_of _⟩) (okCons (decide_eq_true ⟨W4.ok_of _, by omega, by omega⟩) (okCons (decide_eq_true ⟨W4.ok_of _, by omega, by omega⟩) (okL1 (decide_eq_true ⟨ha, hb⟩)))))) (by rfl) (by rfl) w
  have bd := mul_bd2 ha hb
  have e1 : fmW a b = W4.of (fmI a b) := by
    have e8 : (2 : Int) ^ (8 : Int).toNat = 256 := rfl
    have e248 : (2 : Int) ^ (248 : Int).toNat = 452312848583266388373324160190187140051835877600158453279131187530910662656 := by rfl
    unfold fmW shlW shrW mHi mLo fmI
    rw [if_neg (by decide), if_neg (by decide), if_neg (by decide), if_neg (by decide), e8, e248]
    simp only [W4.val_of]
    generalize a.val * b.val = P at *
    rw [← of_mod (_ + _), ← of_mod (P / _)]
    congr 1
    omega
  have e2 : decide (lenI (mHi a b) > 248) = decide (115792089237316195423570985008687907853269984665640564039457584007913129639936 ≤ fmI a b) := by
    rw [decide_eq_decide]
    have g := lenI_gt (mHi a b) 248
    have p : (2 : Nat) ^ 248 = 452312848583266388373324160190187140051835877600158453279131187530910662656 := by rfl
    rw [p] at g
    have : (mHi a b).nat = (a.val * b.val / 115792089237316195423570985008687907853269984665640564039457584007913129639936).toNat := by
      unfold W4.nat mHi
      rw [W4.val_of, Int.emod_eq_of_lt (by omega) (by omega)]
    rw [this] at g
    unfold fmI
    generalize a.val * b.val = P at *
    omega
  rw [e1, e2] at h
  exact h
end Go.Proofs.Ytdlpffgekmidnab
namespace Go.Fx
/-- a sum of the first n -/
def sm (f : Nat → Rat) : Nat → Rat
  | 0 => 0
  | n + 1 => sm f n + f n
theorem sm_add (f g : Nat → Rat) : ∀ n, sm (fun i => f i + g i) n = sm f n + sm g n
  | 0 => by simp only [sm]; grind
  | n + 1 => by simp only [sm]; rw [sm_add f g n]; grind
theorem sm_congr {f g : Nat → Rat} : ∀ {n : Nat}, (∀ i, i < n → f i = g i) → sm f n = sm g n
  | 0, _ => rfl
  | n + 1, h => by simp only [sm]; rw [sm_congr (n := n) fun i hi => h i (by omega), h n (by omega)]
/-- the first one apart -/
theorem sm_head (f : Nat → Rat) : ∀ n, sm f (n + 1) = f 0 + sm (fun i => f (i + 1)) n
  | 0 => by simp only [sm]; grind
  | n + 1 => by
    have := sm_head f n
    simp only [sm] at this ⊢
    rw [this]
    grind
/-- a^m parted by m! -/
def pf (a : Rat) : Nat → Rat
  | 0 => 1
  | m + 1 => pf a m * a / ((m + 1 : Nat) : Rat)
theorem nat_ne (m : Nat) : ((m + 1 : Nat) : Rat) ≠ 0 := by
  intro h
  have : (m + 1 : Nat) = 0 := by exact_mod_cast h
  omega
theorem pf_step (a : Rat) (m : Nat) : ((m + 1 : Nat) : Rat) * pf a (m + 1) = a * pf a m := by
  have := nat_ne m
  simp only [pf]
  grind
theorem sm_neg (f : Nat → Rat) : ∀ n, sm (fun i => -f i) n = -sm f n
  | 0 => by simp only [sm]; grind
  | n + 1 => by simp only [sm]; rw [sm_neg f n]; grind
/-- a part of a sum: its size -/
theorem sm_part {b B : Nat → Rat} (h : ∀ i, -B i ≤ b i ∧ b i ≤ B i) (k : Nat) : ∀ d, -(sm B (k + d) - sm B k) ≤ sm b (k + d) - sm b k ∧ sm b (k + d) - sm b k ≤ sm B (k + d) - sm B k
  | 0 => by rw [Nat.add_zero]; grind
  | d + 1 => by
    have h1 := sm_part h k d
    have h2 := h (k + d)
    rw [← Nat.add_assoc]
    simp only [sm]
    grind
theorem pf_pos {x : Rat} (hx : 0 ≤ x) : ∀ m, 0 ≤ pf x m
  | 0 => by simp only [pf]; grind
  | m + 1 => by
    have h1 := pf_pos hx m
    have h2 : (0 : Rat) < ((m + 1 : Nat) : Rat) := by exact_mod_cast Nat.succ_pos m
    simp only [pf]
    rw [Rat.div_def]
    exact Rat.mul_nonneg (Rat.mul_nonneg h1 hx) (Rat.le_of_lt (Rat.inv_pos.2 h2))
/-- the signs: 1, 0, -1, 0, .. and 0, 1, 0, -1, .. -/
def csI (k : Nat) : Rat := if k % 4 = 0 then 1 else if k % 4 = 2 then -1 else 0
def snI (k : Nat) : Rat := if k % 4 = 1 then 1 else if k % 4 = 3 then -1 else 0
def c15 (x : Rat) (k : Nat) : Rat := csI k * pf x k
def s15 (x : Rat) (k : Nat) : Rat := snI k * pf x k
/-- the sign of the other number's power -/
def mns (j : Nat) : Rat := if j % 2 = 0 then 1 else -1
theorem cs_bd (x : Rat) (hx : 0 ≤ x) (k : Nat) : -pf x k ≤ c15 x k ∧ c15 x k ≤ pf x k := by
  have := pf_pos hx k
  unfold c15 csI
  split
  · grind
  · split <;> grind
theorem sn_bd (x : Rat) (hx : 0 ≤ x) (k : Nat) : -pf x k ≤ s15 x k ∧ s15 x k ≤ pf x k := by
  have := pf_pos hx k
  unfold s15 snI
  split
  · grind
  · split <;> grind
theorem pf_mono {x y : Rat} (h0 : 0 ≤ x) (h : x ≤ y) : ∀ m, pf x m ≤ pf y m
  | 0 => by simp only [pf]; grind
  | m + 1 => by
    have h1 := pf_mono h0 h m
    have h2 : (0 : Rat) < ((m + 1 : Nat) : Rat) := by exact_mod_cast Nat.succ_pos m
    simp only [pf]
    rw [Rat.div_def, Rat.div_def]
    refine Rat.mul_le_mul_of_nonneg_right ?_ (Rat.le_of_lt (Rat.inv_pos.2 h2))
    have p1 := pf_pos h0 m
    have p2 := Rat.mul_le_mul_of_nonneg_right h1 h0
    have p3 := Rat.mul_le_mul_of_nonneg_left h (show 0 ≤ pf y m by grind)
    grind
theorem sm_gap {f g : Nat → Rat} (h : ∀ i, f i ≤ g i) (k : Nat) : ∀ d, sm f (k + d) - sm f k ≤ sm g (k + d) - sm g k
  | 0 => by rw [Nat.add_zero]; grind
  | d + 1 => by
    have h1 := sm_gap h k d
    have h2 := h (k + d)
    rw [← Nat.add_assoc]
    simp only [sm]
    grind
/-- the sine and the cosine -/
def sinQ (x : Rat) : Rat := sm (s15 x) 128
def cosQ (x : Rat) : Rat := sm (c15 x) 128
/-- a sum with signs by turns -/
def al (a : Nat → Rat) (n : Nat) : Rat := sm (fun k => mns k * a k) n
theorem mns_zero : mns 0 = 1 := rfl
theorem mns_succ (j : Nat) : mns (j + 1) = -mns j := by
  unfold mns
  rcases Nat.mod_two_eq_zero_or_one j with c | c
  · rw [if_neg (show ¬ (j + 1) % 2 = 0 by omega), if_pos c]
  · rw [if_pos (show (j + 1) % 2 = 0 by omega), if_neg (show ¬ j % 2 = 0 by omega)]
    grind
theorem al_succ (a : Nat → Rat) (n : Nat) : al a (n + 1) = a 0 - al (fun k => a (k + 1)) n := by
  unfold al
  rw [sm_head, mns_zero]
  have : sm (fun i => mns (i + 1) * a (i + 1)) n = -sm (fun k => mns k * a (k + 1)) n := by
    rw [← sm_neg]
    refine sm_congr fun i hi => ?_
    rw [mns_succ]
    grind
  rw [this]
  grind
theorem al_bd : ∀ (n : Nat) (a : Nat → Rat), (∀ k, 0 ≤ a k) → (∀ k, a (k + 1) ≤ a k) → 0 ≤ al a n ∧ al a n ≤ a 0
  | 0, a, h, _ => by
    have : al a 0 = 0 := rfl
    have := h 0
    constructor <;> grind
  | n + 1, a, h, g => by
    have h1 := al_bd n (fun k => a (k + 1)) (fun k => h (k + 1)) fun k => g (k + 1)
    have h2 := g 0
    rw [al_succ]
    simp only [Nat.zero_add] at h1 h2
    constructor <;> grind
theorem al_low (n : Nat) (a : Nat → Rat) (h : ∀ k, 0 ≤ a k) (g : ∀ k, a (k + 1) ≤ a k) : a 0 - a 1 ≤ al a (n + 1) := by
  have h1 := al_bd n (fun k => a (k + 1)) (fun k => h (k + 1)) fun k => g (k + 1)
  rw [al_succ]
  simp only [Nat.zero_add] at h1
  grind
/-- the series' sums are sums with signs by turns -/
theorem s15_al (x : Rat) : ∀ n, sm (s15 x) (2 * n) = al (fun k => pf x (2 * k + 1)) n
  | 0 => rfl
  | n + 1 => by
    have h := s15_al x n
    have e1 : snI (2 * n) = 0 := by
      unfold snI
      rw [if_neg (by omega), if_neg (by omega)]
    have e2 : snI (2 * n + 1) = mns n := by
      unfold snI mns
      rcases Nat.mod_two_eq_zero_or_one n with c | c
      · rw [if_pos (by omega), if_pos c]
      · rw [if_neg (by omega), if_pos (by omega), if_neg (by omega)]
    show sm (s15 x) (2 * n) + s15 x (2 * n) + s15 x (2 * n + 1) = al _ n + mns n * pf x (2 * n + 1)
    rw [h]
    unfold s15
    rw [e1, e2]
    grind
theorem c15_al (x : Rat) : ∀ n, sm (c15 x) (2 * n) = al (fun k => pf x (2 * k)) n
  | 0 => rfl
  | n + 1 => by
    have h := c15_al x n
    have e1 : csI (2 * n) = mns n := by
      unfold csI mns
      rcases Nat.mod_two_eq_zero_or_one n with c | c
      · rw [if_pos (by omega), if_pos c]
      · rw [if_neg (by omega), if_pos (by omega), if_neg (by omega)]
    have e2 : csI (2 * n + 1) = 0 := by
      unfold csI
      rw [if_neg (by omega), if_neg (by omega)]
    show sm (c15 x) (2 * n) + c15 x (2 * n) + c15 x (2 * n + 1) = al _ n + mns n * pf x (2 * n)
    rw [h]
    unfold c15
    rw [e1, e2]
    grind
theorem pf_less {x : Rat} (h0 : 0 ≤ x) (h1 : x ≤ 1) (m : Nat) : pf x (m + 1) ≤ pf x m := by
  have p := pf_pos h0 m
  have s := pf_step x m
  have q := pf_pos h0 (m + 1)
  have c : (1 : Rat) ≤ ((m + 1 : Nat) : Rat) := by exact_mod_cast Nat.succ_le_succ (Nat.zero_le m)
  have h2 := Rat.mul_le_mul_of_nonneg_right h1 p
  have h3 := Rat.mul_le_mul_of_nonneg_right c q
  grind
theorem sin_pos {x : Rat} (h0 : 0 ≤ x) (h1 : x ≤ 1) : 0 ≤ sinQ x := by
  unfold sinQ
  rw [s15_al x 64]
  refine (al_bd 64 _ (fun k => pf_pos h0 _) fun k => ?_).1
  have a := pf_less h0 h1 (2 * k + 1)
  have b := pf_less h0 h1 (2 * k + 2)
  show pf x (2 * (k + 1) + 1) ≤ pf x (2 * k + 1)
  rw [show 2 * (k + 1) + 1 = 2 * k + 2 + 1 by omega]
  grind
theorem cos_half {x : Rat} (h0 : 0 ≤ x) (h1 : x ≤ 1) : (1 : Rat) / 2 ≤ cosQ x := by
  unfold cosQ
  rw [c15_al x 64]
  have l := al_low 63 (fun k => pf x (2 * k)) (fun k => pf_pos h0 _) fun k => by
    have a := pf_less h0 h1 (2 * k)
    have b := pf_less h0 h1 (2 * k + 1)
    show pf x (2 * (k + 1)) ≤ pf x (2 * k)
    rw [show 2 * (k + 1) = 2 * k + 1 + 1 by omega]
    grind
  have e0 : pf x (2 * 0) = 1 := rfl
  have e1 : pf x (2 * 1) = 1 * x / ((0 + 1 : Nat) : Rat) * x / ((1 + 1 : Nat) : Rat) := rfl
  have s1 := Rat.mul_le_mul_of_nonneg_right h1 h0
  have e2 : ((0 + 1 : Nat) : Rat) = 1 := rfl
  have e3 : ((1 + 1 : Nat) : Rat) = 2 := rfl
  rw [e2, e3] at e1
  show _ ≤ al _ (63 + 1)
  grind
/-! ### terms in whole units -/
/-- the terms, in units of which U are 1; each is cut -/
def tm (U s f n0 : Nat) : Nat → Nat
  | 0 => f
  | k + 1 => tm U s f n0 k * s / U / ((n0 + 2 * k) * (n0 + 2 * k + 1))
/-- the sum of the first n, with signs by turns -/
def sr (U s f n0 : Nat) : Nat → Int
  | 0 => 0
  | k + 1 => if k % 2 = 0 then sr U s f n0 k + tm U s f n0 k else sr U s f n0 k - tm U s f n0 k
theorem sr_al (U s f n0 : Nat) : ∀ n, ((sr U s f n0 n : Int) : Rat) = al (fun k => ((tm U s f n0 k : Nat) : Rat)) n
  | 0 => rfl
  | n + 1 => by
    have h := sr_al U s f n0 n
    show _ = al (fun k => ((tm U s f n0 k : Nat) : Rat)) n + mns n * ((tm U s f n0 n : Nat) : Rat)
    simp only [sr]
    unfold mns
    split
    · rw [Rat.intCast_add, h, Rat.intCast_natCast]
      grind
    · rw [Rat.intCast_sub, h, Rat.intCast_natCast]
      grind
theorem tm_less {U s f n0 : Nat} (hU : 0 < U) (hs : s ≤ U) (k : Nat) : tm U s f n0 (k + 1) ≤ tm U s f n0 k := by
  simp only [tm]
  refine Nat.le_trans (Nat.div_le_self _ _) ?_
  refine Nat.le_trans (Nat.div_le_div_right (Nat.mul_le_mul_left _ hs)) ?_
  rw [Nat.mul_div_cancel _ hU]
  exact Nat.le_refl _
theorem sr_bd {U s f n0 : Nat} (hU : 0 < U) (hs : s ≤ U) (n : Nat) : 0 ≤ sr U s f n0 n ∧ sr U s f n0 n ≤ f := by
  have h := al_bd n (fun k => ((tm U s f n0 k : Nat) : Rat)) (fun k => by exact_mod_cast Nat.zero_le _) fun k => by
    have := tm_less (f := f) (n0 := n0) hU hs k
    exact_mod_cast this
  rw [← sr_al] at h
  constructor
  · exact_mod_cast h.1
  · have h2 := h.2
    have e : ((tm U s f n0 0 : Nat) : Rat) = ((f : Nat) : Rat) := rfl
    rw [e, ← Rat.intCast_natCast] at h2
    exact_mod_cast h2
theorem tm_le {U s f n0 : Nat} (hU : 0 < U) (hs : s ≤ U) : ∀ k, tm U s f n0 k ≤ f
  | 0 => Nat.le_refl _
  | k + 1 => Nat.le_trans (tm_less hU hs k) (tm_le hU hs k)
/-- behind a term that is 0 nothing comes -/
theorem tm_none {U s f n0 j : Nat} (h : tm U s f n0 j = 0) : ∀ d, tm U s f n0 (j + d) = 0
  | 0 => h
  | d + 1 => by
    have := tm_none h d
    show tm U s f n0 (j + d) * s / U / _ = 0
    rw [this, Nat.zero_mul, Nat.zero_div, Nat.zero_div]
theorem sr_stop {U s f n0 j : Nat} (h : tm U s f n0 j = 0) : ∀ d, sr U s f n0 (j + d) = sr U s f n0 j
  | 0 => rfl
  | d + 1 => by
    have h1 := sr_stop h d
    have h2 := tm_none h d
    show (if (j + d) % 2 = 0 then sr U s f n0 (j + d) + ((tm U s f n0 (j + d) : Nat) : Int) else sr U s f n0 (j + d) - ((tm U s f n0 (j + d) : Nat) : Int)) = _
    rw [h1, h2]
    split <;> omega
theorem nat_pos {n : Nat} (h : 0 < n) : (0 : Rat) < ((n : Nat) : Rat) := by exact_mod_cast h
theorem nat_nn (n : Nat) : (0 : Rat) ≤ ((n : Nat) : Rat) := by exact_mod_cast Nat.zero_le n
theorem div_up (a b : Nat) : ((a / b : Nat) : Rat) * ((b : Nat) : Rat) ≤ ((a : Nat) : Rat) := by
  rw [← Rat.natCast_mul]
  exact_mod_cast Nat.div_mul_le_self a b
theorem div_lo {a b : Nat} (h : 0 < b) : ((a : Nat) : Rat) + 1 ≤ ((a / b : Nat) : Rat) * ((b : Nat) : Rat) + ((b : Nat) : Rat) := by
  have h1 := Nat.div_add_mod a b
  have h2 := Nat.mod_lt a h
  rw [Nat.mul_comm] at h1
  have h3 : a + 1 ≤ a / b * b + b := by omega
  have h4 : ((a + 1 : Nat) : Rat) ≤ ((a / b * b + b : Nat) : Rat) := by exact_mod_cast h3
  rw [Rat.natCast_add, Rat.natCast_add, Rat.natCast_mul] at h4
  exact h4
theorem le_of_mul {c a b : Rat} (hc : 0 < c) (h : c * a ≤ c * b) : a ≤ b := by
  rcases (Rat.le_total : a ≤ b ∨ b ≤ a) with k | k
  · exact k
  · have h1 := Rat.mul_le_mul_of_nonneg_left k (Rat.le_of_lt hc)
    have h2 : c * a = c * b := by grind
    have h3 : c * (a - b) = 0 := by grind
    rcases Rat.mul_eq_zero.1 h3 with e | e
    · grind
    · grind
/-- one term more: t is told of T (in units) with e cut off, e at most 2, or nothing where N is small -/
theorem one_term {U s x N t : Nat} {X T : Rat} (hU : 0 < U) (hN : 0 < N) (hX : ((x : Nat) : Rat) = X * ((U : Nat) : Rat)) (hx : x ≤ U) (hs : s = x * x / U)
    (h0 : ((t : Nat) : Rat) ≤ T * ((U : Nat) : Rat)) (h1 : T ≤ 1) (h2 : T * ((U : Nat) : Rat) ≤ ((t : Nat) : Rat) + 2) (h3 : 3 ≤ N ∨ T * ((U : Nat) : Rat) = ((t : Nat) : Rat)) {T' : Rat} (hT : T' * ((N : Nat) : Rat) = T * (X * X)) :
    ((t * s / U / N : Nat) : Rat) ≤ T' * ((U : Nat) : Rat) ∧ T' * ((U : Nat) : Rat) ≤ ((t * s / U / N : Nat) : Rat) + 2 := by
  have u := nat_pos hU
  have n := nat_pos hN
  have s1 := div_up (x * x) U
  have s2 := div_lo (a := x * x) hU
  rw [← hs, Rat.natCast_mul] at s1 s2
  have s3 : s ≤ U := by
    rw [hs]
    have := Nat.mul_le_mul_left x hx
    exact Nat.le_trans (Nat.div_le_div_right this) (by rw [Nat.mul_div_cancel _ hU]; exact hx)
  have s4 : ((s : Nat) : Rat) ≤ ((U : Nat) : Rat) := by exact_mod_cast s3
  have p1 := div_up (t * s) U
  have p2 := div_lo (a := t * s) hU
  rw [Rat.natCast_mul] at p1 p2
  have q1 := div_up (t * s / U) N
  have q2 := div_lo (a := t * s / U) hN
  have t0 := nat_nn t
  have z0 := nat_nn s
  generalize ((t * s / U / N : Nat) : Rat) = q at *
  generalize ((t * s / U : Nat) : Rat) = p at *
  generalize ((t : Nat) : Rat) = t at *
  generalize ((s : Nat) : Rat) = z at *
  rw [hX] at s1 s2
  -- the square in units: z ≤ U X X, and U X X ≤ z + 1
  have e0 : X * ((U : Nat) : Rat) * (X * ((U : Nat) : Rat)) = ((U : Nat) : Rat) * (((U : Nat) : Rat) * (X * X)) := by grind
  have y1 : z ≤ ((U : Nat) : Rat) * (X * X) := le_of_mul u (by grind)
  have y2 : ((U : Nat) : Rat) * (X * X) ≤ z + 1 := le_of_mul u (by grind)
  have N3 : (3 ≤ N) → (3 : Rat) ≤ ((N : Nat) : Rat) := fun h => by exact_mod_cast h
  have N1 : (1 : Rat) ≤ ((N : Nat) : Rat) := by exact_mod_cast hN
  generalize ((U : Nat) : Rat) = V at *
  generalize ((N : Nat) : Rat) = M at *
  generalize X * X = Y at *
  -- t z ≤ (T V) (V Y)
  have w1 : t * z ≤ (T * V) * (V * Y) := by
    have a := Rat.mul_le_mul_of_nonneg_right h0 z0
    have b := Rat.mul_le_mul_of_nonneg_left y1 (show 0 ≤ T * V by grind)
    grind
  have w2 : (T * V) * (V * Y) ≤ t * z + V * T + V * (T * V - t) := by
    -- (T V)(V Y - z) ≤ T V ; (T V - t) z ≤ (T V - t) V
    have a := Rat.mul_le_mul_of_nonneg_left y2 (show 0 ≤ T * V by grind)
    have b := Rat.mul_le_mul_of_nonneg_left s4 (show 0 ≤ T * V - t by grind)
    grind
  clear hX e0 s1 s2 hs y1 y2
  have c1 : M * V * (T' * V) = (T * V) * (V * Y) := by grind
  clear hT
  constructor
  · refine le_of_mul (Rat.mul_pos n u) ?_
    rw [c1]
    have a := Rat.mul_le_mul_of_nonneg_right q1 (Rat.le_of_lt u)
    clear c1 h3
    grind
  · refine le_of_mul (Rat.mul_pos n u) ?_
    have a := Rat.mul_le_mul_of_nonneg_right q2 (Rat.le_of_lt u)
    rw [c1]
    clear c1
    have g1 := Rat.mul_le_mul_of_nonneg_left h1 (Rat.le_of_lt u)
    have f1 : T * V - t ≤ 2 := by grind
    have g2 := Rat.mul_le_mul_of_nonneg_left f1 (Rat.le_of_lt u)
    rcases h3 with k | k
    · have k3 := N3 k
      have g3 := Rat.mul_le_mul_of_nonneg_left k3 (Rat.le_of_lt u)
      grind
    · have g3 := Rat.mul_le_mul_of_nonneg_left N1 (Rat.le_of_lt u)
      have k0 : V * (T * V - t) = 0 := by rw [k]; grind
      rw [k0] at w2
      clear k k0 h0 h2 f1 g2 w1 N3
      generalize T * V * (V * Y) = A at *
      grind
/-- all terms -/
theorem all_terms {U s x f n0 : Nat} {X : Rat} {T : Nat → Rat} (hU : 0 < U) (hX : ((x : Nat) : Rat) = X * ((U : Nat) : Rat)) (hx : x ≤ U) (hs : s = x * x / U) (hn : 0 < n0)
    (h0 : T 0 * ((U : Nat) : Rat) = ((f : Nat) : Rat)) (h1 : ∀ k, T k ≤ 1) (hT : ∀ k, T (k + 1) * (((n0 + 2 * k) * (n0 + 2 * k + 1) : Nat) : Rat) = T k * (X * X)) :
    ∀ k, ((tm U s f n0 k : Nat) : Rat) ≤ T k * ((U : Nat) : Rat) ∧ T k * ((U : Nat) : Rat) ≤ ((tm U s f n0 k : Nat) : Rat) + 2
  | 0 => by
    simp only [tm]
    constructor <;> grind
  | k + 1 => by
    have h := all_terms hU hX hx hs hn h0 h1 hT k
    simp only [tm]
    refine one_term hU (Nat.mul_pos (by omega) (by omega)) hX hx hs h.1 (h1 k) h.2 ?_ (hT k)
    rcases Nat.eq_zero_or_pos k with c | c
    · subst c
      exact .inr h0
    · left
      exact Nat.le_trans (by omega) (Nat.mul_le_mul (show 3 ≤ n0 + 2 * k by omega) (show 1 ≤ n0 + 2 * k + 1 by omega))
/-- the sums -/
theorem all_sums {U s f n0 : Nat} {T : Nat → Rat} (h : ∀ k, ((tm U s f n0 k : Nat) : Rat) ≤ T k * ((U : Nat) : Rat) ∧ T k * ((U : Nat) : Rat) ≤ ((tm U s f n0 k : Nat) : Rat) + 2) :
    ∀ n, ((sr U s f n0 n : Int) : Rat) ≤ al T n * ((U : Nat) : Rat) + ((n - n % 2 : Nat) : Rat) ∧ al T n * ((U : Nat) : Rat) ≤ ((sr U s f n0 n : Int) : Rat) + ((n + n % 2 : Nat) : Rat)
  | 0 => by
    have e1 : al T 0 = 0 := rfl
    have e2 : ((sr U s f n0 0 : Int) : Rat) = 0 := rfl
    have e3 : ((0 - 0 % 2 : Nat) : Rat) = 0 := rfl
    rw [e1, e2, e3]
    constructor <;> grind
  | n + 1 => by
    have i := all_sums h n
    have j := h n
    have e1 : al T (n + 1) = al T n + mns n * T n := rfl
    have e2 : ((sr U s f n0 (n + 1) : Int) : Rat) = ((sr U s f n0 n : Int) : Rat) + mns n * ((tm U s f n0 n : Nat) : Rat) := by
      rw [sr_al, sr_al]
      rfl
    rw [e1, e2]
    rcases Nat.mod_two_eq_zero_or_one n with c | c
    · have m : mns n = 1 := by unfold mns; rw [if_pos c]
      have a1 : ((n + 1 - (n + 1) % 2 : Nat) : Rat) = ((n - n % 2 : Nat) : Rat) := by congr 1; omega
      have a2 : ((n + 1 + (n + 1) % 2 : Nat) : Rat) = ((n + n % 2 : Nat) : Rat) + 2 := by
        have : n + 1 + (n + 1) % 2 = n + n % 2 + 2 := by omega
        rw [this, Rat.natCast_add]
        rfl
      rw [m, a1, a2]
      constructor <;> grind
    · have m : mns n = -1 := by unfold mns; rw [if_neg (by omega)]
      have a1 : ((n + 1 - (n + 1) % 2 : Nat) : Rat) = ((n - n % 2 : Nat) : Rat) + 2 := by
        have : n + 1 - (n + 1) % 2 = n - n % 2 + 2 := by omega
        rw [this, Rat.natCast_add]
        rfl
      have a2 : ((n + 1 + (n + 1) % 2 : Nat) : Rat) = ((n + n % 2 : Nat) : Rat) := by congr 1; omega
      rw [m, a1, a2]
      constructor <;> grind
/-- the sine's and the cosine's sums, of an angle x in units of which U are 1 -/
def sS (U n x : Nat) : Int := sr U (x * x / U) x 2 n
def cS (U n x : Nat) : Int := sr U (x * x / U) U 1 n
theorem sq_le {U x : Nat} (hU : 0 < U) (hx : x ≤ U) : x * x / U ≤ U := by
  have := Nat.mul_le_mul_left x hx
  exact Nat.le_trans (Nat.div_le_div_right this) (by rw [Nat.mul_div_cancel _ hU]; exact hx)
theorem sS_bd {U x : Nat} (hU : 0 < U) (hx : x ≤ U) (n : Nat) : 0 ≤ sS U n x ∧ sS U n x ≤ x := sr_bd hU (sq_le hU hx) n
theorem cS_bd {U x : Nat} (hU : 0 < U) (hx : x ≤ U) (n : Nat) : 0 ≤ cS U n x ∧ cS U n x ≤ U := sr_bd hU (sq_le hU hx) n
theorem pf_le_one {x : Rat} (h0 : 0 ≤ x) (h1 : x ≤ 1) : ∀ m, pf x m ≤ 1
  | 0 => by simp only [pf]; grind
  | m + 1 => by
    have a := pf_less h0 h1 m
    have b := pf_le_one h0 h1 m
    grind
theorem pf_two (x : Rat) (m : Nat) : pf x (m + 2) * (((m + 1) * (m + 2) : Nat) : Rat) = pf x m * (x * x) := by
  have h1 := pf_step x m
  have h2 := pf_step x (m + 1)
  rw [Rat.natCast_mul]
  have e : m + 1 + 1 = m + 2 := by omega
  rw [e] at h2
  grind
/-- x, of which U are 1 -/
def qt (U x : Nat) : Rat := ((x : Nat) : Rat) / ((U : Nat) : Rat)
theorem qt_mul {U : Nat} (hU : 0 < U) (x : Nat) : ((x : Nat) : Rat) = qt U x * ((U : Nat) : Rat) := by
  have := nat_pos hU
  unfold qt
  grind
theorem qt_bd {U x : Nat} (hU : 0 < U) (hx : x ≤ U) : 0 ≤ qt U x ∧ qt U x ≤ 1 := by
  have u := nat_pos hU
  have h := qt_mul hU x
  have h1 : ((x : Nat) : Rat) ≤ ((U : Nat) : Rat) := by exact_mod_cast hx
  have h0 := nat_nn x
  constructor
  · exact le_of_mul u (by grind)
  · exact le_of_mul u (by grind)
theorem sS_off {U x : Nat} (hU : 0 < U) (hx : x ≤ U) (n : Nat) : ((sS U n x : Int) : Rat) ≤ sm (s15 (qt U x)) (2 * n) * ((U : Nat) : Rat) + ((n - n % 2 : Nat) : Rat) ∧ sm (s15 (qt U x)) (2 * n) * ((U : Nat) : Rat) ≤ ((sS U n x : Int) : Rat) + ((n + n % 2 : Nat) : Rat) := by
  have q := qt_bd hU hx
  rw [s15_al]
  refine all_sums (T := fun k => pf (qt U x) (2 * k + 1)) (all_terms (X := qt U x) hU (qt_mul hU x) hx rfl (by omega) ?_ (fun k => pf_le_one q.1 q.2 _) fun k => ?_) n
  · show pf (qt U x) 1 * _ = _
    have h := qt_mul hU x
    have e : pf (qt U x) 1 = 1 * qt U x / ((0 + 1 : Nat) : Rat) := rfl
    have e3 : ((0 + 1 : Nat) : Rat) = 1 := rfl
    rw [e, e3]
    grind
  · have h := pf_two (qt U x) (2 * k + 1)
    rw [show (2 + 2 * k) * (2 + 2 * k + 1) = (2 * k + 1 + 1) * (2 * k + 1 + 2) by rw [show 2 + 2 * k = 2 * k + 1 + 1 by omega], show 2 * (k + 1) + 1 = 2 * k + 1 + 2 by omega]
    exact h
theorem cS_off {U x : Nat} (hU : 0 < U) (hx : x ≤ U) (n : Nat) : ((cS U n x : Int) : Rat) ≤ sm (c15 (qt U x)) (2 * n) * ((U : Nat) : Rat) + ((n - n % 2 : Nat) : Rat) ∧ sm (c15 (qt U x)) (2 * n) * ((U : Nat) : Rat) ≤ ((cS U n x : Int) : Rat) + ((n + n % 2 : Nat) : Rat) := by
  have q := qt_bd hU hx
  rw [c15_al]
  refine all_sums (T := fun k => pf (qt U x) (2 * k)) (all_terms (X := qt U x) hU (qt_mul hU x) hx rfl (by omega) ?_ (fun k => pf_le_one q.1 q.2 _) fun k => ?_) n
  · show (1 : Rat) * _ = _
    grind
  · have h := pf_two (qt U x) (2 * k)
    rw [show (1 + 2 * k) * (1 + 2 * k + 1) = (2 * k + 1) * (2 * k + 2) by rw [show 1 + 2 * k = 2 * k + 1 by omega], show 2 * (k + 1) = 2 * k + 2 by omega]
    exact h
/-! ### what is left out -/
theorem rest_le {b : Rat → Nat → Rat} (hb : ∀ x, 0 ≤ x → ∀ k, -pf x k ≤ b x k ∧ b x k ≤ pf x k) {x : Rat} (h0 : 0 ≤ x) (h1 : x ≤ 1) (k d : Nat) {e : Rat} (he : sm (pf 1) (k + d) - sm (pf 1) k ≤ e) : -e ≤ sm (b x) (k + d) - sm (b x) k ∧ sm (b x) (k + d) - sm (b x) k ≤ e := by
  have p := sm_part (hb x h0) k d
  have g := sm_gap (pf_mono h0 h1) k d
  constructor <;> grind
theorem left58 : sm (pf 1) (58 + 70) - sm (pf 1) 58 ≤ 1 / ((2 ^ 250 : Nat) : Rat) := by decide +kernel
/-- as many units as are 1 -/
def uP : Nat := 2 ^ 248
theorem uP_pos : 0 < uP := by decide
theorem small58 : 1 / ((2 ^ 250 : Nat) : Rat) * ((uP : Nat) : Rat) ≤ 1 := by decide +kernel
/-- the program's sums: the sine (cosine) lies between 29 units below and 31 above -/
theorem near_of {S m1 m2 U e : Rat} {lo hi : Rat} (hU : 0 ≤ U) (h1 : S ≤ m1 * U + lo) (h2 : m1 * U ≤ S + hi) (h3 : -e ≤ m2 - m1) (h4 : m2 - m1 ≤ e) (h5 : e * U ≤ 1) : S ≤ m2 * U + (lo + 1) ∧ m2 * U ≤ S + (hi + 1) := by
  have a := Rat.mul_le_mul_of_nonneg_right h3 hU
  have b := Rat.mul_le_mul_of_nonneg_right h4 hU
  constructor <;> grind
theorem sP_near {x : Nat} (hx : x ≤ uP) : ((sS uP 29 x : Int) : Rat) ≤ sinQ (qt uP x) * ((uP : Nat) : Rat) + 29 ∧ sinQ (qt uP x) * ((uP : Nat) : Rat) ≤ ((sS uP 29 x : Int) : Rat) + 31 := by
  have q := qt_bd uP_pos hx
  have h := sS_off uP_pos hx 29
  have r := rest_le (b := s15) (fun x h => sn_bd x h) q.1 q.2 58 70 left58
  have n := near_of (Rat.le_of_lt (nat_pos uP_pos)) h.1 h.2 r.1 r.2 small58
  have e1 : ((29 - 29 % 2 : Nat) : Rat) + 1 = 29 := by decide +kernel
  have e2 : ((29 + 29 % 2 : Nat) : Rat) + 1 = 31 := by decide +kernel
  rw [e1, e2] at n
  exact n
theorem cP_near {x : Nat} (hx : x ≤ uP) : ((cS uP 29 x : Int) : Rat) ≤ cosQ (qt uP x) * ((uP : Nat) : Rat) + 29 ∧ cosQ (qt uP x) * ((uP : Nat) : Rat) ≤ ((cS uP 29 x : Int) : Rat) + 31 := by
  have q := qt_bd uP_pos hx
  have h := cS_off uP_pos hx 29
  have r := rest_le (b := c15) (fun x h => cs_bd x h) q.1 q.2 58 70 left58
  have n := near_of (Rat.le_of_lt (nat_pos uP_pos)) h.1 h.2 r.1 r.2 small58
  have e1 : ((29 - 29 % 2 : Nat) : Rat) + 1 = 29 := by decide +kernel
  have e2 : ((29 + 29 % 2 : Nat) : Rat) + 1 = 31 := by decide +kernel
  rw [e1, e2] at n
  exact n
/-- the bounds: 32 units below (0 at least) and above -/
def lo32 (S : Int) : Nat := (S - 32).toNat
def hi32 (S : Int) : Nat := (S + 32).toNat
/-- the facts of an angle: s, c are the sine and the cosine in units -/
structure Fx (x : Nat) (s c : Rat) : Prop where
  s0 : 0 ≤ s
  c0 : ((uP : Nat) : Rat) ≤ 2 * c
  sl : ((sS uP 29 x : Int) : Rat) ≤ s + 29
  sh : s ≤ ((sS uP 29 x : Int) : Rat) + 31
  cl : ((cS uP 29 x : Int) : Rat) ≤ c + 29
  ch : c ≤ ((cS uP 29 x : Int) : Rat) + 31
theorem fx_of {x : Nat} (hx : x ≤ uP) : Fx x (sinQ (qt uP x) * ((uP : Nat) : Rat)) (cosQ (qt uP x) * ((uP : Nat) : Rat)) := by
  have q := qt_bd uP_pos hx
  have u := nat_pos uP_pos
  have hs := sP_near hx
  have hc := cP_near hx
  have h1 := Rat.mul_nonneg (sin_pos q.1 q.2) (Rat.le_of_lt u)
  have h2 := Rat.mul_le_mul_of_nonneg_right (cos_half q.1 q.2) (Rat.le_of_lt u)
  exact ⟨h1, by grind, hs.1, hs.2, hc.1, hc.2⟩
theorem cos_big {x : Nat} (hx : x ≤ uP) : (uP : Int) ≤ 2 * cS uP 29 x + 62 := by
  have F := fx_of hx
  have h1 := F.c0
  have h2 := F.ch
  have h : (((uP : Nat) : Int) : Rat) ≤ ((2 * cS uP 29 x + 62 : Int) : Rat) := by
    rw [Rat.intCast_add, Rat.intCast_mul, Rat.intCast_natCast]
    have e1 : ((2 : Int) : Rat) = 2 := rfl
    have e2 : ((62 : Int) : Rat) = 62 := rfl
    rw [e1, e2]
    grind
  exact_mod_cast h
end Go.Fx
namespace Go.Proofs.Ytdlpffgekmidnab
open Go.KRun Go.Wd
set_option maxRecDepth 100000
def conFB : Con := alt 42 (g2 (plain2 fmV4)) (alt 52 gQR conFA)
theorem conFB_ok : ConOk conFB := alt_ok Try.func42 rfl (plain2_ok fm_calls) (alt_ok Try.func52 rfl gQR_ok conFA_ok)
/-- the divisor of a term -/
def ptD (n : Int) : W4 := ⟨IntKind.u64.wrap (n * IntKind.u64.wrap (n + 1)), 0, 0, 0⟩
def ptW (t s : W4) (n : Int) : W4 := W4.of ((W4.of (fmI t s)).val / (ptD n).val)
theorem pt_fits (t s : W4) (n : Int) : Fits (reckon (tabOf Try.prog extY conFB true) 300 50 [vW t, vW s, .int .u64 n] []) (vW (ptW t s n)) [nz2 (W4.of (fmI t s)) (ptD n), nz2 (W4.of (fmI t s)) (ptD n), nz2 (W4.of (fmI t s)) (ptD n), nz2 (W4.of (fmI t s)) (ptD n), nz2 (W4.of (fmI t s)) (ptD n), nz2 (W4.of (fmI t s)) (ptD n), nz2 (W4.of (fmI t s)) (ptD n), nz2 (W4.of (fmI t s)) (ptD n), nz2 (W4.of (fmI t s)) (ptD n), nz2 (W4.of (fmI t s)) (ptD n), nz2 (W4.of (fmI t s)) (ptD n), q2 t s] := ⟨by kernel_rfl, by kernel_rfl, by kernel_rfl, by kernel_rfl⟩
def okPt (t s : W4) (n : Int) : Bool × Bool := (decide (t.ok ∧ s.ok ∧ fmI t s < 115792089237316195423570985008687907853269984665640564039457584007913129639936 ∧ 1 ≤ n ∧ n ≤ 1000), true)
theorem pt_calls (t s : W4) (n : Int) (h : t.ok ∧ s.ok ∧ fmI t s < 115792089237316195423570985008687907853269984665640564039457584007913129639936 ∧ 1 ≤ n ∧ n ≤ 1000) (w : World) : Calls Try.prog 50 #[vW t, vW s, .int .u64 n] w fun e w' => e = .returned (vW (W4.of (fmI t s / (n * (n + 1))))) ∧ Tidy w w' := by
  obtain ⟨ht, hs, hf, h1, h2⟩ := h
  have h0 : 0 ≤ fmI t s := Int.ediv_nonneg (mul_bd2 ht hs).1 (by omega)
  have bn : 0 < n * (n + 1) := Int.mul_pos (by omega) (by omega)
  have bm : n * (n + 1) ≤ 1000 * 1001 := Int.mul_le_mul h2 (by omega) (by omega) (by omega)
  have ew : IntKind.u64.wrap (n * IntKind.u64.wrap (n + 1)) = n * (n + 1) := by
    rw [wrap_u64' (n := n + 1) (by omega) (by omega), wrap_u64' (by omega) (by omega)]
  have eD : ptD n = ⟨n * (n + 1), 0, 0, 0⟩ := by unfold ptD; rw [ew]
  have vD : (ptD n).val = n * (n + 1) := by rw [eD]; unfold W4.val; dsimp only; omega
  have oD : (ptD n).ok := by rw [eD]; exact ⟨⟨by dsimp only; omega, by dsimp only; omega⟩, z64, z64, z64⟩
  have e1 : ptW t s n = W4.of (fmI t s / (n * (n + 1))) := by
    unfold ptW
    rw [vD, W4.val_of, Int.emod_eq_of_lt h0 hf]
  have q : (nz2 (W4.of (fmI t s)) (ptD n)).1 = (nz2 (W4.of (fmI t s)) (ptD n)).2 := decide_eq_true ⟨W4.ok_of _, oD, by rw [vD]; omega⟩
  rw [← e1]
  exact fits_calls (tabY_ok conFB_ok) (pt_fits t s n) ((okCons q (okCons q (okCons q (okCons q (okCons q (okCons q (okCons q (okCons q (okCons q (okCons q (okCons q (okL1 (decide_eq_true ⟨ht, hs⟩)))))))))))))) (by rfl) (by rfl) w
def gPrt : Ans := fun vals s =>
  match vals with
  | [x, y, .int .u64 n] =>
    match w4 x, w4 y with
    | some a, some b => some (vW (W4.of (fmI a b / (n * (n + 1)))), s, [okPt a b n])
    | _, _ => none
  | _ => none
theorem gPrt_ok : AnsOk 50 gPrt := by
  intro vals s v s' lg h hl w
  unfold gPrt at h
  split at h
  · split at h
    · rename_i a b ha hb
      cases h
      have h1 := hl _ (List.mem_singleton.2 rfl)
      simp only [okPt, decide_eq_true_eq] at h1
      rw [w4_spec ha, w4_spec hb]
      exact pt_calls a b _ h1 w
    · cases h
  · cases h
/-! ### bounds -/
def conFC : Con := alt 48 (g2 subB) (alt 46 (g2 (plain2 addV4)) conN)
theorem conFC_ok : ConOk conFC := alt_ok Try.func48 rfl subB_ok (alt_ok Try.func46 rfl (plain2_ok add_calls) conN_ok)
def w32 : W4 := ⟨32, 0, 0, 0⟩
theorem bd_low (x : W4) : Fits (reckon (tabOf Try.prog extY conFC true) 300 39 [vW x] [tst true]) (.tuple #[vW ⟨0, 0, 0, 0⟩, vW (W4.of (x.val + w32.val))]) [q2 x w32, q2 x w32, (decide (x.val < w32.val), true)] := ⟨by kernel_rfl, by kernel_rfl, by kernel_rfl, by kernel_rfl⟩
theorem bd_in (x : W4) : Fits (reckon (tabOf Try.prog extY conFC true) 300 39 [vW x] [tst false]) (.tuple #[vW (W4.of (x.val - w32.val)), vW (W4.of (x.val + w32.val))]) [q2 x w32, q2 x w32, (decide (x.val < w32.val), false)] := ⟨by kernel_rfl, by kernel_rfl, by kernel_rfl, by kernel_rfl⟩
/-- the bounds of a sum -/
def bdV4 (x : W4) : Value := .tuple #[vW (ofN (Go.Fx.lo32 x.val)), vW (ofN (Go.Fx.hi32 x.val))]
theorem bd_calls (x : W4) (hx : x.ok) (w : World) : Calls Try.prog 39 #[vW x] w fun e w' => e = .returned (bdV4 x) ∧ Tidy w w' := by
  have b := W4.val_bd hx
  have v : w32.val = 32 := by rfl
  have o : w32.ok := ⟨⟨by decide, by decide⟩, z64, z64, z64⟩
  have q : (q2 x w32).1 = (q2 x w32).2 := decide_eq_true ⟨hx, o⟩
  have e2 : ofN (Go.Fx.hi32 x.val) = W4.of (x.val + w32.val) := by
    unfold ofN Go.Fx.hi32
    rw [v, Int.toNat_of_nonneg (by omega)]
  unfold bdV4
  rw [e2]
  by_cases c : x.val < w32.val
  · have e1 : ofN (Go.Fx.lo32 x.val) = ⟨0, 0, 0, 0⟩ := by
      unfold Go.Fx.lo32
      rw [show (x.val - 32).toNat = 0 by omega]
      exact ofN_zero
    rw [e1]
    exact fits_calls (tabY_ok conFC_ok) (bd_low x) (okCons q (okCons q (okL1 (decide_eq_true c)))) (by rfl) (by rfl) w
  · have e1 : ofN (Go.Fx.lo32 x.val) = W4.of (x.val - w32.val) := by
      unfold ofN Go.Fx.lo32
      rw [v, Int.toNat_of_nonneg (by omega)]
    rw [e1]
    exact fits_calls (tabY_ok conFC_ok) (bd_in x) (okCons q (okCons q (okL1 (decide_eq_false c)))) (by rfl) (by rfl) w
def conFS : Con := alt 50 gPrt (alt 42 (g2 (plain2 fmV4)) (alt 48 (g2 (plain2 subV4)) (alt 46 (g2 (plain2 addV4)) conN)))
theorem conFS_ok : ConOk conFS := alt_ok Try.func50 rfl gPrt_ok (alt_ok Try.func42 rfl (plain2_ok fm_calls) (alt_ok Try.func48 rfl (plain2_ok sub_calls) (alt_ok Try.func46 rfl (plain2_ok add_calls) conN_ok)))
def srP (F : Func) : List Code := [cFst (cBody F), cFst (cSnd (cBody F)), cFst (cSnd (cSnd (cBody F)))]
def srI (F : Func) : Code := cFst (cFst (cSnd (cSnd (cSnd (cBody F)))))
def srL (F : Func) : Code := cIn (cIn (cSnd (cFst (cSnd (cSnd (cSnd (cBody F)))))))
def srE (F : Func) : Code := cSnd (cSnd (cSnd (cSnd (cBody F))))
theorem sr_body : Try.f40.body = some (seqs (srP Try.f40) (.seq (.seq (srI Try.f40) (.block 0 (.loop (srL Try.f40)))) (srE Try.f40))) := by kernel_rfl
def aFx (n : Nat) : Value := .pointer (some ⟨n, 0, none⟩)
def kFx (x : W4) : List Value × TypeId := ([.int .u64 x.a, .int .u64 x.b, .int .u64 x.c, .int .u64 x.d], 49)
/-- the memory: the sum, the square, the answer, the angle, the term -/
def srH (t x q y : W4) : Hp := ⟨5, [kFx y, kFx q, kFx ⟨0, 0, 0, 0⟩, kFx x, kFx t]⟩
def srF (v0 v1 : Value) (n : Int) (v5 v8 v10 v11 v12 v13 v14 v15 v16 v17 : Value) (k : Int) : List Value := [v0, v1, .int .u64 n, aFx 0, aFx 1, v5, aFx 2, aFx 3, v8, aFx 4, v10, v11, v12, v13, v14, v15, v16, v17, .int .u64 k]
theorem sr_pre (t x : W4) (n : Int) : GoesT (evL (tabOf Try.prog extY conFS true) 300 (srP Try.f40) ([vW t, vW x, .int .u64 n] ++ List.replicate 39 undef, ⟨0, []⟩, []) ⟨[], [], []⟩) 18 24 none [vW t, vW x, .int .u64 n, aFx 0, aFx 1, undef, aFx 2, aFx 3, .bool (decide (115792089237316195423570985008687907853269984665640564039457584007913129639936 ≤ fmI x x)), aFx 4, undef, fmV4 x x, vW x, vW x, fmV4 x x, vW (W4.of (fmI x x)), .bool (decide (115792089237316195423570985008687907853269984665640564039457584007913129639936 ≤ fmI x x)), vW t] (srH t x (W4.of (fmI x x)) t) [q2 x x] := ⟨by kernel_rfl, by kernel_rfl, by kernel_rfl⟩
theorem sr_i (v0 v1 v2 v3 v4 v5 v6 v7 v8 v9 v10 v11 v12 v13 v14 v15 v16 v17 : Value) (g : Nat → Value) (h : Hp) : GoesT (evC (tabOf Try.prog extY conFS true) 100 false (srI Try.f40) ([v0, v1, v2, v3, v4, v5, v6, v7, v8, v9, v10, v11, v12, v13, v14, v15, v16, v17] ++ tl 24 g, h, []) ⟨[], [], []⟩) 19 23 none [v0, v1, v2, v3, v4, v5, v6, v7, v8, v9, v10, v11, v12, v13, v14, v15, v16, v17, .int .u64 0] h [] := ⟨by kernel_rfl, by kernel_rfl, by kernel_rfl⟩
section
variable (v0 v1 v5 v8 v10 v11 v12 v13 v14 v15 v16 v17 : Value) (t x q y : W4) (n k : Int) (g : Nat → Value)
/-- the term that comes -/
def srT (t q : W4) (n k : Int) : W4 := W4.of (fmI t q / (IntKind.u64.wrap (n + IntKind.u64.wrap (2 * k)) * (IntKind.u64.wrap (n + IntKind.u64.wrap (2 * k)) + 1)))
def srO (t q : W4) (n k : Int) : Bool × Bool := okPt t q (IntKind.u64.wrap (n + IntKind.u64.wrap (2 * k)))
theorem sr_out : GoesT (evC (tabOf Try.prog extY conFS true) 100 false (srL Try.f40) (srF v0 v1 n v5 v8 v10 v11 v12 v13 v14 v15 v16 v17 k ++ tl 23 g, srH t x q y, [cmp false]) ⟨[], [], []⟩) 19 23 (some (some 0)) (srF v0 v1 n v5 v8 v10 v11 v12 v13 v14 v15 v16 v17 k) (srH t x q y) [(decide (k < 28), false)] := ⟨by kernel_rfl, by kernel_rfl, by kernel_rfl⟩
theorem sr_brk : GoesT (evC (tabOf Try.prog extY conFS true) 100 false (srL Try.f40) (srF v0 v1 n v5 v8 v10 v11 v12 v13 v14 v15 v16 v17 k ++ tl 23 g, srH t x q y, [cmp true, sam true]) ⟨[], [], []⟩) 19 23 (some (some 0)) (srF v0 v1 n v5 v8 (.int .u64 k) v11 v12 v13 v14 v15 v16 v17 k) (srH (srT t q n k) x q y) [(eqW (srT t q n k) ⟨0, 0, 0, 0⟩, true), srO t q n k, (decide (k < 28), true)] := ⟨by kernel_rfl, by kernel_rfl, by kernel_rfl⟩
theorem sr_less : GoesT (evC (tabOf Try.prog extY conFS true) 100 false (srL Try.f40) (srF v0 v1 n v5 v8 v10 v11 v12 v13 v14 v15 v16 v17 k ++ tl 23 g, srH t x q y, [cmp true, sam false, cmp false, cmp true]) ⟨[], [], []⟩) 19 23 none (srF v0 v1 n v5 v8 (.int .u64 k) v11 v12 v13 v14 v15 v16 v17 (IntKind.u64.wrap (k + 1))) (srH (srT t q n k) x q (W4.of (y.val - (srT t q n k).val))) [q2 y (srT t q n k), (k.tmod 2 == 0, true), (decide ((2 : Int) = 0), false), (eqW (srT t q n k) ⟨0, 0, 0, 0⟩, false), srO t q n k, (decide (k < 28), true)] := ⟨by kernel_rfl, by kernel_rfl, by kernel_rfl⟩
theorem sr_plus : GoesT (evC (tabOf Try.prog extY conFS true) 100 false (srL Try.f40) (srF v0 v1 n v5 v8 v10 v11 v12 v13 v14 v15 v16 v17 k ++ tl 23 g, srH t x q y, [cmp true, sam false, cmp false, cmp false]) ⟨[], [], []⟩) 19 23 none (srF v0 v1 n v5 v8 (.int .u64 k) v11 v12 v13 v14 v15 v16 v17 (IntKind.u64.wrap (k + 1))) (srH (srT t q n k) x q (W4.of (y.val + (srT t q n k).val))) [q2 y (srT t q n k), (k.tmod 2 == 0, false), (decide ((2 : Int) = 0), false), (eqW (srT t q n k) ⟨0, 0, 0, 0⟩, false), srO t q n k, (decide (k < 28), true)] := ⟨by kernel_rfl, by kernel_rfl, by kernel_rfl⟩
theorem sr_end : GoesT (evC (tabOf Try.prog extY conFS true) 100 false (srE Try.f40) (srF v0 v1 n v5 v8 v10 v11 v12 v13 v14 v15 v16 v17 k ++ tl 23 g, srH t x q y, []) ⟨[], [], []⟩) 19 23 (some none) (srF v0 v1 n v5 v8 v10 v11 v12 v13 v14 v15 v16 v17 k) ⟨5, [kFx y, kFx q, kFx y, kFx x, kFx t]⟩ [] := ⟨by kernel_rfl, by kernel_rfl, by kernel_rfl⟩
end
end Go.Proofs.Ytdlpffgekmidnab
