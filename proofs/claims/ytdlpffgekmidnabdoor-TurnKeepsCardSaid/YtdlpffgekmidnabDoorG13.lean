/-
  NumU, NumY, NumX4, FiA, NumFa, NumFb, NumFc, NumFe, NumFg, NumFh, FiB, RunV, RunY, FiC, FiD, FiE
-/
import Derived.Test.YtdlpffgekmidnabDoorG12
import Derived.OneCell
namespace Go.Pt
def bOr (x y : Int) : Int := IntKind.u64.wrap ((BitVec.ofInt 64 x ||| BitVec.ofInt 64 y).toNat : Nat)
def bXor (x y : Int) : Int := IntKind.u64.wrap ((BitVec.ofInt 64 x ^^^ BitVec.ofInt 64 y).toNat : Nat)
def bNot (x y : Int) : Int := IntKind.u64.wrap ((BitVec.ofInt 64 x &&& ~~~(BitVec.ofInt 64 y)).toNat : Nat)
abbrev U (p : Int) : Prop := 0 ≤ p ∧ p < 18446744073709551616
abbrev I (n : Int) : Prop := -9223372036854775808 ≤ n ∧ n ≤ 9223372036854775807
theorem wrapU (n : Int) : IntKind.u64.wrap n = n % 18446744073709551616 := by simp [IntKind.wrap, IntKind.bits, IntKind.signed]
theorem wrapU' {n : Int} (h : U n) : IntKind.u64.wrap n = n := by rw [wrapU]; unfold U at h; omega
theorem wrapI' {n : Int} (h : I n) : IntKind.i64.wrap n = n := by
  unfold I at h
  simp [IntKind.wrap, IntKind.bits, IntKind.signed]; omega
theorem ofU {Z : Nat} (h : Z < 18446744073709551616) : (BitVec.ofInt 64 (Z : Int)).toNat = Z := by simp; omega
theorem back {V : BitVec 64} : IntKind.u64.wrap (V.toNat : Nat) = (V.toNat : Int) := by
  have := V.isLt
  exact wrapU' ⟨by omega, by omega⟩
theorem or_low {p q : Int} (k : Nat) {z : Int} (hz : 0 ≤ z) (hq : q = 2 ^ k * z) (hp : 0 ≤ p) (hk : p < 2 ^ k) (hs : q + p < 18446744073709551616) : bOr p q = q + p := by
  obtain ⟨Z, rfl⟩ := Int.eq_ofNat_of_zero_le hz
  obtain ⟨Y, rfl⟩ := Int.eq_ofNat_of_zero_le hp
  have ex : (2 : Int) ^ k * (Z : Nat) = ((2 ^ k * Z : Nat) : Int) := by simp
  have hY : Y < 2 ^ k := by
    have : ((Y : Nat) : Int) < ((2 ^ k : Nat) : Int) := by simpa using hk
    exact Int.ofNat_lt.1 this
  subst hq
  rw [ex] at hs ⊢
  have hX : 2 ^ k * Z + Y < 18446744073709551616 := by omega
  unfold bOr
  rw [back, BitVec.toNat_or, ofU (by omega), ofU (by omega), Nat.or_comm, ← Nat.two_pow_add_eq_or_of_lt hY]
  omega
theorem bNot_sign {p : Int} (hp : U p) : bNot p 9223372036854775808 = p % 9223372036854775808 := by
  obtain ⟨h0, h1⟩ := hp
  obtain ⟨Z, rfl⟩ := Int.eq_ofNat_of_zero_le h0
  unfold bNot
  have e : (~~~(BitVec.ofInt 64 9223372036854775808)).toNat = 2 ^ 63 - 1 := by decide
  rw [back, BitVec.toNat_and, ofU (by omega), e, Nat.and_two_pow_sub_one_eq_mod]
  omega
theorem xor_sign (r : Nat) (h : r < 2 ^ 63) : r ^^^ 2 ^ 63 = 2 ^ 63 + r := by
  have e : 2 ^ 63 + r = 2 ^ 63 ||| r := by
    have := Nat.two_pow_add_eq_or_of_lt h 1
    simpa using this
  rw [e]
  refine Nat.eq_of_testBit_eq fun i => ?_
  rw [Nat.testBit_xor, Nat.testBit_or, Nat.testBit_two_pow]
  by_cases hi : 63 = i
  · subst hi
    rw [Nat.testBit_lt_two_pow h]
    simp
  · simp [hi]
theorem bXor_sign {p : Int} (hp : U p) : bXor p 9223372036854775808 = (p + 9223372036854775808) % 18446744073709551616 := by
  obtain ⟨h0, h1⟩ := hp
  obtain ⟨Z, rfl⟩ := Int.eq_ofNat_of_zero_le h0
  unfold bXor
  have e : (BitVec.ofInt 64 9223372036854775808).toNat = 2 ^ 63 := by decide
  rw [back, BitVec.toNat_xor, ofU (by omega), e]
  by_cases hz : Z < 2 ^ 63
  · rw [xor_sign Z hz]
    omega
  · have h2 := xor_sign (Z - 2 ^ 63) (by omega)
    have e2 : Z = (Z - 2 ^ 63) ^^^ 2 ^ 63 := by rw [h2]; omega
    have e3 : Z ^^^ 2 ^ 63 = Z - 2 ^ 63 := by
      rw [e2, Nat.xor_assoc, Nat.xor_self, Nat.xor_zero, ← e2]
    rw [e3]
    omega
/-! ### a pattern's parts -/
end Go.Pt
namespace Go.Rn
open Go.Pt
/-! ### how great a multiple's number is -/
theorem toQ_le {m : Int} {neg : Bool} {T : Nat} {E e : Int} {n : Nat} (h : (bitLen T : Int) + (E - e) ≤ n) : toQ m neg T E e ≤ 2 ^ n := by
  have a1 := (bitLen_spec T).1
  unfold toQ
  by_cases he : e ≤ E
  · rw [if_pos he]
    have hp : 0 < 2 ^ (E - e).toNat := Nat.pow_pos (by omega)
    have := Nat.mul_le_mul_right (2 ^ (E - e).toNat) (Nat.le_of_lt a1)
    rw [← Nat.pow_add] at this
    have h2 := Nat.pow_le_pow_right (show 0 < 2 by omega) (show bitLen T + (E - e).toNat ≤ n by omega)
    omega
  · rw [if_neg he]
    have b := (rq_bd m neg T (e - E).toNat).2
    have h2 := Nat.pow_le_pow_right (show 0 < 2 by omega) (show bitLen T ≤ n + (e - E).toNat by omega)
    have h3 : T / 2 ^ (e - E).toNat < 2 ^ n := by
      apply Nat.div_lt_of_lt_mul
      rw [Nat.pow_add, Nat.mul_comm] at h2
      omega
    omega
theorem low_hi (m : Int) (neg : Bool) (T : Nat) (E : Int) : toQ m neg T E (lowE T E) ≤ 9007199254740992 := by
  refine toQ_le (n := 53) ?_
  unfold lowE lgN
  split <;> omega
/-! ### order -/
theorem lowE_ge (T : Nat) (E : Int) : -1074 ≤ lowE T E := by unfold lowE; split <;> omega
theorem p0_nonneg (m : Int) (neg : Bool) (T : Nat) (E : Int) : 0 ≤ p0 m neg T E := by
  have := lowE_ge T E
  unfold p0
  omega
theorem bey_or (m : Int) (neg : Bool) : bey m neg = 9218868437227405312 ∨ bey m neg = 9218868437227405311 := by unfold bey; split <;> simp
/-! ### between -/
/-! ### a pattern's own number -/
end Go.Rn
namespace Go.Wd
open Go.Rn
/-- a number of four words, as a whole number -/
def W4.nat (x : W4) : Nat := x.val.toNat
theorem W4.nat_val {x : W4} (h : x.ok) : x.val = (x.nat : Int) := by
  have := (W4.val_bd h).1
  unfold W4.nat
  omega
theorem W4.nat_lt {x : W4} (h : x.ok) : x.nat < 2 ^ 256 := by
  have := W4.val_bd h
  have e : (2 : Nat) ^ 256 = 115792089237316195423570985008687907853269984665640564039457584007913129639936 := rfl
  unfold W4.nat
  omega
def ofN (n : Nat) : W4 := W4.of (n : Int)
theorem ofN_ok (n : Nat) : (ofN n).ok := W4.ok_of _
theorem ofN_nat {n : Nat} (h : n < 2 ^ 256) : (ofN n).nat = n := by
  have e : (2 : Nat) ^ 256 = 115792089237316195423570985008687907853269984665640564039457584007913129639936 := rfl
  unfold W4.nat ofN
  rw [W4.val_of]
  omega
theorem ofN_self {x : W4} (h : x.ok) : ofN x.nat = x := by
  unfold ofN
  rw [← W4.nat_val h, W4.of_val h]
theorem of_mod (n : Int) : W4.of (n % 115792089237316195423570985008687907853269984665640564039457584007913129639936) = W4.of n := by
  unfold W4.of
  refine W4.ext' ?_ ?_ ?_ ?_ <;> dsimp only <;> omega
theorem ofN_mod (n : Nat) : ofN (n % 2 ^ 256) = ofN n := by
  have e : (2 : Nat) ^ 256 = 115792089237316195423570985008687907853269984665640564039457584007913129639936 := rfl
  unfold ofN
  rw [← of_mod (n : Int), e]
  congr 1
theorem ofN_zero : ofN 0 = ⟨0, 0, 0, 0⟩ := by rfl
theorem ofN_big {n k : Nat} (h : 256 ≤ k) : ofN (n * 2 ^ k) = ⟨0, 0, 0, 0⟩ := by
  rw [← ofN_mod]
  have : n * 2 ^ k % 2 ^ 256 = 0 := by
    obtain ⟨j, rfl⟩ : ∃ j, k = j + 256 := ⟨k - 256, by omega⟩
    rw [Nat.pow_add, ← Nat.mul_assoc, Nat.mul_mod_left]
  rw [this, ofN_zero]
theorem ofN_mul_mod (n k : Nat) : ofN (n % 2 ^ 256 * k) = ofN (n * k) := by
  rw [← ofN_mod (n % 2 ^ 256 * k), ← ofN_mod (n * k), Nat.mod_mul_mod]
theorem small_div {n k : Nat} (h : n < 2 ^ 256) (hk : 256 ≤ k) : n / 2 ^ k = 0 := by
  have := Nat.pow_le_pow_right (show 0 < 2 by omega) hk
  exact Nat.div_eq_of_lt (by omega)
theorem small_mod {n k : Nat} (h : n < 2 ^ 256) (hk : 256 ≤ k) : n % 2 ^ k = n := by
  have := Nat.pow_le_pow_right (show 0 < 2 by omega) hk
  exact Nat.mod_eq_of_lt (by omega)
theorem cast_pow (k : Nat) : ((2 : Int) ^ k) = ((2 ^ k : Nat) : Int) := by simp
/-- the size: a half more, if so -/
def tw (x : W4) (b : Bool) : Nat := 2 * x.nat + (match b with | true => 1 | false => 0)
theorem tw_div (x : W4) (b : Bool) (d : Nat) : tw x b / 2 ^ (d + 1) = x.nat / 2 ^ d := by
  unfold tw
  rw [Nat.pow_succ, Nat.mul_comm (2 ^ d) 2, ← Nat.div_div_eq_div_mul]
  congr 1
  cases b <;> simp only <;> omega
theorem tw_mod (x : W4) (b : Bool) (d : Nat) : tw x b % 2 ^ (d + 1) = 2 * (x.nat % 2 ^ d) + (match b with | true => 1 | false => 0) := by
  unfold tw
  rw [Nat.pow_succ, Nat.mul_comm (2 ^ d) 2, Nat.mod_mul]
  have e : (2 * x.nat + (match b with | true => 1 | false => 0)) / 2 = x.nat := by cases b <;> simp only <;> omega
  rw [e]
  cases b <;> simp only <;> omega
theorem tw_zero {x : W4} {b : Bool} (h : x.ok) : tw x b = 0 ↔ (eqW x ⟨0, 0, 0, 0⟩ && !b) = true := by
  have e : x.nat = 0 ↔ x = ⟨0, 0, 0, 0⟩ := by
    constructor
    · intro h0
      rw [← ofN_self h, h0, ofN_zero]
    · intro h0; rw [h0]; rfl
  rw [Bool.and_eq_true, eqW_iff, ← e]
  unfold tw
  cases b <;> simp <;> omega
/-- what is beyond, by bits: d: one bit fewer than the multiple has -/
theorem rc_none {x : W4} {d : Nat} (h : x.nat % 2 ^ d = 0) : restC (tw x false % 2 ^ (d + 1)) (2 ^ (d + 1)) = 0 := by
  rw [tw_mod, h]
  simp [restC]
theorem rc_zero {x : W4} : restC (tw x true % 2 ^ (0 + 1)) (2 ^ (0 + 1)) = 2 := by
  rw [tw_mod]
  simp [restC, Nat.mod_one]
theorem mod_bit (V j : Nat) : V % 2 ^ (j + 1) = V % 2 ^ j + 2 ^ j * (V / 2 ^ j % 2) := by rw [Nat.pow_succ, Nat.mod_mul]
theorem rc_below {x : W4} {b : Bool} {j : Nat} (h : x.nat / 2 ^ j % 2 = 0) (h0 : x.nat % 2 ^ (j + 1) ≠ 0 ∨ b = true) : restC (tw x b % 2 ^ (j + 1 + 1)) (2 ^ (j + 1 + 1)) = 1 := by
  have hp : 0 < 2 ^ j := Nat.pow_pos (by omega)
  have hm := mod_bit x.nat j
  rw [h, Nat.mul_zero, Nat.add_zero] at hm
  have hl := Nat.mod_lt x.nat hp
  rw [hm] at h0
  rw [tw_mod, hm, Nat.pow_succ, Nat.pow_succ]
  unfold restC
  cases b
  · simp only [Bool.false_eq_true, or_false] at *
    rw [if_neg (by omega), if_pos (by omega)]
  · simp only
    rw [if_neg (by omega), if_pos (by omega)]
theorem rc_above {x : W4} {b : Bool} {j : Nat} (h : x.nat / 2 ^ j % 2 = 1) (h0 : x.nat % 2 ^ j ≠ 0 ∨ b = true) : restC (tw x b % 2 ^ (j + 1 + 1)) (2 ^ (j + 1 + 1)) = 3 := by
  have hp : 0 < 2 ^ j := Nat.pow_pos (by omega)
  have hm := mod_bit x.nat j
  rw [h, Nat.mul_one] at hm
  rw [tw_mod, hm, Nat.pow_succ, Nat.pow_succ]
  unfold restC
  cases b
  · simp only [Bool.false_eq_true, or_false] at *
    rw [if_neg (by omega), if_neg (by omega), if_neg (by omega)]
  · simp only
    rw [if_neg (by omega), if_neg (by omega), if_neg (by omega)]
theorem rc_half {x : W4} {j : Nat} (h : x.nat / 2 ^ j % 2 = 1) (h0 : x.nat % 2 ^ j = 0) : restC (tw x false % 2 ^ (j + 1 + 1)) (2 ^ (j + 1 + 1)) = 2 := by
  have hp : 0 < 2 ^ j := Nat.pow_pos (by omega)
  have hm := mod_bit x.nat j
  rw [h, h0, Nat.mul_one] at hm
  rw [tw_mod, hm, Nat.pow_succ, Nat.pow_succ]
  unfold restC
  simp only
  rw [if_neg (by omega), if_neg (by omega), if_pos (by omega)]
/-- all below the first bit is nothing: then the number is told by what is above it -/
theorem back_iff {x : W4} (hx : x.ok) {j : Nat} (h : x.nat / 2 ^ j % 2 = 1) : eqW x (ofN ((2 * (x.nat / 2 ^ (j + 1)) + 1) * 2 ^ j)) = decide (x.nat % 2 ^ j = 0) := by
  have hl := W4.nat_lt hx
  have hm := mod_bit x.nat j
  rw [h, Nat.mul_one] at hm
  have hd := Nat.div_add_mod x.nat (2 ^ (j + 1))
  have e : (2 * (x.nat / 2 ^ (j + 1)) + 1) * 2 ^ j = x.nat - x.nat % 2 ^ j := by
    rw [Nat.pow_succ] at hd hm ⊢
    rw [Nat.add_mul, Nat.one_mul, Nat.mul_comm 2, Nat.mul_assoc, Nat.mul_comm 2, Nat.mul_comm]
    omega
  rw [e, Bool.eq_iff_iff, eqW_iff, decide_eq_true_eq]
  have hle : x.nat % 2 ^ j ≤ x.nat := Nat.mod_le _ _
  constructor
  · intro hh
    have := congrArg W4.nat hh
    rw [ofN_nat (by omega)] at this
    omega
  · intro hh
    rw [hh, Nat.sub_zero, ofN_self hx]
end Go.Wd
namespace Go.Proofs.YtdlpffgekmidnabDoor
open Go.KRun Go.Wd
set_option maxRecDepth 100000
def conFA : Con := alt 64 (g2 (plain2 mulV4)) (alt 56 (g1n (plain1n shrV4)) (alt 42 (g1n (plain1n shlV4)) (alt 41 (g1 lenV4) (alt 57 (g2 (plain2 addV4)) conN))))
theorem conFA_ok : ConOk conFA := alt_ok Tryd.func64 rfl (plain2_ok mul_calls) (alt_ok Tryd.func56 rfl (plain1n_ok shr_calls) (alt_ok Tryd.func42 rfl (plain1n_ok shl_calls) (alt_ok Tryd.func41 rfl (g1_ok wlen_calls) (alt_ok Tryd.func57 rfl (plain2_ok add_calls) conN_ok))))
/-- the two halves of a product; the product, cut; whether it is too great -/
def mLo (a b : W4) : W4 := W4.of (a.val * b.val)
def mHi (a b : W4) : W4 := W4.of (a.val * b.val / 115792089237316195423570985008687907853269984665640564039457584007913129639936)
def fmW (a b : W4) : W4 := W4.of ((shlW (mHi a b) 8).val + (shrW (mLo a b) 248).val)
def q2 (a b : W4) : Bool × Bool := (decide (a.ok ∧ b.ok), true)
def qk (a : W4) (n : Int) : Bool × Bool := (decide (a.ok ∧ -9223372036854775808 ≤ n ∧ n ≤ 9223372036854775807), true)
theorem fm_fits (a b : W4) : Fits (reckon (tabOf Tryd.prog extY conFA true) 300 53 [vW a, vW b] []) (.tuple #[vW (fmW a b), .bool (decide (lenI (mHi a b) > 248))]) [(decide (mHi a b).ok, true), q2 (shlW (mHi a b) 8) (shrW (mLo a b) 248), qk (mHi a b) 8, qk (mLo a b) 248, q2 a b] := ⟨by kernel_rfl, by kernel_rfl, by kernel_rfl, by kernel_rfl⟩
theorem len_gt {n k : Nat} : k < bitLen n ↔ 2 ^ k ≤ n := by
  have h := bitLen_spec n
  constructor
  · intro c
    have hn : n ≠ 0 := by
      rintro rfl
      exact absurd c (by decide +revert)
    exact Nat.le_trans (Nat.pow_le_pow_right (by omega) (by omega)) (h.2 hn)
  · intro c
    rcases Nat.lt_or_ge k (bitLen n) with e | e
    · exact e
    · have := Nat.pow_le_pow_right (show 0 < 2 by omega) e
      omega
theorem lenI_gt (x : W4) (k : Nat) : lenI x > k ↔ 2 ^ k ≤ x.nat := by
  unfold lenI W4.nat
  have := @len_gt x.val.toNat k
  omega
/-- what is answered, in plain numbers -/
def fmI (a b : W4) : Int := a.val * b.val / 452312848583266388373324160190187140051835877600158453279131187530910662656
def fmV4 (a b : W4) : Value := .tuple #[vW (W4.of (fmI a b)), .bool (decide (115792089237316195423570985008687907853269984665640564039457584007913129639936 ≤ fmI a b))]
theorem mul_bd2 {a b : W4} (ha : a.ok) (hb : b.ok) : 0 ≤ a.val * b.val ∧ a.val * b.val < 115792089237316195423570985008687907853269984665640564039457584007913129639936 * 115792089237316195423570985008687907853269984665640564039457584007913129639936 := by
  have h1 := W4.val_bd ha
  have h2 := W4.val_bd hb
  have h3 := Int.mul_nonneg h1.1 h2.1
  have h4 := Int.mul_le_mul (show a.val ≤ 115792089237316195423570985008687907853269984665640564039457584007913129639935 by omega) (show b.val ≤ 115792089237316195423570985008687907853269984665640564039457584007913129639935 by omega) h2.1 (by omega)
  constructor
  · exact h3
  · exact Int.lt_of_le_of_lt h4 (by decide)
theorem fm_calls (a b : W4) (ha : a.ok) (hb : b.ok) (w : World) : Calls Tryd.prog 53 #[vW a, vW b] w fun e w' => e = .returned (fmV4 a b) ∧ Tidy w w' := by
  have h := fits_calls (tabY_ok conFA_ok) (fm_fits a b) (okCons (decide_eq_true (W4.ok_of _)) (okCons (decide_eq_true ⟨by unfold shlW; rw [if_neg (by decide), if_neg (by decide)]; exact W4.ok_of _, by unfold shrW; rw [if_neg (by decide), if_neg (by decide)]; exact W4.ok_of _⟩) (okCons (decide_eq_true ⟨W4.ok_of _, by omega, by omega⟩) (okCons (decide_eq_true ⟨W4.ok_of _, by omega, by omega⟩) (okL1 (decide_eq_true ⟨ha, hb⟩)))))) (by rfl) (by rfl) w
  have bd := mul_bd2 ha hb
  have e1 : fmW a b = W4.of (fmI a b) := by
    have e8 : (2 : Int) ^ (8 : Int).toNat = 256 := rfl
    have e248 : (2 : Int) ^ (248 : Int).toNat = 452312848583266388373324160190187140051835877600158453279131187530910662656 := by rfl
    unfold fmW shlW shrW mHi mLo fmI
    rw [if_neg (by decide), if_neg (by decide), if_neg (by decide), if_neg (by decide), e8, e248]
    simp only [W4.val_of]
    generalize a.val * b.val = P at *
    rw [← of_mod (_ + _), ← of_mod (P / _)]
    congr 1
    omega
  have e2 : decide (lenI (mHi a b) > 248) = decide (115792089237316195423570985008687907853269984665640564039457584007913129639936 ≤ fmI a b) := by
    rw [decide_eq_decide]
    have g := lenI_gt (mHi a b) 248
    have p : (2 : Nat) ^ 248 = 452312848583266388373324160190187140051835877600158453279131187530910662656 := by rfl
    rw [p] at g
    have : (mHi a b).nat = (a.val * b.val / 115792089237316195423570985008687907853269984665640564039457584007913129639936).toNat := by
      unfold W4.nat mHi
      rw [W4.val_of, Int.emod_eq_of_lt (by omega) (by omega)]
    rw [this] at g
    unfold fmI
    generalize a.val * b.val = P at *
    omega
  rw [e1, e2] at h
  exact h
end Go.Proofs.YtdlpffgekmidnabDoor
namespace Go.Fx
/-- a sum of the first n -/
def sm (f : Nat → Rat) : Nat → Rat
  | 0 => 0
  | n + 1 => sm f n + f n
theorem sm_add (f g : Nat → Rat) : ∀ n, sm (fun i => f i + g i) n = sm f n + sm g n
  | 0 => by simp only [sm]; grind
  | n + 1 => by simp only [sm]; rw [sm_add f g n]; grind
theorem sm_congr {f g : Nat → Rat} : ∀ {n : Nat}, (∀ i, i < n → f i = g i) → sm f n = sm g n
  | 0, _ => rfl
  | n + 1, h => by simp only [sm]; rw [sm_congr (n := n) fun i hi => h i (by omega), h n (by omega)]
/-- the first one apart -/
theorem sm_head (f : Nat → Rat) : ∀ n, sm f (n + 1) = f 0 + sm (fun i => f (i + 1)) n
  | 0 => by simp only [sm]; grind
  | n + 1 => by
    have := sm_head f n
    simp only [sm] at this ⊢
    rw [this]
    grind
/-- a^m parted by m! -/
def pf (a : Rat) : Nat → Rat
  | 0 => 1
  | m + 1 => pf a m * a / ((m + 1 : Nat) : Rat)
theorem sm_neg (f : Nat → Rat) : ∀ n, sm (fun i => -f i) n = -sm f n
  | 0 => by simp only [sm]; grind
  | n + 1 => by simp only [sm]; rw [sm_neg f n]; grind
def snI (k : Nat) : Rat := if k % 4 = 1 then 1 else if k % 4 = 3 then -1 else 0
def s15 (x : Rat) (k : Nat) : Rat := snI k * pf x k
/-- the sign of the other number's power -/
def mns (j : Nat) : Rat := if j % 2 = 0 then 1 else -1
/-- a sum with signs by turns -/
def al (a : Nat → Rat) (n : Nat) : Rat := sm (fun k => mns k * a k) n
theorem mns_zero : mns 0 = 1 := rfl
theorem mns_succ (j : Nat) : mns (j + 1) = -mns j := by
  unfold mns
  rcases Nat.mod_two_eq_zero_or_one j with c | c
  · rw [if_neg (show ¬ (j + 1) % 2 = 0 by omega), if_pos c]
  · rw [if_pos (show (j + 1) % 2 = 0 by omega), if_neg (show ¬ j % 2 = 0 by omega)]
    grind
theorem al_succ (a : Nat → Rat) (n : Nat) : al a (n + 1) = a 0 - al (fun k => a (k + 1)) n := by
  unfold al
  rw [sm_head, mns_zero]
  have : sm (fun i => mns (i + 1) * a (i + 1)) n = -sm (fun k => mns k * a (k + 1)) n := by
    rw [← sm_neg]
    refine sm_congr fun i hi => ?_
    rw [mns_succ]
    grind
  rw [this]
  grind
theorem al_bd : ∀ (n : Nat) (a : Nat → Rat), (∀ k, 0 ≤ a k) → (∀ k, a (k + 1) ≤ a k) → 0 ≤ al a n ∧ al a n ≤ a 0
  | 0, a, h, _ => by
    have : al a 0 = 0 := rfl
    have := h 0
    constructor <;> grind
  | n + 1, a, h, g => by
    have h1 := al_bd n (fun k => a (k + 1)) (fun k => h (k + 1)) fun k => g (k + 1)
    have h2 := g 0
    rw [al_succ]
    simp only [Nat.zero_add] at h1 h2
    constructor <;> grind
/-- the series' sums are sums with signs by turns -/
theorem s15_al (x : Rat) : ∀ n, sm (s15 x) (2 * n) = al (fun k => pf x (2 * k + 1)) n
  | 0 => rfl
  | n + 1 => by
    have h := s15_al x n
    have e1 : snI (2 * n) = 0 := by
      unfold snI
      rw [if_neg (by omega), if_neg (by omega)]
    have e2 : snI (2 * n + 1) = mns n := by
      unfold snI mns
      rcases Nat.mod_two_eq_zero_or_one n with c | c
      · rw [if_pos (by omega), if_pos c]
      · rw [if_neg (by omega), if_pos (by omega), if_neg (by omega)]
    show sm (s15 x) (2 * n) + s15 x (2 * n) + s15 x (2 * n + 1) = al _ n + mns n * pf x (2 * n + 1)
    rw [h]
    unfold s15
    rw [e1, e2]
    grind
/-! ### terms in whole units -/
/-- the terms, in units of which U are 1; each is cut -/
def tm (U s f n0 : Nat) : Nat → Nat
  | 0 => f
  | k + 1 => tm U s f n0 k * s / U / ((n0 + 2 * k) * (n0 + 2 * k + 1))
/-- the sum of the first n, with signs by turns -/
def sr (U s f n0 : Nat) : Nat → Int
  | 0 => 0
  | k + 1 => if k % 2 = 0 then sr U s f n0 k + tm U s f n0 k else sr U s f n0 k - tm U s f n0 k
theorem sr_al (U s f n0 : Nat) : ∀ n, ((sr U s f n0 n : Int) : Rat) = al (fun k => ((tm U s f n0 k : Nat) : Rat)) n
  | 0 => rfl
  | n + 1 => by
    have h := sr_al U s f n0 n
    show _ = al (fun k => ((tm U s f n0 k : Nat) : Rat)) n + mns n * ((tm U s f n0 n : Nat) : Rat)
    simp only [sr]
    unfold mns
    split
    · rw [Rat.intCast_add, h, Rat.intCast_natCast]
      grind
    · rw [Rat.intCast_sub, h, Rat.intCast_natCast]
      grind
theorem tm_less {U s f n0 : Nat} (hU : 0 < U) (hs : s ≤ U) (k : Nat) : tm U s f n0 (k + 1) ≤ tm U s f n0 k := by
  simp only [tm]
  refine Nat.le_trans (Nat.div_le_self _ _) ?_
  refine Nat.le_trans (Nat.div_le_div_right (Nat.mul_le_mul_left _ hs)) ?_
  rw [Nat.mul_div_cancel _ hU]
  exact Nat.le_refl _
theorem sr_bd {U s f n0 : Nat} (hU : 0 < U) (hs : s ≤ U) (n : Nat) : 0 ≤ sr U s f n0 n ∧ sr U s f n0 n ≤ f := by
  have h := al_bd n (fun k => ((tm U s f n0 k : Nat) : Rat)) (fun k => by exact_mod_cast Nat.zero_le _) fun k => by
    have := tm_less (f := f) (n0 := n0) hU hs k
    exact_mod_cast this
  rw [← sr_al] at h
  constructor
  · exact_mod_cast h.1
  · have h2 := h.2
    have e : ((tm U s f n0 0 : Nat) : Rat) = ((f : Nat) : Rat) := rfl
    rw [e, ← Rat.intCast_natCast] at h2
    exact_mod_cast h2
theorem tm_le {U s f n0 : Nat} (hU : 0 < U) (hs : s ≤ U) : ∀ k, tm U s f n0 k ≤ f
  | 0 => Nat.le_refl _
  | k + 1 => Nat.le_trans (tm_less hU hs k) (tm_le hU hs k)
/-- behind a term that is 0 nothing comes -/
theorem tm_none {U s f n0 j : Nat} (h : tm U s f n0 j = 0) : ∀ d, tm U s f n0 (j + d) = 0
  | 0 => h
  | d + 1 => by
    have := tm_none h d
    show tm U s f n0 (j + d) * s / U / _ = 0
    rw [this, Nat.zero_mul, Nat.zero_div, Nat.zero_div]
theorem sr_stop {U s f n0 j : Nat} (h : tm U s f n0 j = 0) : ∀ d, sr U s f n0 (j + d) = sr U s f n0 j
  | 0 => rfl
  | d + 1 => by
    have h1 := sr_stop h d
    have h2 := tm_none h d
    show (if (j + d) % 2 = 0 then sr U s f n0 (j + d) + ((tm U s f n0 (j + d) : Nat) : Int) else sr U s f n0 (j + d) - ((tm U s f n0 (j + d) : Nat) : Int)) = _
    rw [h1, h2]
    split <;> omega
/-- the sine's and the cosine's sums, of an angle x in units of which U are 1 -/
def sS (U n x : Nat) : Int := sr U (x * x / U) x 2 n
def cS (U n x : Nat) : Int := sr U (x * x / U) U 1 n
theorem sq_le {U x : Nat} (hU : 0 < U) (hx : x ≤ U) : x * x / U ≤ U := by
  have := Nat.mul_le_mul_left x hx
  exact Nat.le_trans (Nat.div_le_div_right this) (by rw [Nat.mul_div_cancel _ hU]; exact hx)
theorem sS_bd {U x : Nat} (hU : 0 < U) (hx : x ≤ U) (n : Nat) : 0 ≤ sS U n x ∧ sS U n x ≤ x := sr_bd hU (sq_le hU hx) n
theorem cS_bd {U x : Nat} (hU : 0 < U) (hx : x ≤ U) (n : Nat) : 0 ≤ cS U n x ∧ cS U n x ≤ U := sr_bd hU (sq_le hU hx) n
/-! ### what is left out -/
/-- as many units as are 1 -/
def uP : Nat := 2 ^ 248
theorem uP_pos : 0 < uP := by decide
/-- the bounds: 32 units below (0 at least) and above -/
def lo32 (S : Int) : Nat := (S - 32).toNat
def hi32 (S : Int) : Nat := (S + 32).toNat
/-- the facts of an angle: s, c are the sine and the cosine in units -/
structure Fx (x : Nat) (s c : Rat) : Prop where
  s0 : 0 ≤ s
  c0 : ((uP : Nat) : Rat) ≤ 2 * c
  sl : ((sS uP 29 x : Int) : Rat) ≤ s + 29
  sh : s ≤ ((sS uP 29 x : Int) : Rat) + 31
  cl : ((cS uP 29 x : Int) : Rat) ≤ c + 29
  ch : c ≤ ((cS uP 29 x : Int) : Rat) + 31
end Go.Fx
namespace Go.Proofs.YtdlpffgekmidnabDoor
open Go.KRun Go.Wd
set_option maxRecDepth 100000
def conFB : Con := alt 53 (g2 (plain2 fmV4)) (alt 63 gQR conFA)
theorem conFB_ok : ConOk conFB := alt_ok Tryd.func53 rfl (plain2_ok fm_calls) (alt_ok Tryd.func63 rfl gQR_ok conFA_ok)
/-- the divisor of a term -/
def ptD (n : Int) : W4 := ⟨IntKind.u64.wrap (n * IntKind.u64.wrap (n + 1)), 0, 0, 0⟩
def ptW (t s : W4) (n : Int) : W4 := W4.of ((W4.of (fmI t s)).val / (ptD n).val)
theorem pt_fits (t s : W4) (n : Int) : Fits (reckon (tabOf Tryd.prog extY conFB true) 300 61 [vW t, vW s, .int .u64 n] []) (vW (ptW t s n)) [nz2 (W4.of (fmI t s)) (ptD n), nz2 (W4.of (fmI t s)) (ptD n), nz2 (W4.of (fmI t s)) (ptD n), nz2 (W4.of (fmI t s)) (ptD n), nz2 (W4.of (fmI t s)) (ptD n), nz2 (W4.of (fmI t s)) (ptD n), nz2 (W4.of (fmI t s)) (ptD n), nz2 (W4.of (fmI t s)) (ptD n), nz2 (W4.of (fmI t s)) (ptD n), nz2 (W4.of (fmI t s)) (ptD n), nz2 (W4.of (fmI t s)) (ptD n), q2 t s] := ⟨by kernel_rfl, by kernel_rfl, by kernel_rfl, by kernel_rfl⟩
def okPt (t s : W4) (n : Int) : Bool × Bool := (decide (t.ok ∧ s.ok ∧ fmI t s < 115792089237316195423570985008687907853269984665640564039457584007913129639936 ∧ 1 ≤ n ∧ n ≤ 1000), true)
theorem pt_calls (t s : W4) (n : Int) (h : t.ok ∧ s.ok ∧ fmI t s < 115792089237316195423570985008687907853269984665640564039457584007913129639936 ∧ 1 ≤ n ∧ n ≤ 1000) (w : World) : Calls Tryd.prog 61 #[vW t, vW s, .int .u64 n] w fun e w' => e = .returned (vW (W4.of (fmI t s / (n * (n + 1))))) ∧ Tidy w w' := by
  obtain ⟨ht, hs, hf, h1, h2⟩ := h
  have h0 : 0 ≤ fmI t s := Int.ediv_nonneg (mul_bd2 ht hs).1 (by omega)
  have bn : 0 < n * (n + 1) := Int.mul_pos (by omega) (by omega)
  have bm : n * (n + 1) ≤ 1000 * 1001 := Int.mul_le_mul h2 (by omega) (by omega) (by omega)
  have ew : IntKind.u64.wrap (n * IntKind.u64.wrap (n + 1)) = n * (n + 1) := by
    rw [wrap_u64' (n := n + 1) (by omega) (by omega), wrap_u64' (by omega) (by omega)]
  have eD : ptD n = ⟨n * (n + 1), 0, 0, 0⟩ := by unfold ptD; rw [ew]
  have vD : (ptD n).val = n * (n + 1) := by rw [eD]; unfold W4.val; dsimp only; omega
  have oD : (ptD n).ok := by rw [eD]; exact ⟨⟨by dsimp only; omega, by dsimp only; omega⟩, z64, z64, z64⟩
  have e1 : ptW t s n = W4.of (fmI t s / (n * (n + 1))) := by
    unfold ptW
    rw [vD, W4.val_of, Int.emod_eq_of_lt h0 hf]
  have q : (nz2 (W4.of (fmI t s)) (ptD n)).1 = (nz2 (W4.of (fmI t s)) (ptD n)).2 := decide_eq_true ⟨W4.ok_of _, oD, by rw [vD]; omega⟩
  rw [← e1]
  exact fits_calls (tabY_ok conFB_ok) (pt_fits t s n) ((okCons q (okCons q (okCons q (okCons q (okCons q (okCons q (okCons q (okCons q (okCons q (okCons q (okCons q (okL1 (decide_eq_true ⟨ht, hs⟩)))))))))))))) (by rfl) (by rfl) w
def gPrt : Ans := fun vals s =>
  match vals with
  | [x, y, .int .u64 n] =>
    match w4 x, w4 y with
    | some a, some b => some (vW (W4.of (fmI a b / (n * (n + 1)))), s, [okPt a b n])
    | _, _ => none
  | _ => none
theorem gPrt_ok : AnsOk 61 gPrt := by
  intro vals s v s' lg h hl w
  unfold gPrt at h
  split at h
  · split at h
    · rename_i a b ha hb
      cases h
      have h1 := hl _ (List.mem_singleton.2 rfl)
      simp only [okPt, decide_eq_true_eq] at h1
      rw [w4_spec ha, w4_spec hb]
      exact pt_calls a b _ h1 w
    · cases h
  · cases h
/-! ### bounds -/
def conFC : Con := alt 59 (g2 subB) (alt 57 (g2 (plain2 addV4)) conN)
theorem conFC_ok : ConOk conFC := alt_ok Tryd.func59 rfl subB_ok (alt_ok Tryd.func57 rfl (plain2_ok add_calls) conN_ok)
def w32 : W4 := ⟨32, 0, 0, 0⟩
theorem bd_low (x : W4) : Fits (reckon (tabOf Tryd.prog extY conFC true) 300 50 [vW x] [tst true]) (.tuple #[vW ⟨0, 0, 0, 0⟩, vW (W4.of (x.val + w32.val))]) [q2 x w32, q2 x w32, (decide (x.val < w32.val), true)] := ⟨by kernel_rfl, by kernel_rfl, by kernel_rfl, by kernel_rfl⟩
theorem bd_in (x : W4) : Fits (reckon (tabOf Tryd.prog extY conFC true) 300 50 [vW x] [tst false]) (.tuple #[vW (W4.of (x.val - w32.val)), vW (W4.of (x.val + w32.val))]) [q2 x w32, q2 x w32, (decide (x.val < w32.val), false)] := ⟨by kernel_rfl, by kernel_rfl, by kernel_rfl, by kernel_rfl⟩
/-- the bounds of a sum -/
def bdV4 (x : W4) : Value := .tuple #[vW (ofN (Go.Fx.lo32 x.val)), vW (ofN (Go.Fx.hi32 x.val))]
theorem bd_calls (x : W4) (hx : x.ok) (w : World) : Calls Tryd.prog 50 #[vW x] w fun e w' => e = .returned (bdV4 x) ∧ Tidy w w' := by
  have b := W4.val_bd hx
  have v : w32.val = 32 := by rfl
  have o : w32.ok := ⟨⟨by decide, by decide⟩, z64, z64, z64⟩
  have q : (q2 x w32).1 = (q2 x w32).2 := decide_eq_true ⟨hx, o⟩
  have e2 : ofN (Go.Fx.hi32 x.val) = W4.of (x.val + w32.val) := by
    unfold ofN Go.Fx.hi32
    rw [v, Int.toNat_of_nonneg (by omega)]
  unfold bdV4
  rw [e2]
  by_cases c : x.val < w32.val
  · have e1 : ofN (Go.Fx.lo32 x.val) = ⟨0, 0, 0, 0⟩ := by
      unfold Go.Fx.lo32
      rw [show (x.val - 32).toNat = 0 by omega]
      exact ofN_zero
    rw [e1]
    exact fits_calls (tabY_ok conFC_ok) (bd_low x) (okCons q (okCons q (okL1 (decide_eq_true c)))) (by rfl) (by rfl) w
  · have e1 : ofN (Go.Fx.lo32 x.val) = W4.of (x.val - w32.val) := by
      unfold ofN Go.Fx.lo32
      rw [v, Int.toNat_of_nonneg (by omega)]
    rw [e1]
    exact fits_calls (tabY_ok conFC_ok) (bd_in x) (okCons q (okCons q (okL1 (decide_eq_false c)))) (by rfl) (by rfl) w
end Go.Proofs.YtdlpffgekmidnabDoor
namespace Go.KRun
open Go.RowKit
theorem tidy_trans {a b c : World} (h1 : Tidy a b) (h2 : Tidy b c) : Tidy a c := by
  refine ⟨h1.1.trans (h2.1.mono h1.1.size), fun k hk hk' => ?_⟩
  by_cases h : k < b.heap.size
  · rw [h2.1.block k h]; exact h1.2 k hk h
  · exact h2.2 k (by omega) hk'
theorem tidy_alloc (w : World) (cs : Array Value) (e : TypeId) : Tidy w (w.alloc (.cells cs e (0, 0))) := by
  refine ⟨Below.alloc (Below.refl _ _) (Nat.le_refl _) _, fun k hk hk' => ?_⟩
  rw [size_alloc'] at hk'
  have : k = w.heap.size := by omega
  subst this
  exact iced_cells (heap_alloc_at w _)
theorem tidy_setCell {a w : World} (h : Tidy a w) {b : Nat} {v : Value} {t : TypeId} (hb : a.heap.size ≤ b) (hc : w.heap[b]? = some (.cells #[v] t (0, 0))) (u : Value) : Tidy a (w.setCell ⟨b, 0, none⟩ u) := by
  refine ⟨Below.setCell h.1 hb u, fun k hk hk' => ?_⟩
  by_cases hkb : k = b
  · subst hkb
    exact iced_cells (one_setCell hc)
  · rw [Below.heap_setCell w ⟨b, 0, none⟩ u k hkb]
    refine h.2 k hk ?_
    have hs : (w.setCell ⟨b, 0, none⟩ u).heap.size = w.heap.size := by simp [World.setCell]
    omega
/-- a 'for', its memory made small behind each round -/
theorem RunsW.forLoop {T : Tab} {c : Code} {id : Nat} {x : Lf} {P : Lf → Prop} {R : Lf → Prop} (Inv : Nat → Lf → Prop)
    (round : ∀ n x, Inv n x → RunsW T c x fun e y => match e with | none => ∃ n', n' < n ∧ Inv n' y | some none => R y | some (some id') => id' = id ∧ P y) {n : Nat} (h0 : Inv n x) :
    RunsW T (.block id (.loop c)) x fun e y => match e with | none => P y | some none => R y | some (some _) => False := by
  refine RunsW.block (P1 := fun e y => match e with | none => False | some none => R y | some (some id') => id' = id ∧ P y) ?_ (fun y he => he.elim) (fun y he => he) (fun y he => he.2) (fun id' y hid he => absurd he.1 hid)
  refine RunsW.loop Inv (fun n x hI => (round n x hI).mono fun e y he => ?_) h0
  match e, he with
  | none, he => exact he
  | some none, he => exact he
  | some (some id'), he => exact he
theorem goesT_runsW {T : Tab} (hT : TabOk T) {N : Nat} {c : Code} {t : List Value} {h h' : Hp} {s s0 : List Dec} {k n : Nat} {e : Ex} {front : List Value} {cs : Log} (hG : GoesT (evC T N false c (t, h, s) ⟨[], [], []⟩) k n e front h' cs) (hcs : okLog cs) :
    RunsW T c (t, h, s0) fun e' y => e' = e ∧ (∃ g, y.1 = front ++ tl n g) ∧ y.2.1 = h' := (goesT_runs hT hG hcs).w
theorem tl_len (n : Nat) (g : Nat → Value) : (tl n g).length = n := by simp [tl]
end Go.KRun
namespace Go.Proofs.YtdlpffgekmidnabDoor
open Go.KRun Go.Wd
set_option maxRecDepth 100000
def conFS : Con := alt 61 gPrt (alt 53 (g2 (plain2 fmV4)) (alt 59 (g2 (plain2 subV4)) (alt 57 (g2 (plain2 addV4)) conN)))
theorem conFS_ok : ConOk conFS := alt_ok Tryd.func61 rfl gPrt_ok (alt_ok Tryd.func53 rfl (plain2_ok fm_calls) (alt_ok Tryd.func59 rfl (plain2_ok sub_calls) (alt_ok Tryd.func57 rfl (plain2_ok add_calls) conN_ok)))
def srP (F : Func) : List Code := [cFst (cBody F), cFst (cSnd (cBody F)), cFst (cSnd (cSnd (cBody F)))]
def srI (F : Func) : Code := cFst (cFst (cSnd (cSnd (cSnd (cBody F)))))
def srL (F : Func) : Code := cIn (cIn (cSnd (cFst (cSnd (cSnd (cSnd (cBody F)))))))
def srE (F : Func) : Code := cSnd (cSnd (cSnd (cSnd (cBody F))))
theorem sr_body : Tryd.f51.body = some (seqs (srP Tryd.f51) (.seq (.seq (srI Tryd.f51) (.block 0 (.loop (srL Tryd.f51)))) (srE Tryd.f51))) := by kernel_rfl
def aFx (n : Nat) : Value := .pointer (some ⟨n, 0, none⟩)
def kFx (x : W4) : List Value × TypeId := ([.int .u64 x.a, .int .u64 x.b, .int .u64 x.c, .int .u64 x.d], 86)
/-- the memory: the sum, the square, the answer, the angle, the term -/
def srH (t x q y : W4) : Hp := ⟨5, [kFx y, kFx q, kFx ⟨0, 0, 0, 0⟩, kFx x, kFx t]⟩
def srF (v0 v1 : Value) (n : Int) (v5 v8 v10 v11 v12 v13 v14 v15 v16 v17 : Value) (k : Int) : List Value := [v0, v1, .int .u64 n, aFx 0, aFx 1, v5, aFx 2, aFx 3, v8, aFx 4, v10, v11, v12, v13, v14, v15, v16, v17, .int .u64 k]
theorem sr_pre (t x : W4) (n : Int) : GoesT (evL (tabOf Tryd.prog extY conFS true) 300 (srP Tryd.f51) ([vW t, vW x, .int .u64 n] ++ List.replicate 39 undef, ⟨0, []⟩, []) ⟨[], [], []⟩) 18 24 none [vW t, vW x, .int .u64 n, aFx 0, aFx 1, undef, aFx 2, aFx 3, .bool (decide (115792089237316195423570985008687907853269984665640564039457584007913129639936 ≤ fmI x x)), aFx 4, undef, fmV4 x x, vW x, vW x, fmV4 x x, vW (W4.of (fmI x x)), .bool (decide (115792089237316195423570985008687907853269984665640564039457584007913129639936 ≤ fmI x x)), vW t] (srH t x (W4.of (fmI x x)) t) [q2 x x] := ⟨by kernel_rfl, by kernel_rfl, by kernel_rfl⟩
theorem sr_i (v0 v1 v2 v3 v4 v5 v6 v7 v8 v9 v10 v11 v12 v13 v14 v15 v16 v17 : Value) (g : Nat → Value) (h : Hp) : GoesT (evC (tabOf Tryd.prog extY conFS true) 100 false (srI Tryd.f51) ([v0, v1, v2, v3, v4, v5, v6, v7, v8, v9, v10, v11, v12, v13, v14, v15, v16, v17] ++ tl 24 g, h, []) ⟨[], [], []⟩) 19 23 none [v0, v1, v2, v3, v4, v5, v6, v7, v8, v9, v10, v11, v12, v13, v14, v15, v16, v17, .int .u64 0] h [] := ⟨by kernel_rfl, by kernel_rfl, by kernel_rfl⟩
section
variable (v0 v1 v5 v8 v10 v11 v12 v13 v14 v15 v16 v17 : Value) (t x q y : W4) (n k : Int) (g : Nat → Value)
/-- the term that comes -/
def srT (t q : W4) (n k : Int) : W4 := W4.of (fmI t q / (IntKind.u64.wrap (n + IntKind.u64.wrap (2 * k)) * (IntKind.u64.wrap (n + IntKind.u64.wrap (2 * k)) + 1)))
def srO (t q : W4) (n k : Int) : Bool × Bool := okPt t q (IntKind.u64.wrap (n + IntKind.u64.wrap (2 * k)))
theorem sr_out : GoesT (evC (tabOf Tryd.prog extY conFS true) 100 false (srL Tryd.f51) (srF v0 v1 n v5 v8 v10 v11 v12 v13 v14 v15 v16 v17 k ++ tl 23 g, srH t x q y, [cmp false]) ⟨[], [], []⟩) 19 23 (some (some 0)) (srF v0 v1 n v5 v8 v10 v11 v12 v13 v14 v15 v16 v17 k) (srH t x q y) [(decide (k < 28), false)] := ⟨by kernel_rfl, by kernel_rfl, by kernel_rfl⟩
theorem sr_brk : GoesT (evC (tabOf Tryd.prog extY conFS true) 100 false (srL Tryd.f51) (srF v0 v1 n v5 v8 v10 v11 v12 v13 v14 v15 v16 v17 k ++ tl 23 g, srH t x q y, [cmp true, sam true]) ⟨[], [], []⟩) 19 23 (some (some 0)) (srF v0 v1 n v5 v8 (.int .u64 k) v11 v12 v13 v14 v15 v16 v17 k) (srH (srT t q n k) x q y) [(eqW (srT t q n k) ⟨0, 0, 0, 0⟩, true), srO t q n k, (decide (k < 28), true)] := ⟨by kernel_rfl, by kernel_rfl, by kernel_rfl⟩
theorem sr_less : GoesT (evC (tabOf Tryd.prog extY conFS true) 100 false (srL Tryd.f51) (srF v0 v1 n v5 v8 v10 v11 v12 v13 v14 v15 v16 v17 k ++ tl 23 g, srH t x q y, [cmp true, sam false, cmp false, cmp true]) ⟨[], [], []⟩) 19 23 none (srF v0 v1 n v5 v8 (.int .u64 k) v11 v12 v13 v14 v15 v16 v17 (IntKind.u64.wrap (k + 1))) (srH (srT t q n k) x q (W4.of (y.val - (srT t q n k).val))) [q2 y (srT t q n k), (k.tmod 2 == 0, true), (decide ((2 : Int) = 0), false), (eqW (srT t q n k) ⟨0, 0, 0, 0⟩, false), srO t q n k, (decide (k < 28), true)] := ⟨by kernel_rfl, by kernel_rfl, by kernel_rfl⟩
theorem sr_plus : GoesT (evC (tabOf Tryd.prog extY conFS true) 100 false (srL Tryd.f51) (srF v0 v1 n v5 v8 v10 v11 v12 v13 v14 v15 v16 v17 k ++ tl 23 g, srH t x q y, [cmp true, sam false, cmp false, cmp false]) ⟨[], [], []⟩) 19 23 none (srF v0 v1 n v5 v8 (.int .u64 k) v11 v12 v13 v14 v15 v16 v17 (IntKind.u64.wrap (k + 1))) (srH (srT t q n k) x q (W4.of (y.val + (srT t q n k).val))) [q2 y (srT t q n k), (k.tmod 2 == 0, false), (decide ((2 : Int) = 0), false), (eqW (srT t q n k) ⟨0, 0, 0, 0⟩, false), srO t q n k, (decide (k < 28), true)] := ⟨by kernel_rfl, by kernel_rfl, by kernel_rfl⟩
theorem sr_end : GoesT (evC (tabOf Tryd.prog extY conFS true) 100 false (srE Tryd.f51) (srF v0 v1 n v5 v8 v10 v11 v12 v13 v14 v15 v16 v17 k ++ tl 23 g, srH t x q y, []) ⟨[], [], []⟩) 19 23 (some none) (srF v0 v1 n v5 v8 v10 v11 v12 v13 v14 v15 v16 v17 k) ⟨5, [kFx y, kFx q, kFx y, kFx x, kFx t]⟩ [] := ⟨by kernel_rfl, by kernel_rfl, by kernel_rfl⟩
end
theorem uP_is : Go.Fx.uP = 452312848583266388373324160190187140051835877600158453279131187530910662656 := by rfl
theorem of_sub (A b : Int) : W4.of ((W4.of A).val - b) = W4.of (A - b) := by
  rw [W4.val_of, ← of_mod (_ - b), ← of_mod (A - b)]
  congr 1
  omega
theorem of_add (A b : Int) : W4.of ((W4.of A).val + b) = W4.of (A + b) := by
  rw [W4.val_of, ← of_mod (_ + b), ← of_mod (A + b)]
  congr 1
  omega
theorem ofN_val {n : Nat} (h : n ≤ Go.Fx.uP) : (ofN n).val = (n : Int) := by
  rw [uP_is] at h
  unfold ofN
  rw [W4.val_of]
  omega
theorem fmI_of {a b : Nat} (ha : a ≤ Go.Fx.uP) (hb : b ≤ Go.Fx.uP) : fmI (ofN a) (ofN b) = ((a * b / Go.Fx.uP : Nat) : Int) := by
  unfold fmI
  rw [ofN_val ha, ofN_val hb, uP_is]
  omega
theorem ofN_none {n : Nat} (h : n ≤ Go.Fx.uP) : eqW (ofN n) ⟨0, 0, 0, 0⟩ = decide (n = 0) := by
  rw [Bool.eq_iff_iff, eqW_iff, decide_eq_true_eq]
  constructor
  · intro e
    have := congrArg W4.val e
    rw [ofN_val h] at this
    have z : (⟨0, 0, 0, 0⟩ : W4).val = 0 := rfl
    omega
  · rintro rfl
    exact ofN_zero
section
variable (f x n : Nat)
/-- the square; the terms; the sums -/
def sqF : Nat := x * x / Go.Fx.uP
def tF (k : Nat) : Nat := Go.Fx.tm Go.Fx.uP (sqF x) f n k
def yF (k : Nat) : Int := Go.Fx.sr Go.Fx.uP (sqF x) f n k
end
section
variable {f x n : Nat} (hf : f ≤ Go.Fx.uP) (hx : x ≤ Go.Fx.uP) (hn : 1 ≤ n ∧ n ≤ 100)
include hx in
theorem sqF_le : sqF x ≤ Go.Fx.uP := Go.Fx.sq_le Go.Fx.uP_pos hx
include hf hx in
theorem tF_le (k : Nat) : tF f x n k ≤ Go.Fx.uP := Nat.le_trans (Go.Fx.tm_le Go.Fx.uP_pos (sqF_le hx) k) hf
include hf hx hn in
theorem srT_is {k : Nat} (hk : k < 28) : srT (ofN (tF f x n k)) (ofN (sqF x)) (n : Int) (k : Int) = ofN (tF f x n (k + 1)) ∧ (srO (ofN (tF f x n k)) (ofN (sqF x)) (n : Int) (k : Int)).1 = (srO (ofN (tF f x n k)) (ofN (sqF x)) (n : Int) (k : Int)).2 := by
  have ew : IntKind.u64.wrap ((n : Int) + IntKind.u64.wrap (2 * (k : Int))) = ((n + 2 * k : Nat) : Int) := by
    rw [wrap_u64' (n := 2 * (k : Int)) (by omega) (by omega), wrap_u64' (by omega) (by omega)]
    omega
  have hfm := fmI_of (tF_le hf hx k) (sqF_le hx) (a := tF f x n k)
  have hle : tF f x n k * sqF x / Go.Fx.uP ≤ Go.Fx.uP := by
    have := Nat.mul_le_mul (tF_le hf hx k (n := n)) (sqF_le hx)
    exact Nat.le_trans (Nat.div_le_div_right this) (by rw [Nat.mul_div_cancel _ Go.Fx.uP_pos]; exact Nat.le_refl _)
  constructor
  · unfold srT ofN
    rw [ew]
    unfold ofN at hfm
    rw [hfm]
    congr 1
  · unfold srO okPt
    rw [ew]
    have n1 : (1 : Int) ≤ ((n + 2 * k : Nat) : Int) := by omega
    have n2 : ((n + 2 * k : Nat) : Int) ≤ 1000 := by omega
    have hl : fmI (ofN (tF f x n k)) (ofN (sqF x)) < 115792089237316195423570985008687907853269984665640564039457584007913129639936 := by
      rw [hfm]
      clear hfm
      generalize tF f x n k * sqF x / Go.Fx.uP = p at *
      rw [uP_is] at hle
      omega
    dsimp only
    exact decide_eq_true ⟨ofN_ok _, ofN_ok _, hl, n1, n2⟩
/-- what holds at the loop's head -/
def sI (f x n : Nat) (v0 v1 v5 v8 v11 v12 v13 v14 v15 v16 v17 : Value) (k : Nat) (y : Lf) : Prop := ∃ v10 g, y.1 = srF v0 v1 (n : Int) v5 v8 v10 v11 v12 v13 v14 v15 v16 v17 (k : Int) ++ tl 23 g ∧ y.2.1 = srH (ofN (tF f x n k)) (ofN x) (ofN (sqF x)) (W4.of (yF f x n (k + 1)))
def sFinX (f x n : Nat) (v0 v1 v5 v8 v11 v12 v13 v14 v15 v16 v17 : Value) (y : Lf) : Prop := ∃ v10 t k g, y.1 = srF v0 v1 (n : Int) v5 v8 v10 v11 v12 v13 v14 v15 v16 v17 k ++ tl 23 g ∧ y.2.1 = srH t (ofN x) (ofN (sqF x)) (W4.of (yF f x n 29))
include hf hx hn in
theorem sr_round (v0 v1 v5 v8 v11 v12 v13 v14 v15 v16 v17 : Value) {k : Nat} (hk : k ≤ 28) {y : Lf} (h : sI f x n v0 v1 v5 v8 v11 v12 v13 v14 v15 v16 v17 k y) :
    Runs (tabOf Tryd.prog extY conFS true) (srL Tryd.f51) y fun e z => match e with | none => k < 28 ∧ sI f x n v0 v1 v5 v8 v11 v12 v13 v14 v15 v16 v17 (k + 1) z | some none => False | some (some id') => id' = 0 ∧ sFinX f x n v0 v1 v5 v8 v11 v12 v13 v14 v15 v16 v17 z := by
  obtain ⟨t, h', s⟩ := y
  obtain ⟨v10, g, ht, hh⟩ := h
  simp only at ht hh
  subst ht hh
  have T := tabY_ok conFS_ok
  by_cases c : k < 28
  · have hlt : decide ((k : Int) < 28) = true := decide_eq_true (by omega)
    obtain ⟨e1, o1⟩ := srT_is hf hx hn c
    have e2 := ofN_none (tF_le hf hx (n := n) (k + 1))
    have ek : IntKind.u64.wrap ((k : Int) + 1) = ((k + 1 : Nat) : Int) := by rw [wrap_u64' (by omega) (by omega)]; omega
    have oQ : (q2 (W4.of (yF f x n (k + 1))) (ofN (tF f x n (k + 1)))).1 = (q2 (W4.of (yF f x n (k + 1))) (ofN (tF f x n (k + 1)))).2 := decide_eq_true ⟨W4.ok_of _, ofN_ok _⟩
    have hv := ofN_val (tF_le hf hx (n := n) (k + 1))
    by_cases z : tF f x n (k + 1) = 0
    · have hg := sr_brk v0 v1 v5 v8 v10 v11 v12 v13 v14 v15 v16 v17 (ofN (tF f x n k)) (ofN x) (ofN (sqF x)) (W4.of (yF f x n (k + 1))) n k g
      rw [e1] at hg
      refine (goesT_runs (s0 := s) T hg (okPC (by rw [e2]; exact decide_eq_true z) (okPC o1 (okP1 hlt)))).mono fun e w hw => ?_
      obtain ⟨rfl, ⟨g', z1⟩, z2⟩ := hw
      refine ⟨rfl, _, ofN (tF f x n (k + 1)), _, g', z1, ?_⟩
      have : yF f x n 29 = yF f x n (k + 1) := by
        have := Go.Fx.sr_stop z (28 - k)
        rw [show k + 1 + (28 - k) = 29 by omega] at this
        exact this
      rw [z2, this]
    · have e2' : eqW (ofN (tF f x n (k + 1))) ⟨0, 0, 0, 0⟩ = false := by rw [e2]; exact decide_eq_false z
      rcases Nat.mod_two_eq_zero_or_one k with m | m
      · have hg := sr_less v0 v1 v5 v8 v10 v11 v12 v13 v14 v15 v16 v17 (ofN (tF f x n k)) (ofN x) (ofN (sqF x)) (W4.of (yF f x n (k + 1))) n k g
        rw [e1, ek, hv, of_sub] at hg
        have hm : ((k : Int).tmod 2 == 0) = true := by rw [beq_iff_eq, Int.tmod_eq_emod_of_nonneg (by omega)]; omega
        refine (goesT_runs (s0 := s) T hg (okPC oQ (okPC hm (okPC (by decide) (okPC e2' (okPC o1 (okP1 hlt))))))).mono fun e w hw => ?_
        obtain ⟨rfl, ⟨g', z1⟩, z2⟩ := hw
        refine ⟨c, _, g', z1, ?_⟩
        have : yF f x n (k + 1 + 1) = yF f x n (k + 1) - ((tF f x n (k + 1) : Nat) : Int) := by
          show (if (k + 1) % 2 = 0 then _ else _) = _
          rw [if_neg (by omega)]
          rfl
        rw [z2, this]
      · have hg := sr_plus v0 v1 v5 v8 v10 v11 v12 v13 v14 v15 v16 v17 (ofN (tF f x n k)) (ofN x) (ofN (sqF x)) (W4.of (yF f x n (k + 1))) n k g
        rw [e1, ek, hv, of_add] at hg
        have hm : ((k : Int).tmod 2 == 0) = false := by rw [beq_eq_false_iff_ne, Int.tmod_eq_emod_of_nonneg (by omega)]; omega
        refine (goesT_runs (s0 := s) T hg (okPC oQ (okPC hm (okPC (by decide) (okPC e2' (okPC o1 (okP1 hlt))))))).mono fun e w hw => ?_
        obtain ⟨rfl, ⟨g', z1⟩, z2⟩ := hw
        refine ⟨c, _, g', z1, ?_⟩
        have : yF f x n (k + 1 + 1) = yF f x n (k + 1) + ((tF f x n (k + 1) : Nat) : Int) := by
          show (if (k + 1) % 2 = 0 then _ else _) = _
          rw [if_pos (by omega)]
          rfl
        rw [z2, this]
  · have e : k = 28 := by omega
    subst e
    refine (goesT_runs (s0 := s) T (sr_out v0 v1 v5 v8 v10 v11 v12 v13 v14 v15 v16 v17 (ofN (tF f x n 28)) (ofN x) (ofN (sqF x)) (W4.of (yF f x n (28 + 1))) n ((28 : Nat) : Int) g) (okL1 (by decide))).mono fun e w hw => ?_
    obtain ⟨rfl, ⟨g', z1⟩, z2⟩ := hw
    exact ⟨rfl, _, _, _, g', z1, z2⟩
include hf hx hn in
theorem series_calls (w : World) : Calls Tryd.prog 51 #[vW (ofN f), vW (ofN x), .int .u64 (n : Int)] w fun e w' => e = .returned (vW (W4.of (yF f x n 29))) ∧ Tidy w w' := by
  have T := tabY_ok conFS_ok
  refine calls_of_runs (T := tabOf Tryd.prog extY conFS true) Tryd.func51 sr_body (vals := [vW (ofN f), vW (ofN x), .int .u64 (n : Int)]) (by rfl) (by rfl) ?_ w
  refine goesT_list T (sr_pre (ofN f) (ofN x) n) (okL1 (decide_eq_true ⟨ofN_ok _, ofN_ok _⟩)) fun g => ?_
  have es : W4.of (fmI (ofN x) (ofN x)) = ofN (sqF x) := by rw [fmI_of hx hx]; rfl
  rw [es]
  refine Runs.seq (P1 := fun e y => e = none ∧ ∃ v0 v1 v5 v8 v11 v12 v13 v14 v15 v16 v17, sFinX f x n v0 v1 v5 v8 v11 v12 v13 v14 v15 v16 v17 y) ?_ ?_ (fun e y he => by cases he.1)
  · refine Runs.seq (goesT_runs T (sr_i _ _ _ _ _ _ _ _ _ _ _ _ _ _ _ _ _ _ g _) okNil) ?_ (fun e y he => by cases he.1)
    rintro ⟨t, h', s⟩ ⟨_, ⟨g', ht⟩, hh⟩
    simp only at ht hh
    subst ht hh
    refine (Runs.forLoop (T := tabOf Tryd.prog extY conFS true) (c := srL Tryd.f51) (id := 0) (R := fun _ => False) (P := fun y => ∃ v0 v1 v5 v8 v11 v12 v13 v14 v15 v16 v17, sFinX f x n v0 v1 v5 v8 v11 v12 v13 v14 v15 v16 v17 y) (fun j y => ∃ k, j = 28 - k ∧ k ≤ 28 ∧ sI f x n _ _ _ _ _ _ _ _ _ _ _ k y) ?_ (n := 28) ⟨0, by omega, by omega, _, g', rfl, ?_⟩).mono fun e z hz => ?_
    · rintro j y ⟨k, hj, hk, hI⟩
      refine (sr_round hf hx hn _ _ _ _ _ _ _ _ _ _ _ hk hI).mono fun e z hz => ?_
      match e, hz with
      | none, hz => exact ⟨28 - (k + 1), by omega, k + 1, rfl, by omega, hz.2⟩
      | some none, hz => exact hz.elim
      | some (some _), hz => exact ⟨hz.1, _, _, _, _, _, _, _, _, _, _, _, hz.2⟩
    · have : yF f x n (0 + 1) = (f : Int) := by
        show (0 : Int) + ((f : Nat) : Int) = _
        omega
      rw [this]
      rfl
    · match e, hz with
      | none, hz => exact ⟨rfl, hz⟩
      | some none, hz => exact hz.elim
      | some (some _), hz => exact hz.elim
  · rintro ⟨t, h', s⟩ ⟨_, v0, v1, v5, v8, v11, v12, v13, v14, v15, v16, v17, v10, tt, k, g', ht, hh⟩
    simp only at ht hh
    subst ht hh
    refine (goesT_runs T (sr_end v0 v1 v5 v8 v10 v11 v12 v13 v14 v15 v16 v17 tt (ofN x) (ofN (sqF x)) (W4.of (yF f x n 29)) n k g') okNil).mono fun e z hz => ?_
    obtain ⟨rfl, ⟨g2, z1⟩, z2⟩ := hz
    refine ⟨.inr rfl, ?_⟩
    rw [z1, z2]
    rfl
end
def okSer (a b : W4) (n : Int) : Bool × Bool := (decide (a.ok ∧ b.ok ∧ a.nat ≤ Go.Fx.uP ∧ b.nat ≤ Go.Fx.uP ∧ 1 ≤ n ∧ n ≤ 100), true)
def serW (a b : W4) (n : Int) : W4 := W4.of (yF a.nat b.nat n.toNat 29)
def gSer : Ans := fun vals s =>
  match vals with
  | [x, y, .int .u64 n] =>
    match w4 x, w4 y with
    | some a, some b => some (vW (serW a b n), s, [okSer a b n])
    | _, _ => none
  | _ => none
theorem gSer_ok : AnsOk 51 gSer := by
  intro vals s v s' lg h hl w
  unfold gSer at h
  split at h
  · rename_i x y n
    split at h
    · rename_i a b ha hb
      cases h
      have h1 := hl _ (List.mem_singleton.2 rfl)
      simp only [okSer, decide_eq_true_eq] at h1
      obtain ⟨k1, k2, k3, k4, k5, k6⟩ := h1
      rw [w4_spec ha, w4_spec hb]
      have := series_calls (n := Int.toNat n) k3 k4 ⟨by omega, by omega⟩ w
      rw [ofN_self k1, ofN_self k2, Int.toNat_of_nonneg (by omega)] at this
      exact this
    · cases h
  · cases h
def conFO : Con := alt 42 (g1n (plain1n shlV4)) conN
theorem conFO_ok : ConOk conFO := alt_ok Tryd.func42 rfl (plain1n_ok shl_calls) conN_ok
/-- 1 -/
def oneW : W4 := ⟨0, 0, 0, 72057594037927936⟩
def g0 (k : Value) : Ans := fun vals s => match vals with | [] => some (k, s, []) | _ => none
theorem g0_ok {f : Nat} {k : Value} (hk : ∀ w, Calls Tryd.prog f #[] w fun e w' => e = .returned k ∧ Tidy w w') : AnsOk f (g0 k) := by
  intro vals s v s' lg h hl w
  unfold g0 at h
  split at h
  · cases h
    exact hk w
  · cases h
theorem one_fits : Fits (reckon (tabOf Tryd.prog extY conFO true) 300 49 [] []) (vW (shlW ⟨1, 0, 0, 0⟩ 248)) [qk ⟨1, 0, 0, 0⟩ 248] := ⟨by kernel_rfl, by kernel_rfl, by kernel_rfl, by kernel_rfl⟩
theorem one_calls (w : World) : Calls Tryd.prog 49 #[] w fun e w' => e = .returned (vW oneW) ∧ Tidy w w' := by
  have e : shlW ⟨1, 0, 0, 0⟩ 248 = oneW := eqW_iff.1 (by decide +kernel)
  have := fits_calls (tabY_ok conFO_ok) one_fits (okL1 (by decide)) (by rfl) (by rfl) w
  rw [e] at this
  exact this
def conFT : Con := alt 49 (g0 (vW oneW)) (alt 48 (g2 (plain2 cmpV4)) (alt 51 gSer (alt 50 (g1 bdV4) conN)))
theorem conFT_ok : ConOk conFT := alt_ok Tryd.func49 rfl (g0_ok one_calls) (alt_ok Tryd.func48 rfl (plain2_ok cmp_calls) (alt_ok Tryd.func51 rfl gSer_ok (alt_ok Tryd.func50 rfl (g1_ok bd_calls) conN_ok)))
def cg1 (x : W4) (d : Bool) : Bool × Bool := (decide (cmpI x oneW > 0), d)
def oW (x : W4) : Bool × Bool := (decide x.ok, true)
theorem sin_big (x : W4) : Fits (reckon (tabOf Tryd.prog extY conFT true) 300 39 [vW x] [cmp true]) (.tuple #[vW ⟨0, 0, 0, 0⟩, vW ⟨0, 0, 0, 0⟩, .iface 42 (.int .i64 1)]) [cg1 x true, q2 x oneW] := ⟨by kernel_rfl, by kernel_rfl, by kernel_rfl, by kernel_rfl⟩
theorem sin_in (x : W4) : Fits (reckon (tabOf Tryd.prog extY conFT true) 300 39 [vW x] [cmp false]) (.tuple #[vW (ofN (Go.Fx.lo32 (serW x x 2).val)), vW (ofN (Go.Fx.hi32 (serW x x 2).val)), .nilIface]) [oW (serW x x 2), okSer x x 2, cg1 x false, q2 x oneW] := ⟨by kernel_rfl, by kernel_rfl, by kernel_rfl, by kernel_rfl⟩
theorem cos_big (x : W4) : Fits (reckon (tabOf Tryd.prog extY conFT true) 300 37 [vW x] [cmp true]) (.tuple #[vW ⟨0, 0, 0, 0⟩, vW ⟨0, 0, 0, 0⟩, .iface 42 (.int .i64 1)]) [cg1 x true, q2 x oneW] := ⟨by kernel_rfl, by kernel_rfl, by kernel_rfl, by kernel_rfl⟩
theorem cos_in (x : W4) : Fits (reckon (tabOf Tryd.prog extY conFT true) 300 37 [vW x] [cmp false]) (.tuple #[vW (ofN (Go.Fx.lo32 (serW oneW x 1).val)), vW (ofN (Go.Fx.hi32 (serW oneW x 1).val)), .nilIface]) [oW (serW oneW x 1), okSer oneW x 1, oW (serW oneW x 1), okSer oneW x 1, oW (serW oneW x 1), oW (serW oneW x 1), okSer oneW x 1, oW (serW oneW x 1), okSer oneW x 1, oW (serW oneW x 1), okSer oneW x 1, oW (serW oneW x 1), oW (serW oneW x 1), okSer oneW x 1, oW (serW oneW x 1), okSer oneW x 1, oW (serW oneW x 1), oW (serW oneW x 1), okSer oneW x 1, oW (serW oneW x 1), okSer oneW x 1, oW (serW oneW x 1), oW (serW oneW x 1), okSer oneW x 1, oW (serW oneW x 1), oW (serW oneW x 1), oW (serW oneW x 1), oW (serW oneW x 1), oW (serW oneW x 1), okSer oneW x 1, cg1 x false, q2 x oneW] := ⟨by kernel_rfl, by kernel_rfl, by kernel_rfl, by kernel_rfl⟩
theorem oneW_ok : oneW.ok := by decide
theorem oneW_nat : oneW.nat = Go.Fx.uP := by rfl
theorem cg1_iff {x : W4} (hx : x.ok) : cmpI x oneW > 0 ↔ Go.Fx.uP < x.nat := by
  have h := W4.nat_val hx
  have e : oneW.val = 452312848583266388373324160190187140051835877600158453279131187530910662656 := by rfl
  rw [uP_is]
  unfold cmpI
  rw [e, h]
  split
  · omega
  · split <;> omega
theorem serW_val {a b n : Nat} (ha : a ≤ Go.Fx.uP) (hb : b ≤ Go.Fx.uP) : (W4.of (yF a b n 29)).val = yF a b n 29 := by
  have h : 0 ≤ yF a b n 29 ∧ yF a b n 29 ≤ (a : Int) := Go.Fx.sr_bd Go.Fx.uP_pos (Go.Fx.sq_le Go.Fx.uP_pos hb) 29
  rw [uP_is] at ha
  rw [W4.val_of, Int.emod_eq_of_lt h.1 (by omega)]
/-- the bounds -/
def slN (x : W4) : Nat := Go.Fx.lo32 (Go.Fx.sS Go.Fx.uP 29 x.nat)
def shN (x : W4) : Nat := Go.Fx.hi32 (Go.Fx.sS Go.Fx.uP 29 x.nat)
def clN (x : W4) : Nat := Go.Fx.lo32 (Go.Fx.cS Go.Fx.uP 29 x.nat)
def chN (x : W4) : Nat := Go.Fx.hi32 (Go.Fx.cS Go.Fx.uP 29 x.nat)
def tooV : Value := .tuple #[vW ⟨0, 0, 0, 0⟩, vW ⟨0, 0, 0, 0⟩, .iface 42 (.int .i64 1)]
def sinV (x : W4) : Value := .tuple #[vW (ofN (slN x)), vW (ofN (shN x)), .nilIface]
def cosV (x : W4) : Value := .tuple #[vW (ofN (clN x)), vW (ofN (chN x)), .nilIface]
/-- of an angle: above 1 an error; told ahead -/
def gAng (k : W4 → Value) : Ans := fun vals s =>
  match vals, s with
  | [x], .inr (.inr (.inr (.inl d))) :: s' =>
    match w4 x, d with
    | some a, true => some (tooV, s', [(decide (Go.Fx.uP < a.nat), true), (decide a.ok, true)])
    | some a, false => some (k a, s', [(decide (Go.Fx.uP < a.nat), false), (decide a.ok, true)])
    | _, _ => none
  | _, _ => none
theorem gAng_ok {f : Nat} {k : W4 → Value} (hk : ∀ x : W4, x.ok → ∀ w, Calls Tryd.prog f #[vW x] w fun e w' => e = .returned (if Go.Fx.uP < x.nat then tooV else k x) ∧ Tidy w w') : AnsOk f (gAng k) := by
  intro vals s v s' lg h hl w
  unfold gAng at h
  split at h
  · rename_i x d s2
    split at h
    · rename_i a ha
      cases h
      have h1 := of_decide_eq_true (hl _ List.mem_cons_self)
      have h2 := of_decide_eq_true (hl _ (List.mem_cons_of_mem _ (List.mem_singleton.2 rfl)))
      have := hk a h2 w
      rw [if_pos h1] at this
      rw [w4_spec ha]
      exact this
    · rename_i a ha
      cases h
      have h1 := of_decide_eq_false (hl _ List.mem_cons_self)
      have h2 := of_decide_eq_true (hl _ (List.mem_cons_of_mem _ (List.mem_singleton.2 rfl)))
      have := hk a h2 w
      rw [if_neg h1] at this
      rw [w4_spec ha]
      exact this
    · cases h
  · cases h
theorem sin_calls (x : W4) (hx : x.ok) (w : World) : Calls Tryd.prog 39 #[vW x] w fun e w' => e = .returned (if Go.Fx.uP < x.nat then tooV else sinV x) ∧ Tidy w w' := by
  have T := tabY_ok conFT_ok
  have h2 : (q2 x oneW).1 = (q2 x oneW).2 := decide_eq_true ⟨hx, oneW_ok⟩
  by_cases c : Go.Fx.uP < x.nat
  · rw [if_pos c]
    have h1 : (cg1 x true).1 = (cg1 x true).2 := decide_eq_true ((cg1_iff hx).2 c)
    exact fits_calls T (sin_big x) (okPC h1 (okPC h2 okNil)) (by rfl) (by rfl) w
  · rw [if_neg c]
    have h1 : (cg1 x false).1 = (cg1 x false).2 := decide_eq_false fun h => c ((cg1_iff hx).1 h)
    have hl : x.nat ≤ Go.Fx.uP := by omega
    have h3 : (okSer x x 2).1 = (okSer x x 2).2 := decide_eq_true ⟨hx, hx, hl, hl, by decide, by decide⟩
    have h4 : (oW (serW x x 2)).1 = (oW (serW x x 2)).2 := decide_eq_true (W4.ok_of _)
    have e : (serW x x 2).val = Go.Fx.sS Go.Fx.uP 29 x.nat := serW_val hl hl
    have := fits_calls T (sin_in x) (okPC h4 (okPC h3 (okPC h1 (okPC h2 okNil)))) (by rfl) (by rfl) w
    rw [e] at this
    exact this
theorem cos_calls (x : W4) (hx : x.ok) (w : World) : Calls Tryd.prog 37 #[vW x] w fun e w' => e = .returned (if Go.Fx.uP < x.nat then tooV else cosV x) ∧ Tidy w w' := by
  have T := tabY_ok conFT_ok
  have h2 : (q2 x oneW).1 = (q2 x oneW).2 := decide_eq_true ⟨hx, oneW_ok⟩
  by_cases c : Go.Fx.uP < x.nat
  · rw [if_pos c]
    have h1 : (cg1 x true).1 = (cg1 x true).2 := decide_eq_true ((cg1_iff hx).2 c)
    exact fits_calls T (cos_big x) (okPC h1 (okPC h2 okNil)) (by rfl) (by rfl) w
  · rw [if_neg c]
    have h1 : (cg1 x false).1 = (cg1 x false).2 := decide_eq_false fun h => c ((cg1_iff hx).1 h)
    have hl : x.nat ≤ Go.Fx.uP := by omega
    have h3 : (okSer oneW x 1).1 = (okSer oneW x 1).2 := decide_eq_true ⟨oneW_ok, hx, Nat.le_of_eq oneW_nat, hl, by decide, by decide⟩
    have h4 : (oW (serW oneW x 1)).1 = (oW (serW oneW x 1)).2 := decide_eq_true (W4.ok_of _)
    have e : (serW oneW x 1).val = Go.Fx.cS Go.Fx.uP 29 x.nat := serW_val (Nat.le_of_eq oneW_nat) hl
    have := fits_calls T (cos_in x) (okPC h4 (okPC h3 (okPC h4 (okPC h3 (okPC h4 (okPC h4 (okPC h3 (okPC h4 (okPC h3 (okPC h4 (okPC h3 (okPC h4 (okPC h4 (okPC h3 (okPC h4 (okPC h3 (okPC h4 (okPC h4 (okPC h3 (okPC h4 (okPC h3 (okPC h4 (okPC h4 (okPC h3 (okPC h4 (okPC h4 (okPC h4 (okPC h4 (okPC h4 (okPC h3 (okPC h1 (okPC h2 okNil)))))))))))))))))))))))))))))))) (by rfl) (by rfl) w
    rw [e] at this
    exact this
end Go.Proofs.YtdlpffgekmidnabDoor
