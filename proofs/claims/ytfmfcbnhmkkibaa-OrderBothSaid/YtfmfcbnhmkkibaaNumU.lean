/-
  PLAIN ARITHMETIC: bits of words of 64, as the model's operators write them.
-/
import GoSem.Core.Sem
namespace Go.Pt

def bAnd (x y : Int) : Int := IntKind.u64.wrap ((BitVec.ofInt 64 x &&& BitVec.ofInt 64 y).toNat : Nat)
def bOr (x y : Int) : Int := IntKind.u64.wrap ((BitVec.ofInt 64 x ||| BitVec.ofInt 64 y).toNat : Nat)
def bXor (x y : Int) : Int := IntKind.u64.wrap ((BitVec.ofInt 64 x ^^^ BitVec.ofInt 64 y).toNat : Nat)
def bNot (x y : Int) : Int := IntKind.u64.wrap ((BitVec.ofInt 64 x &&& ~~~(BitVec.ofInt 64 y)).toNat : Nat)
abbrev U (p : Int) : Prop := 0 ≤ p ∧ p < 18446744073709551616
abbrev I (n : Int) : Prop := -9223372036854775808 ≤ n ∧ n ≤ 9223372036854775807

theorem wrapU (n : Int) : IntKind.u64.wrap n = n % 18446744073709551616 := by simp [IntKind.wrap, IntKind.bits, IntKind.signed]
theorem wrapU' {n : Int} (h : U n) : IntKind.u64.wrap n = n := by rw [wrapU]; unfold U at h; omega
theorem wrapI' {n : Int} (h : I n) : IntKind.i64.wrap n = n := by
  unfold I at h
  simp [IntKind.wrap, IntKind.bits, IntKind.signed]; omega
theorem ofU {Z : Nat} (h : Z < 18446744073709551616) : (BitVec.ofInt 64 (Z : Int)).toNat = Z := by simp; omega
theorem back {V : BitVec 64} : IntKind.u64.wrap (V.toNat : Nat) = (V.toNat : Int) := by
  have := V.isLt
  exact wrapU' ⟨by omega, by omega⟩
theorem and_mask (x k j : Nat) : x &&& (2 ^ k * (2 ^ j - 1)) = 2 ^ k * (x / 2 ^ k % 2 ^ j) := by
  refine Nat.eq_of_testBit_eq fun i => ?_
  rw [Nat.testBit_and, Nat.testBit_two_pow_mul, Nat.testBit_two_pow_sub_one, Nat.testBit_two_pow_mul, Nat.testBit_mod_two_pow, Nat.testBit_div_two_pow]
  by_cases h : k ≤ i
  · have e : k + (i - k) = i := by omega
    have e' : i - k + k = i := by omega
    simp [h, e', Bool.and_comm]
  · simp [h]
theorem bAnd_mask {p m : Int} (k j : Nat) (hp : U p) (hm : m = ((2 ^ k * (2 ^ j - 1) : Nat) : Int)) (hk : 2 ^ k * (2 ^ j - 1) < 18446744073709551616) : bAnd p m = 2 ^ k * (p / 2 ^ k % 2 ^ j) := by
  obtain ⟨h0, h1⟩ := hp
  obtain ⟨Z, rfl⟩ := Int.eq_ofNat_of_zero_le h0
  unfold bAnd
  rw [back, BitVec.toNat_and, ofU (by omega), hm, ofU hk, and_mask]
  simp
theorem or_low {p q : Int} (k : Nat) {z : Int} (hz : 0 ≤ z) (hq : q = 2 ^ k * z) (hp : 0 ≤ p) (hk : p < 2 ^ k) (hs : q + p < 18446744073709551616) : bOr p q = q + p := by
  obtain ⟨Z, rfl⟩ := Int.eq_ofNat_of_zero_le hz
  obtain ⟨Y, rfl⟩ := Int.eq_ofNat_of_zero_le hp
  have ex : (2 : Int) ^ k * (Z : Nat) = ((2 ^ k * Z : Nat) : Int) := by simp
  have hY : Y < 2 ^ k := by
    have : ((Y : Nat) : Int) < ((2 ^ k : Nat) : Int) := by simpa using hk
    exact Int.ofNat_lt.1 this
  subst hq
  rw [ex] at hs ⊢
  have hX : 2 ^ k * Z + Y < 18446744073709551616 := by omega
  unfold bOr
  rw [back, BitVec.toNat_or, ofU (by omega), ofU (by omega), Nat.or_comm, ← Nat.two_pow_add_eq_or_of_lt hY]
  omega
theorem bNot_sign {p : Int} (hp : U p) : bNot p 9223372036854775808 = p % 9223372036854775808 := by
  obtain ⟨h0, h1⟩ := hp
  obtain ⟨Z, rfl⟩ := Int.eq_ofNat_of_zero_le h0
  unfold bNot
  have e : (~~~(BitVec.ofInt 64 9223372036854775808)).toNat = 2 ^ 63 - 1 := by decide
  rw [back, BitVec.toNat_and, ofU (by omega), e, Nat.and_two_pow_sub_one_eq_mod]
  omega
theorem xor_sign (r : Nat) (h : r < 2 ^ 63) : r ^^^ 2 ^ 63 = 2 ^ 63 + r := by
  have e : 2 ^ 63 + r = 2 ^ 63 ||| r := by
    have := Nat.two_pow_add_eq_or_of_lt h 1
    simpa using this
  rw [e]
  refine Nat.eq_of_testBit_eq fun i => ?_
  rw [Nat.testBit_xor, Nat.testBit_or, Nat.testBit_two_pow]
  by_cases hi : 63 = i
  · subst hi
    rw [Nat.testBit_lt_two_pow h]
    simp
  · simp [hi]
theorem bXor_sign {p : Int} (hp : U p) : bXor p 9223372036854775808 = (p + 9223372036854775808) % 18446744073709551616 := by
  obtain ⟨h0, h1⟩ := hp
  obtain ⟨Z, rfl⟩ := Int.eq_ofNat_of_zero_le h0
  unfold bXor
  have e : (BitVec.ofInt 64 9223372036854775808).toNat = 2 ^ 63 := by decide
  rw [back, BitVec.toNat_xor, ofU (by omega), e]
  by_cases hz : Z < 2 ^ 63
  · rw [xor_sign Z hz]
    omega
  · have h2 := xor_sign (Z - 2 ^ 63) (by omega)
    have e2 : Z = (Z - 2 ^ 63) ^^^ 2 ^ 63 := by rw [h2]; omega
    have e3 : Z ^^^ 2 ^ 63 = Z - 2 ^ 63 := by
      rw [e2, Nat.xor_assoc, Nat.xor_self, Nat.xor_zero, ← e2]
    rw [e3]
    omega
theorem bAnd_frac {p : Int} (hp : U p) : bAnd p 4503599627370495 = p % 4503599627370496 := by
  rw [bAnd_mask 0 52 hp (by rfl) (by decide)]
  simp
theorem bAnd_sign {p : Int} (hp : U p) : bAnd p 9223372036854775808 = 9223372036854775808 * (p / 9223372036854775808 % 2) := bAnd_mask 63 1 hp (by rfl) (by decide)
theorem bAnd_quiet {p : Int} (hp : U p) : bAnd p 2251799813685248 = 2251799813685248 * (p / 2251799813685248 % 2) := bAnd_mask 51 1 hp (by rfl) (by decide)
theorem bAnd_inf {p : Int} (hp : U p) : bAnd p 9218868437227405312 = 4503599627370496 * (p / 4503599627370496 % 2048) := bAnd_mask 52 11 hp (by rfl) (by decide)
theorem bAnd_exp {p : Int} (hp : U p) : bAnd p 2047 = p % 2048 := by
  rw [bAnd_mask 0 11 hp (by rfl) (by decide)]
  simp
theorem bAnd_nib {p : Int} (hp : U p) : bAnd p 15 = p % 16 := by
  rw [bAnd_mask 0 4 hp (by rfl) (by decide)]
  simp

/-! ### a pattern's parts -/
def sgn (p : Int) : Bool := decide (9223372036854775808 ≤ p)
def mag (p : Int) : Int := p % 9223372036854775808
def ex (p : Int) : Int := p / 4503599627370496 % 2048
def fr (p : Int) : Int := p % 4503599627370496
def cl (p : Int) : Int := if ex p = 0 then (if fr p = 0 then 0 else 1) else if ex p = 2047 then (if fr p = 0 then 3 else if 2251799813685248 ≤ fr p then 4 else 5) else 2
def xp (p : Int) : Int := if ex p = 0 then -1074 else if ex p = 2047 then 0 else ex p - 1075
def sg (p : Int) : Int := if ex p = 0 then fr p else if ex p = 2047 then fr p else fr p + 4503599627370496
theorem ex_mag (p : Int) : mag p / 4503599627370496 = ex p := by unfold mag ex; omega
theorem ex_lt (p : Int) : 0 ≤ ex p ∧ ex p < 2048 := by unfold ex; omega
theorem fr_lt (p : Int) : 0 ≤ fr p ∧ fr p < 4503599627370496 := by unfold fr; omega
theorem of_parts {p : Int} (hp : U p) : p = (if sgn p = true then 9223372036854775808 else 0) + 4503599627370496 * ex p + fr p := by
  unfold sgn ex fr U at *
  split <;> rename_i h <;> simp only [decide_eq_true_eq] at h <;> omega
end Go.Pt
