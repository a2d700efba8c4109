/-
  PLAIN ARITHMETIC, II: words moved up and down by a part of a word, as the model's shifts write it.
-/
import Derived.Test.YtfmfcbnhmkkibaaG16
import GoSem.Core.Sem
import Derived.Test.YtfmfcbnhmkkibaaG15
namespace Go.Wd

theorem wrap_u64 (n : Int) : IntKind.u64.wrap n = n % 18446744073709551616 := by simp [IntKind.wrap, IntKind.bits, IntKind.signed]
theorem wrap_u64' {n : Int} (h0 : 0 ≤ n) (h1 : n < 18446744073709551616) : IntKind.u64.wrap n = n := by rw [wrap_u64]; omega
theorem wrap_i64' {n : Int} (h0 : -9223372036854775808 ≤ n) (h1 : n ≤ 9223372036854775807) : IntKind.i64.wrap n = n := by
  simp [IntKind.wrap, IntKind.bits, IntKind.signed]; omega

def prt (n : Int) : Int := IntKind.u64.wrap (n.tmod 64)
def rem (n : Int) : Int := IntKind.u64.wrap (64 - prt n)
def up (a n : Int) : Int := IntKind.u64.wrap (a * 2 ^ min (prt n).toNat 64)
def dn (a n : Int) : Int := a.fdiv (2 ^ min (rem n).toNat 64)
/-- down by the part, up by what is left of a word -/
def dn' (a n : Int) : Int := a.fdiv (2 ^ min (prt n).toNat 64)
def up' (a n : Int) : Int := IntKind.u64.wrap (a * 2 ^ min (rem n).toNat 64)
def orr (x y : Int) : Int := IntKind.u64.wrap ((BitVec.ofInt 64 x ||| BitVec.ofInt 64 y).toNat : Nat)

theorem prt_eq {n : Int} (h : 0 ≤ n) : prt n = n % 64 := by
  unfold prt
  rw [Int.tmod_eq_emod_of_nonneg h, wrap_u64]
  omega
theorem rem_eq {n : Int} (h : 0 ≤ n) : rem n = 64 - n % 64 := by
  unfold rem
  rw [prt_eq h, wrap_u64]
  omega

/-- q = 2^p, r = 2^(64-p) -/
structure Parts (n q r : Int) : Prop where
  q1 : 1 ≤ q
  r1 : 1 < r
  qr : q * r = 18446744073709551616
  eq : q = 2 ^ (n % 64).toNat
  er : r = 2 ^ (64 - n % 64).toNat
theorem parts (n : Int) : Parts n (2 ^ (n % 64).toNat) (2 ^ (64 - n % 64).toNat) := by
  have h1 : 0 ≤ n % 64 := by omega
  have h2 : n % 64 < 64 := by omega
  refine ⟨?_, ?_, ?_, rfl, rfl⟩
  · have : (0 : Int) < 2 ^ (n % 64).toNat := Int.pow_pos (by omega)
    omega
  · obtain ⟨k, hk⟩ : ∃ k, (64 - n % 64).toNat = k + 1 := ⟨(64 - n % 64).toNat - 1, by omega⟩
    rw [hk, Int.pow_succ]
    have : (0 : Int) < 2 ^ k := Int.pow_pos (by omega)
    omega
  · rw [← Int.pow_add]
    have : (n % 64).toNat + (64 - n % 64).toNat = 64 := by omega
    rw [this]
    rfl

theorem min_prt {n : Int} (h : 0 ≤ n) : min (prt n).toNat 64 = (n % 64).toNat := by rw [prt_eq h]; omega
theorem min_rem {n : Int} (h : 0 ≤ n) : min (rem n).toNat 64 = (64 - n % 64).toNat := by rw [rem_eq h]; omega

/-- a = r * hi + lo: up: lo * q; down: hi -/
structure Cut (a q r hi lo : Int) : Prop where
  sum : a = r * hi + lo
  lo0 : 0 ≤ lo
  lo1 : lo < r
  hi0 : 0 ≤ hi
  hi1 : hi < q
theorem cut {a n q r : Int} (P : Parts n q r) (h0 : 0 ≤ a) (h1 : a < 18446744073709551616) : Cut a q r (a / r) (a % r) := by
  have hr : 0 < r := by have := P.r1; omega
  refine ⟨(Int.mul_ediv_add_emod a r).symm, Int.emod_nonneg _ (by omega), Int.emod_lt_of_pos _ hr, Int.ediv_nonneg h0 (by omega), ?_⟩
  apply Int.ediv_lt_of_lt_mul hr
  rw [P.qr]
  exact h1

theorem mul_le_of (x y c : Int) (hc : 0 ≤ c) (h : x ≤ y) : c * x ≤ c * y := Int.mul_le_mul_of_nonneg_left h hc

theorem up_eq {a n q r hi lo : Int} (hn : 0 ≤ n) (P : Parts n q r) (C : Cut a q r hi lo) : up a n = q * lo ∧ 0 ≤ q * lo ∧ q * lo + q ≤ 18446744073709551616 ∧ a * q = 18446744073709551616 * hi + q * lo := by
  have e : a * q = 18446744073709551616 * hi + q * lo := by
    rw [C.sum, Int.add_mul, ← P.qr, Int.mul_comm r hi, Int.mul_assoc hi r q, Int.mul_comm r q, Int.mul_comm hi (q * r), Int.mul_comm lo q]
  have b0 : 0 ≤ q * lo := Int.mul_nonneg (by have := P.q1; omega) C.lo0
  have b1 : q * lo + q ≤ 18446744073709551616 := by
    have h := mul_le_of (lo + 1) r q (by have := P.q1; omega) (by have := C.lo1; omega)
    rw [P.qr, Int.mul_add, Int.mul_one] at h
    exact h
  refine ⟨?_, b0, b1, e⟩
  unfold up
  rw [min_prt hn, ← P.eq, wrap_u64, e]
  have := P.q1
  omega
theorem dn_eq {a n q r hi lo : Int} (hn : 0 ≤ n) (P : Parts n q r) (C : Cut a q r hi lo) : dn a n = hi := by
  unfold dn
  rw [min_rem hn, ← P.er, Int.fdiv_eq_ediv_of_nonneg _ (by have := P.r1; omega), C.sum, Int.mul_comm r hi, Int.add_comm, Int.add_mul_ediv_right _ _ (by have := P.r1; omega),
    Int.ediv_eq_zero_of_lt C.lo0 C.lo1, Int.zero_add]

/-- bits that do not meet: 'or' is '+' -/
theorem orr_eq {k : Nat} {x y : Int} (hx : ∃ z : Int, x = 2 ^ k * z) (x0 : 0 ≤ x) (y0 : 0 ≤ y) (y1 : y < 2 ^ k) (hs : x + y < 18446744073709551616) : orr x y = x + y := by
  obtain ⟨z, hz⟩ := hx
  have hp : (0 : Int) < 2 ^ k := Int.pow_pos (by omega)
  have z0 : 0 ≤ z := by
    rcases Int.lt_or_le z 0 with h | h
    · have := mul_le_of z (-1) (2 ^ k) (by omega) (by omega)
      omega
    · exact h
  obtain ⟨Z, rfl⟩ := Int.eq_ofNat_of_zero_le z0
  obtain ⟨Y, rfl⟩ := Int.eq_ofNat_of_zero_le y0
  have ex : x = ((2 ^ k * Z : Nat) : Int) := by rw [hz]; simp
  have hY : Y < 2 ^ k := by
    have : ((Y : Nat) : Int) < ((2 ^ k : Nat) : Int) := by simpa using y1
    exact Int.ofNat_lt.1 this
  have hX : 2 ^ k * Z + Y < 18446744073709551616 := by
    rw [ex] at hs
    have : (((2 ^ k * Z + Y : Nat)) : Int) < 18446744073709551616 := by simpa using hs
    omega
  unfold orr
  rw [ex]
  have e1 : ∀ m : Nat, m < 18446744073709551616 → (BitVec.ofInt 64 (m : Int)).toNat = m := fun m hm => by
    simp
    omega
  rw [BitVec.toNat_or, e1 _ (by omega), e1 _ (by omega), ← Nat.two_pow_add_eq_or_of_lt hY, wrap_u64]
  have : (((2 ^ k * Z + Y : Nat)) : Int) = ((2 ^ k * Z : Nat) : Int) + (Y : Int) := by simp
  rw [this]
  omega

theorem W4.of_eq {x : W4} {N k : Int} (hx : x.ok) (h : N = x.val + 115792089237316195423570985008687907853269984665640564039457584007913129639936 * k) : W4.of N = x := by
  obtain ⟨a, b, c, d⟩ := x
  unfold W4.ok at hx
  unfold W4.val at h
  unfold W4.of
  dsimp only at *
  subst h
  refine W4.ext' ?_ ?_ ?_ ?_ <;> dsimp only <;> omega

/-! ### moved up -/
def shl0 (x : W4) (n : Int) : W4 := ⟨up x.a n, orr (up x.b n) (dn x.a n), orr (up x.c n) (dn x.b n), orr (up x.d n) (dn x.c n)⟩
def shl1 (x : W4) (n : Int) : W4 := ⟨0, up x.a n, orr (up x.b n) (dn x.a n), orr (up x.c n) (dn x.b n)⟩
def shl2 (x : W4) (n : Int) : W4 := ⟨0, 0, up x.a n, orr (up x.b n) (dn x.a n)⟩
def shl3 (x : W4) (n : Int) : W4 := ⟨0, 0, 0, up x.a n⟩

/-- what one word's two pieces are -/
theorem pieces {n : Int} (hn : 0 ≤ n) {a b : Int} (ha : 0 ≤ a ∧ a < 18446744073709551616) (hb : 0 ≤ b ∧ b < 18446744073709551616) :
    orr (up b n) (dn a n) = up b n + dn a n ∧ (0 ≤ up a n ∧ up a n < 18446744073709551616) ∧ (0 ≤ up b n + dn a n ∧ up b n + dn a n < 18446744073709551616) ∧
      a * 2 ^ (n % 64).toNat = 18446744073709551616 * dn a n + up a n := by
  have P := parts n
  have Ca := cut P ha.1 ha.2
  have Cb := cut P hb.1 hb.2
  obtain ⟨e1, b1, b2, b3⟩ := up_eq hn P Ca
  obtain ⟨f1, c1, c2, c3⟩ := up_eq hn P Cb
  have e2 := dn_eq hn P Ca
  have q1 := P.q1
  have h0 := Ca.hi0
  have h1 := Ca.hi1
  refine ⟨?_, ⟨by omega, by omega⟩, ⟨by omega, by omega⟩, by rw [e1, e2]; exact b3⟩
  rw [f1, e2]
  exact orr_eq (k := (n % 64).toNat) ⟨_, rfl⟩ c1 h0 h1 (by omega)

theorem z64 : (0 : Int) ≤ 0 ∧ (0 : Int) < 18446744073709551616 := ⟨by omega, by omega⟩
theorem pow_split (n : Int) (h0 : 0 ≤ n) (j : Nat) (hj : n / 64 = j) : (2 : Int) ^ n.toNat = 2 ^ (64 * j) * 2 ^ (n % 64).toNat := by
  rw [← Int.pow_add]
  congr 1
  omega
theorem val_mul (x : W4) (q : Int) : x.val * q = x.a * q + 18446744073709551616 * (x.b * q) + 340282366920938463463374607431768211456 * (x.c * q) + 6277101735386680763835789423207666416102355444464034512896 * (x.d * q) := by
  unfold W4.val
  rw [Int.add_mul, Int.add_mul, Int.add_mul, Int.mul_assoc, Int.mul_assoc, Int.mul_assoc]

theorem shl0_eq {x : W4} (hx : x.ok) {n : Int} (hn : 0 ≤ n) (hj : n / 64 = 0) : shl0 x n = W4.of (x.val * 2 ^ n.toNat) := by
  obtain ⟨h1, h2, h3, h4⟩ := hx
  obtain ⟨o1, u1, s1, m1⟩ := pieces hn h1 h2
  obtain ⟨o2, u2, s2, m2⟩ := pieces hn h2 h3
  obtain ⟨o3, u3, s3, m3⟩ := pieces hn h3 h4
  obtain ⟨_, u4, _, m4⟩ := pieces hn h4 h1
  have e := pow_split n hn 0 hj
  have one : (2 : Int) ^ (64 * 0) = 1 := rfl
  rw [one, Int.one_mul] at e
  refine (W4.of_eq (x := shl0 x n) (k := dn x.d n) ?_ ?_).symm
  · unfold shl0; rw [o1, o2, o3]; exact ⟨u1, s1, s2, s3⟩
  · rw [e, val_mul, m1, m2, m3, m4]; unfold shl0 W4.val; dsimp only; rw [o1, o2, o3]; omega
theorem shl1_eq {x : W4} (hx : x.ok) {n : Int} (hn : 0 ≤ n) (hj : n / 64 = 1) : shl1 x n = W4.of (x.val * 2 ^ n.toNat) := by
  obtain ⟨h1, h2, h3, h4⟩ := hx
  obtain ⟨o1, u1, s1, m1⟩ := pieces hn h1 h2
  obtain ⟨o2, u2, s2, m2⟩ := pieces hn h2 h3
  obtain ⟨_, u3, _, m3⟩ := pieces hn h3 h4
  obtain ⟨_, u4, _, m4⟩ := pieces hn h4 h1
  have e := pow_split n hn 1 hj
  have one : (2 : Int) ^ (64 * 1) = 18446744073709551616 := rfl
  rw [one] at e
  refine (W4.of_eq (x := shl1 x n) (k := dn x.c n + (18446744073709551616 * dn x.d n + up x.d n)) ?_ ?_).symm
  · unfold shl1; rw [o1, o2]; exact ⟨z64, u1, s1, s2⟩
  · rw [e, Int.mul_left_comm, val_mul, m1, m2, m3, m4]; unfold shl1 W4.val; dsimp only; rw [o1, o2]; omega
theorem shl2_eq {x : W4} (hx : x.ok) {n : Int} (hn : 0 ≤ n) (hj : n / 64 = 2) : shl2 x n = W4.of (x.val * 2 ^ n.toNat) := by
  obtain ⟨h1, h2, h3, h4⟩ := hx
  obtain ⟨o1, u1, s1, m1⟩ := pieces hn h1 h2
  obtain ⟨_, u2, _, m2⟩ := pieces hn h2 h3
  have e := pow_split n hn 2 hj
  have one : (2 : Int) ^ (64 * 2) = 340282366920938463463374607431768211456 := rfl
  rw [one] at e
  refine (W4.of_eq (x := shl2 x n) (k := dn x.b n + x.c * 2 ^ (n % 64).toNat + 18446744073709551616 * (x.d * 2 ^ (n % 64).toNat)) ?_ ?_).symm
  · unfold shl2; rw [o1]; exact ⟨z64, z64, u1, s1⟩
  · rw [e, Int.mul_left_comm, val_mul, m1, m2]; unfold shl2 W4.val; dsimp only; rw [o1]; omega
theorem shl3_eq {x : W4} (hx : x.ok) {n : Int} (hn : 0 ≤ n) (hj : n / 64 = 3) : shl3 x n = W4.of (x.val * 2 ^ n.toNat) := by
  obtain ⟨h1, h2, h3, h4⟩ := hx
  obtain ⟨_, u1, _, m1⟩ := pieces hn h1 h2
  have e := pow_split n hn 3 hj
  have one : (2 : Int) ^ (64 * 3) = 6277101735386680763835789423207666416102355444464034512896 := rfl
  rw [one] at e
  refine (W4.of_eq (x := shl3 x n) (k := dn x.a n + x.b * 2 ^ (n % 64).toNat + 18446744073709551616 * (x.c * 2 ^ (n % 64).toNat) + 340282366920938463463374607431768211456 * (x.d * 2 ^ (n % 64).toNat)) ?_ ?_).symm
  · unfold shl3; exact ⟨z64, z64, z64, u1⟩
  · rw [e, Int.mul_left_comm, val_mul, m1]; unfold shl3 W4.val; dsimp only; omega

/-! ### moved down -/
theorem orr_comm (x y : Int) : orr x y = orr y x := by unfold orr; rw [BitVec.or_comm]
structure Cut' (a q r hi lo : Int) : Prop where
  sum : a = q * hi + lo
  lo0 : 0 ≤ lo
  lo1 : lo < q
  hi0 : 0 ≤ hi
  hi1 : hi < r
theorem cut' {a n q r : Int} (P : Parts n q r) (h0 : 0 ≤ a) (h1 : a < 18446744073709551616) : Cut' a q r (a / q) (a % q) := by
  have hq : 0 < q := by have := P.q1; omega
  refine ⟨(Int.mul_ediv_add_emod a q).symm, Int.emod_nonneg _ (by omega), Int.emod_lt_of_pos _ hq, Int.ediv_nonneg h0 (by omega), ?_⟩
  apply Int.ediv_lt_of_lt_mul hq
  rw [Int.mul_comm, P.qr]
  exact h1
theorem dn'_eq {a n q r : Int} (hn : 0 ≤ n) (P : Parts n q r) : dn' a n = a / q := by
  unfold dn'
  rw [min_prt hn, ← P.eq, Int.fdiv_eq_ediv_of_nonneg _ (by have := P.q1; omega)]
theorem up'_eq {a n q r hi lo : Int} (hn : 0 ≤ n) (P : Parts n q r) (C : Cut' a q r hi lo) : up' a n = r * lo ∧ 0 ≤ r * lo ∧ r * lo + r ≤ 18446744073709551616 := by
  have e : a * r = 18446744073709551616 * hi + r * lo := by
    rw [C.sum, Int.add_mul, ← P.qr, Int.mul_right_comm q hi r, Int.mul_comm lo r]
  have b0 : 0 ≤ r * lo := Int.mul_nonneg (by have := P.r1; omega) C.lo0
  have b1 : r * lo + r ≤ 18446744073709551616 := by
    have h := mul_le_of (lo + 1) q r (by have := P.r1; omega) (by have := C.lo1; omega)
    rw [Int.mul_comm r q, P.qr, Int.mul_add, Int.mul_one] at h
    exact h
  refine ⟨?_, b0, b1⟩
  unfold up'
  rw [min_rem hn, ← P.er, wrap_u64, e]
  have := P.r1
  omega
/-- what one word's two pieces are: the word is q * down + rest; the next one's rest comes in from above -/
theorem pieces' {n : Int} (hn : 0 ≤ n) {a b : Int} (ha : 0 ≤ a ∧ a < 18446744073709551616) (hb : 0 ≤ b ∧ b < 18446744073709551616) :
    ∃ lb : Int, orr (dn' a n) (up' b n) = dn' a n + up' b n ∧ (0 ≤ dn' a n ∧ dn' a n < 18446744073709551616) ∧ (0 ≤ dn' a n + up' b n ∧ dn' a n + up' b n < 18446744073709551616) ∧
      2 ^ (n % 64).toNat * up' b n = 18446744073709551616 * lb ∧ 0 ≤ lb ∧ lb < 2 ^ (n % 64).toNat ∧ b = 2 ^ (n % 64).toNat * dn' b n + lb := by
  have P := parts n
  have Ca := cut' P ha.1 ha.2
  have Cb := cut' P hb.1 hb.2
  obtain ⟨f1, c1, c2⟩ := up'_eq hn P Cb
  have e1 := dn'_eq (a := a) hn P
  have e2 := dn'_eq (a := b) hn P
  have h0 := Ca.hi0
  have h1 := Ca.hi1
  have r1 := P.r1
  refine ⟨b % 2 ^ (n % 64).toNat, ?_, ⟨by omega, by omega⟩, ⟨by omega, by omega⟩, ?_, Cb.lo0, Cb.lo1, by rw [e2]; exact Cb.sum⟩
  · rw [orr_comm, f1, e1, Int.add_comm]
    exact orr_eq (k := (64 - n % 64).toNat) ⟨_, rfl⟩ c1 h0 h1 (by omega)
  · rw [f1, ← Int.mul_assoc, P.qr]
theorem up'_even {n : Int} (hn : 0 ≤ n) {b : Int} (hb : 0 ≤ b ∧ b < 18446744073709551616) : up' b n % 2 = 0 := by
  have P := parts n
  obtain ⟨f1, _, _⟩ := up'_eq hn P (cut' P hb.1 hb.2)
  obtain ⟨k, hk⟩ : ∃ k, (64 - n % 64).toNat = k + 1 := ⟨(64 - n % 64).toNat - 1, by omega⟩
  rw [f1, hk, Int.pow_succ, Int.mul_comm _ 2, Int.mul_assoc]
  omega
def shr0 (x : W4) (n : Int) : W4 := ⟨orr (dn' x.a n) (up' x.b n), orr (dn' x.b n) (up' x.c n), orr (dn' x.c n) (up' x.d n), dn' x.d n⟩
def shr1 (x : W4) (n : Int) : W4 := ⟨orr (dn' x.b n) (up' x.c n), orr (dn' x.c n) (up' x.d n), dn' x.d n, 0⟩
def shr2 (x : W4) (n : Int) : W4 := ⟨orr (dn' x.c n) (up' x.d n), dn' x.d n, 0, 0⟩
def shr3 (x : W4) (n : Int) : W4 := ⟨dn' x.d n, 0, 0, 0⟩
theorem ediv_of {N q m l : Int} (h : N = q * m + l) (h0 : 0 ≤ l) (h1 : l < q) : N / q = m := by
  rw [h, Int.add_comm, Int.add_mul_ediv_left _ _ (by omega), Int.ediv_eq_zero_of_lt h0 h1, Int.zero_add]
theorem shr_val {x m : W4} {n : Int} {q l : Int} (hm : m.ok) (h : x.val = q * m.val + l) (h0 : 0 ≤ l) (h1 : l < q) (hq : q = 2 ^ n.toNat) : m = W4.of (x.val / 2 ^ n.toNat) := by
  rw [← hq, ediv_of h h0 h1, W4.of_val hm]
theorem shr0_eq {x : W4} (hx : x.ok) {n : Int} (hn : 0 ≤ n) (hj : n / 64 = 0) : shr0 x n = W4.of (x.val / 2 ^ n.toNat) ∧ (shr0 x n).ok := by
  obtain ⟨h1, h2, h3, h4⟩ := hx
  obtain ⟨l1, o1, d1, s1, m1, l10, l11, e1⟩ := pieces' hn h1 h2
  obtain ⟨l2, o2, d2, s2, m2, l20, l21, e2⟩ := pieces' hn h2 h3
  obtain ⟨l3, o3, d3, s3, m3, l30, l31, e3⟩ := pieces' hn h3 h4
  obtain ⟨l4, _, d4, _, _, l40, l41, e4⟩ := pieces' hn h4 h1
  have e := pow_split n hn 0 hj
  have one : (2 : Int) ^ (64 * 0) = 1 := rfl
  rw [one, Int.one_mul] at e
  have hok : (shr0 x n).ok := by unfold shr0; rw [o1, o2, o3]; exact ⟨s1, s2, s3, d4⟩
  refine ⟨shr_val (q := 2 ^ (n % 64).toNat) (l := l4) hok ?_ l40 l41 e.symm, hok⟩
  rw [Int.mul_comm, val_mul]
  unfold shr0 W4.val
  dsimp only
  rw [o1, o2, o3]
  generalize (2 : Int) ^ (n % 64).toNat = q at *
  simp only [Int.mul_comm _ q, Int.mul_add]
  omega
theorem shr1_eq {x : W4} (hx : x.ok) {n : Int} (hn : 0 ≤ n) (hj : n / 64 = 1) : shr1 x n = W4.of (x.val / 2 ^ n.toNat) ∧ (shr1 x n).ok := by
  obtain ⟨h1, h2, h3, h4⟩ := hx
  obtain ⟨l2, o2, d2, s2, m2, l20, l21, e2⟩ := pieces' hn h2 h3
  obtain ⟨l3, o3, d3, s3, m3, l30, l31, e3⟩ := pieces' hn h3 h4
  obtain ⟨l4, _, d4, _, _, _, _, _⟩ := pieces' hn h4 h1
  obtain ⟨l5, _, _, _, _, l50, l51, e5⟩ := pieces' hn h1 h2
  have e := pow_split n hn 1 hj
  have one : (2 : Int) ^ (64 * 1) = 18446744073709551616 := rfl
  rw [one] at e
  have hok : (shr1 x n).ok := by unfold shr1; rw [o2, o3]; exact ⟨s2, s3, d4, z64⟩
  refine ⟨shr_val (q := 18446744073709551616 * 2 ^ (n % 64).toNat) (l := x.a + 18446744073709551616 * l5) hok ?_ (by omega) (by omega) e.symm, hok⟩
  rw [Int.mul_assoc, Int.mul_comm (2 ^ (n % 64).toNat), val_mul]
  unfold shr1 W4.val
  dsimp only
  rw [o2, o3]
  generalize (2 : Int) ^ (n % 64).toNat = q at *
  simp only [Int.mul_comm _ q, Int.mul_add]
  omega
theorem shr2_eq {x : W4} (hx : x.ok) {n : Int} (hn : 0 ≤ n) (hj : n / 64 = 2) : shr2 x n = W4.of (x.val / 2 ^ n.toNat) ∧ (shr2 x n).ok := by
  obtain ⟨h1, h2, h3, h4⟩ := hx
  obtain ⟨l3, o3, d3, s3, m3, l30, l31, e3⟩ := pieces' hn h3 h4
  obtain ⟨l4, _, d4, _, _, _, _, _⟩ := pieces' hn h4 h1
  obtain ⟨l5, _, _, _, _, l50, l51, e5⟩ := pieces' hn h1 h3
  have e := pow_split n hn 2 hj
  have one : (2 : Int) ^ (64 * 2) = 340282366920938463463374607431768211456 := rfl
  rw [one] at e
  have hok : (shr2 x n).ok := by unfold shr2; rw [o3]; exact ⟨s3, d4, z64, z64⟩
  refine ⟨shr_val (q := 340282366920938463463374607431768211456 * 2 ^ (n % 64).toNat) (l := x.a + 18446744073709551616 * x.b + 340282366920938463463374607431768211456 * l5) hok ?_ (by omega) (by omega) e.symm, hok⟩
  rw [Int.mul_assoc, Int.mul_comm (2 ^ (n % 64).toNat), val_mul]
  unfold shr2 W4.val
  dsimp only
  rw [o3]
  generalize (2 : Int) ^ (n % 64).toNat = q at *
  simp only [Int.mul_comm _ q, Int.mul_add]
  omega
theorem shr3_eq {x : W4} (hx : x.ok) {n : Int} (hn : 0 ≤ n) (hj : n / 64 = 3) : shr3 x n = W4.of (x.val / 2 ^ n.toNat) ∧ (shr3 x n).ok := by
  obtain ⟨h1, h2, h3, h4⟩ := hx
  obtain ⟨l4, _, d4, _, _, _, _, _⟩ := pieces' hn h4 h1
  obtain ⟨l5, _, _, _, _, l50, l51, e5⟩ := pieces' hn h1 h4
  have e := pow_split n hn 3 hj
  have one : (2 : Int) ^ (64 * 3) = 6277101735386680763835789423207666416102355444464034512896 := rfl
  rw [one] at e
  have hok : (shr3 x n).ok := by unfold shr3; exact ⟨d4, z64, z64, z64⟩
  refine ⟨shr_val (q := 6277101735386680763835789423207666416102355444464034512896 * 2 ^ (n % 64).toNat) (l := x.a + 18446744073709551616 * x.b + 340282366920938463463374607431768211456 * x.c + 6277101735386680763835789423207666416102355444464034512896 * l5) hok ?_ (by omega) (by omega) e.symm, hok⟩
  rw [Int.mul_assoc, Int.mul_comm (2 ^ (n % 64).toNat), val_mul]
  unfold shr3 W4.val
  dsimp only
  generalize (2 : Int) ^ (n % 64).toNat = q at *
  simp only [Int.mul_comm _ q]
  omega
end Go.Wd

/-
  PLAIN ARITHMETIC: words moved, told by one number; what is beyond a multiple, bit by bit.
-/
namespace Go.Wd
open Go.Rn

/-- a number of four words, as a whole number -/
def W4.nat (x : W4) : Nat := x.val.toNat
theorem W4.nat_val {x : W4} (h : x.ok) : x.val = (x.nat : Int) := by
  have := (W4.val_bd h).1
  unfold W4.nat
  omega
theorem W4.nat_lt {x : W4} (h : x.ok) : x.nat < 2 ^ 256 := by
  have := W4.val_bd h
  have e : (2 : Nat) ^ 256 = 115792089237316195423570985008687907853269984665640564039457584007913129639936 := rfl
  unfold W4.nat
  omega
def ofN (n : Nat) : W4 := W4.of (n : Int)
theorem ofN_ok (n : Nat) : (ofN n).ok := W4.ok_of _
theorem ofN_nat {n : Nat} (h : n < 2 ^ 256) : (ofN n).nat = n := by
  have e : (2 : Nat) ^ 256 = 115792089237316195423570985008687907853269984665640564039457584007913129639936 := rfl
  unfold W4.nat ofN
  rw [W4.val_of]
  omega
theorem ofN_self {x : W4} (h : x.ok) : ofN x.nat = x := by
  unfold ofN
  rw [← W4.nat_val h, W4.of_val h]
theorem of_mod (n : Int) : W4.of (n % 115792089237316195423570985008687907853269984665640564039457584007913129639936) = W4.of n := by
  unfold W4.of
  refine W4.ext' ?_ ?_ ?_ ?_ <;> dsimp only <;> omega
theorem ofN_mod (n : Nat) : ofN (n % 2 ^ 256) = ofN n := by
  have e : (2 : Nat) ^ 256 = 115792089237316195423570985008687907853269984665640564039457584007913129639936 := rfl
  unfold ofN
  rw [← of_mod (n : Int), e]
  congr 1
theorem ofN_zero : ofN 0 = ⟨0, 0, 0, 0⟩ := by rfl
theorem ofN_big {n k : Nat} (h : 256 ≤ k) : ofN (n * 2 ^ k) = ⟨0, 0, 0, 0⟩ := by
  rw [← ofN_mod]
  have : n * 2 ^ k % 2 ^ 256 = 0 := by
    obtain ⟨j, rfl⟩ : ∃ j, k = j + 256 := ⟨k - 256, by omega⟩
    rw [Nat.pow_add, ← Nat.mul_assoc, Nat.mul_mod_left]
  rw [this, ofN_zero]
theorem ofN_mul_mod (n k : Nat) : ofN (n % 2 ^ 256 * k) = ofN (n * k) := by
  rw [← ofN_mod (n % 2 ^ 256 * k), ← ofN_mod (n * k), Nat.mod_mul_mod]
theorem small_div {n k : Nat} (h : n < 2 ^ 256) (hk : 256 ≤ k) : n / 2 ^ k = 0 := by
  have := Nat.pow_le_pow_right (show 0 < 2 by omega) hk
  exact Nat.div_eq_of_lt (by omega)
theorem small_mod {n k : Nat} (h : n < 2 ^ 256) (hk : 256 ≤ k) : n % 2 ^ k = n := by
  have := Nat.pow_le_pow_right (show 0 < 2 by omega) hk
  exact Nat.mod_eq_of_lt (by omega)
theorem cast_pow (k : Nat) : ((2 : Int) ^ k) = ((2 ^ k : Nat) : Int) := by simp
/-- the size: a half more, if so -/
def tw (x : W4) (b : Bool) : Nat := 2 * x.nat + (match b with | true => 1 | false => 0)
theorem tw_div (x : W4) (b : Bool) (d : Nat) : tw x b / 2 ^ (d + 1) = x.nat / 2 ^ d := by
  unfold tw
  rw [Nat.pow_succ, Nat.mul_comm (2 ^ d) 2, ← Nat.div_div_eq_div_mul]
  congr 1
  cases b <;> simp only <;> omega
theorem tw_mod (x : W4) (b : Bool) (d : Nat) : tw x b % 2 ^ (d + 1) = 2 * (x.nat % 2 ^ d) + (match b with | true => 1 | false => 0) := by
  unfold tw
  rw [Nat.pow_succ, Nat.mul_comm (2 ^ d) 2, Nat.mod_mul]
  have e : (2 * x.nat + (match b with | true => 1 | false => 0)) / 2 = x.nat := by cases b <;> simp only <;> omega
  rw [e]
  cases b <;> simp only <;> omega
theorem tw_zero {x : W4} {b : Bool} (h : x.ok) : tw x b = 0 ↔ (eqW x ⟨0, 0, 0, 0⟩ && !b) = true := by
  have e : x.nat = 0 ↔ x = ⟨0, 0, 0, 0⟩ := by
    constructor
    · intro h0
      rw [← ofN_self h, h0, ofN_zero]
    · intro h0; rw [h0]; rfl
  rw [Bool.and_eq_true, eqW_iff, ← e]
  unfold tw
  cases b <;> simp <;> omega
/-- what is beyond, by bits: d: one bit fewer than the multiple has -/
theorem rc_none {x : W4} {d : Nat} (h : x.nat % 2 ^ d = 0) : restC (tw x false % 2 ^ (d + 1)) (2 ^ (d + 1)) = 0 := by
  rw [tw_mod, h]
  simp [restC]
theorem rc_zero {x : W4} : restC (tw x true % 2 ^ (0 + 1)) (2 ^ (0 + 1)) = 2 := by
  rw [tw_mod]
  simp [restC, Nat.mod_one]
theorem mod_bit (V j : Nat) : V % 2 ^ (j + 1) = V % 2 ^ j + 2 ^ j * (V / 2 ^ j % 2) := by rw [Nat.pow_succ, Nat.mod_mul]
theorem rc_below {x : W4} {b : Bool} {j : Nat} (h : x.nat / 2 ^ j % 2 = 0) (h0 : x.nat % 2 ^ (j + 1) ≠ 0 ∨ b = true) : restC (tw x b % 2 ^ (j + 1 + 1)) (2 ^ (j + 1 + 1)) = 1 := by
  have hp : 0 < 2 ^ j := Nat.pow_pos (by omega)
  have hm := mod_bit x.nat j
  rw [h, Nat.mul_zero, Nat.add_zero] at hm
  have hl := Nat.mod_lt x.nat hp
  rw [hm] at h0
  rw [tw_mod, hm, Nat.pow_succ, Nat.pow_succ]
  unfold restC
  cases b
  · simp only [Bool.false_eq_true, or_false] at *
    rw [if_neg (by omega), if_pos (by omega)]
  · simp only
    rw [if_neg (by omega), if_pos (by omega)]
theorem rc_above {x : W4} {b : Bool} {j : Nat} (h : x.nat / 2 ^ j % 2 = 1) (h0 : x.nat % 2 ^ j ≠ 0 ∨ b = true) : restC (tw x b % 2 ^ (j + 1 + 1)) (2 ^ (j + 1 + 1)) = 3 := by
  have hp : 0 < 2 ^ j := Nat.pow_pos (by omega)
  have hm := mod_bit x.nat j
  rw [h, Nat.mul_one] at hm
  rw [tw_mod, hm, Nat.pow_succ, Nat.pow_succ]
  unfold restC
  cases b
  · simp only [Bool.false_eq_true, or_false] at *
    rw [if_neg (by omega), if_neg (by omega), if_neg (by omega)]
  · simp only
    rw [if_neg (by omega), if_neg (by omega), if_neg (by omega)]
theorem rc_half {x : W4} {j : Nat} (h : x.nat / 2 ^ j % 2 = 1) (h0 : x.nat % 2 ^ j = 0) : restC (tw x false % 2 ^ (j + 1 + 1)) (2 ^ (j + 1 + 1)) = 2 := by
  have hp : 0 < 2 ^ j := Nat.pow_pos (by omega)
  have hm := mod_bit x.nat j
  rw [h, h0, Nat.mul_one] at hm
  rw [tw_mod, hm, Nat.pow_succ, Nat.pow_succ]
  unfold restC
  simp only
  rw [if_neg (by omega), if_neg (by omega), if_pos (by omega)]
/-- all below the first bit is nothing: then the number is told by what is above it -/
theorem back_iff {x : W4} (hx : x.ok) {j : Nat} (h : x.nat / 2 ^ j % 2 = 1) : eqW x (ofN ((2 * (x.nat / 2 ^ (j + 1)) + 1) * 2 ^ j)) = decide (x.nat % 2 ^ j = 0) := by
  have hl := W4.nat_lt hx
  have hm := mod_bit x.nat j
  rw [h, Nat.mul_one] at hm
  have hd := Nat.div_add_mod x.nat (2 ^ (j + 1))
  have e : (2 * (x.nat / 2 ^ (j + 1)) + 1) * 2 ^ j = x.nat - x.nat % 2 ^ j := by
    rw [Nat.pow_succ] at hd hm ⊢
    rw [Nat.add_mul, Nat.one_mul, Nat.mul_comm 2, Nat.mul_assoc, Nat.mul_comm 2, Nat.mul_comm]
    omega
  rw [e, Bool.eq_iff_iff, eqW_iff, decide_eq_true_eq]
  have hle : x.nat % 2 ^ j ≤ x.nat := Nat.mod_le _ _
  constructor
  · intro hh
    have := congrArg W4.nat hh
    rw [ofN_nat (by omega)] at this
    omega
  · intro hh
    rw [hh, Nat.sub_zero, ofN_self hx]
end Go.Wd

/-
  PLAIN ARITHMETIC: far below, and by modes that are none; the size told by the document.
-/
namespace Go.Rn
open Go.Nt Go.Wd

theorem far_pow {k : Nat} (hk : 300 ≤ k) : 4 * 2 ^ 256 ≤ 2 ^ k := by
  obtain ⟨j, rfl⟩ : ∃ j, k = 256 + (2 + j) := ⟨k - 258, by omega⟩
  have hj : 0 < 2 ^ j := Nat.pow_pos (by omega)
  rw [Nat.pow_add, Nat.pow_add, Nat.mul_comm 4]
  refine Nat.mul_le_mul_left _ ?_
  show 4 ≤ 4 * 2 ^ j
  omega
theorem far_rq {m : Int} {neg : Bool} {T k : Nat} (hT : T < 2 * 2 ^ 256) (hk : 300 ≤ k) : rq m neg T k = (if upR m neg false (if T = 0 then 0 else 1) = true then 1 else 0) := by
  have hp := far_pow hk
  generalize (2 : Nat) ^ 256 = P at hT hp
  have hd : T / 2 ^ k = 0 := Nat.div_eq_of_lt (by omega)
  have hm : T % 2 ^ k = T := Nat.mod_eq_of_lt (by omega)
  unfold rq
  rw [hd, hm]
  have ho : odd 0 = false := rfl
  have hr : restC T (2 ^ k) = if T = 0 then 0 else 1 := by
    unfold restC
    split
    · rfl
    · rw [if_pos (by omega)]
  rw [ho, hr]
  simp
theorem far_toQ {m : Int} {neg : Bool} {T : Nat} (hT : T < 2 * 2 ^ 256) {E F : Int} (hE : E ≤ -300) (hF : F ≤ -300) : toQ m neg T E 0 = toQ m neg T F 0 := by
  unfold toQ
  rw [if_neg (by omega), if_neg (by omega), far_rq hT (by omega), far_rq hT (by omega)]
theorem far_toL {T : Nat} (hT : T < 2 * 2 ^ 256) {E F : Int} (hE : E ≤ -300) (hF : F ≤ -300) : toL T E 0 = toL T F 0 := by
  have key : ∀ k, 300 ≤ k → T % 2 ^ k = T := fun k hk => by
    have hp := far_pow hk
    exact Nat.mod_eq_of_lt (by omega)
  unfold toL
  rw [if_neg (by omega), if_neg (by omega), key _ (by omega), key _ (by omega)]
/-- a mode, or Even -/
def mN (m : Int) : Int := if m < 0 then 0 else if m > 4 then 0 else m
theorem upR_mN (m : Int) (neg o : Bool) (c : Int) : upR (mN m) neg o c = upR m neg o c := by
  unfold mN
  by_cases h0 : m < 0
  · rw [if_pos h0]
    unfold upR
    rw [if_neg (show ¬ m = 2 by omega), if_neg (show ¬ m = 3 by omega), if_neg (show ¬ m = 4 by omega), if_neg (show ¬ m = 1 by omega)]
    simp
  · rw [if_neg h0]
    by_cases h4 : m > 4
    · rw [if_pos h4]
      unfold upR
      rw [if_neg (show ¬ m = 2 by omega), if_neg (show ¬ m = 3 by omega), if_neg (show ¬ m = 4 by omega), if_neg (show ¬ m = 1 by omega)]
      simp
    · rw [if_neg h4]
theorem toQ_mN (m : Int) (neg : Bool) (T : Nat) (E e : Int) : toQ (mN m) neg T E e = toQ m neg T E e := by
  unfold toQ rq
  simp only [upR_mN]
/-- the document's size -/
def rT (x : W4) (b : Bool) : Nat := match b with | true => 2 * x.nat + 1 | false => x.nat
def jB (b : Bool) : Int := match b with | true => 1 | false => 0
theorem rT_lt {x : W4} (hx : x.ok) (b : Bool) : rT x b < 2 * 2 ^ 256 := by
  have := W4.nat_lt hx
  unfold rT
  cases b <;> simp only <;> omega
theorem tw_toQ (m : Int) (neg : Bool) (x : W4) (b : Bool) (E e : Int) : toQ m neg (tw x b) (E - 1) e = toQ m neg (rT x b) (E - jB b) e := by
  cases b with
  | true => rfl
  | false =>
    have h := toQ_scale m neg x.nat 1 E e
    have e1 : tw x false = x.nat * 2 ^ 1 := by unfold tw; simp [Nat.mul_comm]
    rw [e1]
    simp only [rT, jB, Int.sub_zero]
    exact h
theorem tw_toL (x : W4) (b : Bool) (E e : Int) : toL (tw x b) (E - 1) e = toL (rT x b) (E - jB b) e := by
  cases b with
  | true => rfl
  | false =>
    have h := toL_scale x.nat 1 E e
    have e1 : tw x false = x.nat * 2 ^ 1 := by unfold tw; simp [Nat.mul_comm]
    rw [e1]
    simp only [rT, jB, Int.sub_zero]
    exact h
/-- a whole number of so few bits -/
theorem whole_le {m : Int} {neg : Bool} {x : W4} {b : Bool} (hx : x.ok) {E : Int} (hE : E ≤ 0) : toQ m neg (tw x b) (E - 1) 0 ≤ 2 ^ 256 := by
  have h1 := W4.nat_lt hx
  obtain ⟨d, hd⟩ : ∃ d : Nat, (0 - (E - 1)).toNat = d + 1 := ⟨(0 - (E - 1)).toNat - 1, by omega⟩
  unfold toQ
  rw [if_neg (by omega), hd]
  have h2 := (rq_bd m neg (tw x b) (d + 1)).2
  rw [tw_div] at h2
  have h3 : x.nat / 2 ^ d ≤ x.nat := Nat.div_le_self _ _
  omega
end Go.Rn
