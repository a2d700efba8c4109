/-
  What is known of the document's numbers of any size, as one table.
-/
import Derived.Test.YtbcpnpchioncbaaG13
import GoSem.Core.Sem
namespace Go.Proofs.Ytbcpnpchioncbaa
open Go.KRun Go.Nt
set_option maxRecDepth 100000

def hcW : Hc := altH 24 gUof (altH 49 gUlow (altH 56 gUbit (altH 55 gUshr (altH 23 gUshl (altH 57 gUadd (altH 27 gUsub (altH 26 gUcmp (altH 47 gUlen hcV))))))))
theorem hcW_ok : HcOk hcW := altH_ok Try.func24 rfl gUof_ok (altH_ok Try.func49 rfl gUlow_ok (altH_ok Try.func56 rfl gUbit_ok (altH_ok Try.func55 rfl gUshr_ok (altH_ok Try.func23 rfl gUshl_ok (altH_ok Try.func57 rfl gUadd_ok (altH_ok Try.func27 rfl gUsub_ok (altH_ok Try.func26 rfl gUcmp_ok (altH_ok Try.func47 rfl gUlen_ok hcV_ok))))))))
end Go.Proofs.Ytbcpnpchioncbaa

/-
  PLAIN ARITHMETIC: four words of 64 bits and the number that they are. No program is named here.
-/
namespace Go.Wd

structure W4 where
  a : Int
  b : Int
  c : Int
  d : Int

def W4.val (x : W4) : Int := x.a + 18446744073709551616 * x.b + 340282366920938463463374607431768211456 * x.c + 6277101735386680763835789423207666416102355444464034512896 * x.d
abbrev W4.ok (x : W4) : Prop := (0 ≤ x.a ∧ x.a < 18446744073709551616) ∧ (0 ≤ x.b ∧ x.b < 18446744073709551616) ∧ (0 ≤ x.c ∧ x.c < 18446744073709551616) ∧ (0 ≤ x.d ∧ x.d < 18446744073709551616)
/-- the lowest 256 bits of a number -/
def W4.of (n : Int) : W4 :=
  ⟨n % 18446744073709551616, n / 18446744073709551616 % 18446744073709551616, n / 340282366920938463463374607431768211456 % 18446744073709551616, n / 6277101735386680763835789423207666416102355444464034512896 % 18446744073709551616⟩

def eqW (x y : W4) : Bool := x.a == y.a && (x.b == y.b && (x.c == y.c && (x.d == y.d && true)))
theorem eqW_iff {x y : W4} : eqW x y = true ↔ x = y := by
  cases x; cases y; simp [eqW]
theorem W4.ext' {x y : W4} (h1 : x.a = y.a) (h2 : x.b = y.b) (h3 : x.c = y.c) (h4 : x.d = y.d) : x = y := by
  cases x; cases y; simp_all

theorem W4.ok_of (n : Int) : (W4.of n).ok := by
  unfold W4.of W4.ok
  refine ⟨⟨?_, ?_⟩, ⟨?_, ?_⟩, ⟨?_, ?_⟩, ⟨?_, ?_⟩⟩ <;> dsimp only <;> omega
theorem W4.of_val {x : W4} (h : x.ok) : W4.of x.val = x := by
  obtain ⟨a, b, c, d⟩ := x
  unfold W4.ok at h
  unfold W4.val W4.of
  dsimp only at *
  refine W4.ext' ?_ ?_ ?_ ?_ <;> dsimp only <;> omega
theorem W4.val_of (n : Int) : (W4.of n).val = n % 115792089237316195423570985008687907853269984665640564039457584007913129639936 := by
  unfold W4.val W4.of
  dsimp only
  omega
theorem W4.val_bd {x : W4} (h : x.ok) : 0 ≤ x.val ∧ x.val < 115792089237316195423570985008687907853269984665640564039457584007913129639936 := by
  obtain ⟨a, b, c, d⟩ := x
  unfold W4.ok at h
  unfold W4.val
  dsimp only at *
  omega
theorem W4.val_inj {x y : W4} (hx : x.ok) (hy : y.ok) (h : x.val = y.val) : x = y := by
  rw [← W4.of_val hx, ← W4.of_val hy, h]

/-! ### a sum -/
def ad (x y c : Int) : Int := (x + y + c) % 18446744073709551616
def ca (x y c : Int) : Int := (x + y + c) / 18446744073709551616
def addR (x y : W4) : W4 := ⟨ad x.a y.a 0, ad x.b y.b (ca x.a y.a 0), ad x.c y.c (ca x.b y.b (ca x.a y.a 0)), ad x.d y.d (ca x.c y.c (ca x.b y.b (ca x.a y.a 0)))⟩
def addC (x y : W4) : Int := ca x.d y.d (ca x.c y.c (ca x.b y.b (ca x.a y.a 0)))
theorem addR_eq {x y : W4} (hx : x.ok) (hy : y.ok) : addR x y = W4.of (x.val + y.val) := by
  obtain ⟨a, b, c, d⟩ := x
  obtain ⟨a', b', c', d'⟩ := y
  unfold W4.ok at hx hy
  unfold W4.val W4.of addR ad ca
  dsimp only at *
  refine W4.ext' ?_ ?_ ?_ ?_ <;> dsimp only <;> omega
theorem addC_eq {x y : W4} (hx : x.ok) (hy : y.ok) : (addC x y != 0) = decide (115792089237316195423570985008687907853269984665640564039457584007913129639936 ≤ x.val + y.val) := by
  obtain ⟨a, b, c, d⟩ := x
  obtain ⟨a', b', c', d'⟩ := y
  unfold W4.ok at hx hy
  unfold W4.val addC ca
  dsimp only at *
  rw [Bool.eq_iff_iff]
  simp only [bne_iff_ne, ne_eq, decide_eq_true_eq]
  omega

/-! ### a difference -/
def sb (x y c : Int) : Int := (x + 18446744073709551616 - y - c) % 18446744073709551616
def bo (x y c : Int) : Int := if x < y + c then 1 else 0
def subR (x y : W4) : W4 := ⟨sb x.a y.a 0, sb x.b y.b (bo x.a y.a 0), sb x.c y.c (bo x.b y.b (bo x.a y.a 0)), sb x.d y.d (bo x.c y.c (bo x.b y.b (bo x.a y.a 0)))⟩
def subC (x y : W4) : Int := bo x.d y.d (bo x.c y.c (bo x.b y.b (bo x.a y.a 0)))
theorem bo_01 (x y c : Int) : bo x y c = 0 ∨ bo x y c = 1 := by unfold bo; split <;> simp
theorem bo_spec (x y c : Int) : (bo x y c = 1 ∧ x < y + c) ∨ (bo x y c = 0 ∧ y + c ≤ x) := by unfold bo; split <;> omega
theorem subR_eq {x y : W4} (hx : x.ok) (hy : y.ok) : subR x y = W4.of (x.val - y.val) := by
  obtain ⟨a, b, c, d⟩ := x
  obtain ⟨a', b', c', d'⟩ := y
  unfold W4.ok at hx hy
  unfold W4.val W4.of subR sb
  dsimp only at *
  have h1 := bo_spec a a' 0
  have h2 := bo_spec b b' (bo a a' 0)
  have h3 := bo_spec c c' (bo b b' (bo a a' 0))
  generalize bo c c' (bo b b' (bo a a' 0)) = k3 at *
  generalize bo b b' (bo a a' 0) = k2 at *
  generalize bo a a' 0 = k1 at *
  refine W4.ext' ?_ ?_ ?_ ?_ <;> dsimp only <;> omega
theorem subC_eq {x y : W4} (hx : x.ok) (hy : y.ok) : (subC x y != 0) = decide (x.val < y.val) := by
  obtain ⟨a, b, c, d⟩ := x
  obtain ⟨a', b', c', d'⟩ := y
  unfold W4.ok at hx hy
  unfold W4.val subC
  dsimp only at *
  have h1 := bo_spec a a' 0
  have h2 := bo_spec b b' (bo a a' 0)
  have h3 := bo_spec c c' (bo b b' (bo a a' 0))
  have h4 := bo_spec d d' (bo c c' (bo b b' (bo a a' 0)))
  generalize bo d d' (bo c c' (bo b b' (bo a a' 0))) = k4 at *
  generalize bo c c' (bo b b' (bo a a' 0)) = k3 at *
  generalize bo b b' (bo a a' 0) = k2 at *
  generalize bo a a' 0 = k1 at *
  rw [Bool.eq_iff_iff]
  simp only [bne_iff_ne, ne_eq, decide_eq_true_eq]
  omega
end Go.Wd

/-
  PLAIN ARITHMETIC, II: words moved up and down by a part of a word, as the model's shifts write it.
-/
namespace Go.Wd

theorem wrap_u64 (n : Int) : IntKind.u64.wrap n = n % 18446744073709551616 := by simp [IntKind.wrap, IntKind.bits, IntKind.signed]
theorem wrap_u64' {n : Int} (h0 : 0 ≤ n) (h1 : n < 18446744073709551616) : IntKind.u64.wrap n = n := by rw [wrap_u64]; omega
theorem wrap_i64' {n : Int} (h0 : -9223372036854775808 ≤ n) (h1 : n ≤ 9223372036854775807) : IntKind.i64.wrap n = n := by
  simp [IntKind.wrap, IntKind.bits, IntKind.signed]; omega

def prt (n : Int) : Int := IntKind.u64.wrap (n.tmod 64)
def rem (n : Int) : Int := IntKind.u64.wrap (64 - prt n)
def up (a n : Int) : Int := IntKind.u64.wrap (a * 2 ^ min (prt n).toNat 64)
def dn (a n : Int) : Int := a.fdiv (2 ^ min (rem n).toNat 64)
/-- down by the part, up by what is left of a word -/
def dn' (a n : Int) : Int := a.fdiv (2 ^ min (prt n).toNat 64)
def up' (a n : Int) : Int := IntKind.u64.wrap (a * 2 ^ min (rem n).toNat 64)
def orr (x y : Int) : Int := IntKind.u64.wrap ((BitVec.ofInt 64 x ||| BitVec.ofInt 64 y).toNat : Nat)

theorem prt_eq {n : Int} (h : 0 ≤ n) : prt n = n % 64 := by
  unfold prt
  rw [Int.tmod_eq_emod_of_nonneg h, wrap_u64]
  omega
theorem rem_eq {n : Int} (h : 0 ≤ n) : rem n = 64 - n % 64 := by
  unfold rem
  rw [prt_eq h, wrap_u64]
  omega

/-- q = 2^p, r = 2^(64-p) -/
structure Parts (n q r : Int) : Prop where
  q1 : 1 ≤ q
  r1 : 1 < r
  qr : q * r = 18446744073709551616
  eq : q = 2 ^ (n % 64).toNat
  er : r = 2 ^ (64 - n % 64).toNat
theorem parts (n : Int) : Parts n (2 ^ (n % 64).toNat) (2 ^ (64 - n % 64).toNat) := by
  have h1 : 0 ≤ n % 64 := by omega
  have h2 : n % 64 < 64 := by omega
  refine ⟨?_, ?_, ?_, rfl, rfl⟩
  · have : (0 : Int) < 2 ^ (n % 64).toNat := Int.pow_pos (by omega)
    omega
  · obtain ⟨k, hk⟩ : ∃ k, (64 - n % 64).toNat = k + 1 := ⟨(64 - n % 64).toNat - 1, by omega⟩
    rw [hk, Int.pow_succ]
    have : (0 : Int) < 2 ^ k := Int.pow_pos (by omega)
    omega
  · rw [← Int.pow_add]
    have : (n % 64).toNat + (64 - n % 64).toNat = 64 := by omega
    rw [this]
    rfl

theorem min_prt {n : Int} (h : 0 ≤ n) : min (prt n).toNat 64 = (n % 64).toNat := by rw [prt_eq h]; omega
theorem min_rem {n : Int} (h : 0 ≤ n) : min (rem n).toNat 64 = (64 - n % 64).toNat := by rw [rem_eq h]; omega

/-- a = r * hi + lo: up: lo * q; down: hi -/
structure Cut (a q r hi lo : Int) : Prop where
  sum : a = r * hi + lo
  lo0 : 0 ≤ lo
  lo1 : lo < r
  hi0 : 0 ≤ hi
  hi1 : hi < q
theorem cut {a n q r : Int} (P : Parts n q r) (h0 : 0 ≤ a) (h1 : a < 18446744073709551616) : Cut a q r (a / r) (a % r) := by
  have hr : 0 < r := by have := P.r1; omega
  refine ⟨(Int.mul_ediv_add_emod a r).symm, Int.emod_nonneg _ (by omega), Int.emod_lt_of_pos _ hr, Int.ediv_nonneg h0 (by omega), ?_⟩
  apply Int.ediv_lt_of_lt_mul hr
  rw [P.qr]
  exact h1

theorem mul_le_of (x y c : Int) (hc : 0 ≤ c) (h : x ≤ y) : c * x ≤ c * y := Int.mul_le_mul_of_nonneg_left h hc

theorem up_eq {a n q r hi lo : Int} (hn : 0 ≤ n) (P : Parts n q r) (C : Cut a q r hi lo) : up a n = q * lo ∧ 0 ≤ q * lo ∧ q * lo + q ≤ 18446744073709551616 ∧ a * q = 18446744073709551616 * hi + q * lo := by
  have e : a * q = 18446744073709551616 * hi + q * lo := by
    rw [C.sum, Int.add_mul, ← P.qr, Int.mul_comm r hi, Int.mul_assoc hi r q, Int.mul_comm r q, Int.mul_comm hi (q * r), Int.mul_comm lo q]
  have b0 : 0 ≤ q * lo := Int.mul_nonneg (by have := P.q1; omega) C.lo0
  have b1 : q * lo + q ≤ 18446744073709551616 := by
    have h := mul_le_of (lo + 1) r q (by have := P.q1; omega) (by have := C.lo1; omega)
    rw [P.qr, Int.mul_add, Int.mul_one] at h
    exact h
  refine ⟨?_, b0, b1, e⟩
  unfold up
  rw [min_prt hn, ← P.eq, wrap_u64, e]
  have := P.q1
  omega
theorem dn_eq {a n q r hi lo : Int} (hn : 0 ≤ n) (P : Parts n q r) (C : Cut a q r hi lo) : dn a n = hi := by
  unfold dn
  rw [min_rem hn, ← P.er, Int.fdiv_eq_ediv_of_nonneg _ (by have := P.r1; omega), C.sum, Int.mul_comm r hi, Int.add_comm, Int.add_mul_ediv_right _ _ (by have := P.r1; omega),
    Int.ediv_eq_zero_of_lt C.lo0 C.lo1, Int.zero_add]

/-- bits that do not meet: 'or' is '+' -/
theorem orr_eq {k : Nat} {x y : Int} (hx : ∃ z : Int, x = 2 ^ k * z) (x0 : 0 ≤ x) (y0 : 0 ≤ y) (y1 : y < 2 ^ k) (hs : x + y < 18446744073709551616) : orr x y = x + y := by
  obtain ⟨z, hz⟩ := hx
  have hp : (0 : Int) < 2 ^ k := Int.pow_pos (by omega)
  have z0 : 0 ≤ z := by
    rcases Int.lt_or_le z 0 with h | h
    · have := mul_le_of z (-1) (2 ^ k) (by omega) (by omega)
      omega
    · exact h
  obtain ⟨Z, rfl⟩ := Int.eq_ofNat_of_zero_le z0
  obtain ⟨Y, rfl⟩ := Int.eq_ofNat_of_zero_le y0
  have ex : x = ((2 ^ k * Z : Nat) : Int) := by rw [hz]; simp
  have hY : Y < 2 ^ k := by
    have : ((Y : Nat) : Int) < ((2 ^ k : Nat) : Int) := by simpa using y1
    exact Int.ofNat_lt.1 this
  have hX : 2 ^ k * Z + Y < 18446744073709551616 := by
    rw [ex] at hs
    have : (((2 ^ k * Z + Y : Nat)) : Int) < 18446744073709551616 := by simpa using hs
    omega
  unfold orr
  rw [ex]
  have e1 : ∀ m : Nat, m < 18446744073709551616 → (BitVec.ofInt 64 (m : Int)).toNat = m := fun m hm => by
    simp
    omega
  rw [BitVec.toNat_or, e1 _ (by omega), e1 _ (by omega), ← Nat.two_pow_add_eq_or_of_lt hY, wrap_u64]
  have : (((2 ^ k * Z + Y : Nat)) : Int) = ((2 ^ k * Z : Nat) : Int) + (Y : Int) := by simp
  rw [this]
  omega

theorem W4.of_eq {x : W4} {N k : Int} (hx : x.ok) (h : N = x.val + 115792089237316195423570985008687907853269984665640564039457584007913129639936 * k) : W4.of N = x := by
  obtain ⟨a, b, c, d⟩ := x
  unfold W4.ok at hx
  unfold W4.val at h
  unfold W4.of
  dsimp only at *
  subst h
  refine W4.ext' ?_ ?_ ?_ ?_ <;> dsimp only <;> omega

/-! ### moved up -/
def shl0 (x : W4) (n : Int) : W4 := ⟨up x.a n, orr (up x.b n) (dn x.a n), orr (up x.c n) (dn x.b n), orr (up x.d n) (dn x.c n)⟩
def shl1 (x : W4) (n : Int) : W4 := ⟨0, up x.a n, orr (up x.b n) (dn x.a n), orr (up x.c n) (dn x.b n)⟩
def shl2 (x : W4) (n : Int) : W4 := ⟨0, 0, up x.a n, orr (up x.b n) (dn x.a n)⟩
def shl3 (x : W4) (n : Int) : W4 := ⟨0, 0, 0, up x.a n⟩

/-- what one word's two pieces are -/
theorem pieces {n : Int} (hn : 0 ≤ n) {a b : Int} (ha : 0 ≤ a ∧ a < 18446744073709551616) (hb : 0 ≤ b ∧ b < 18446744073709551616) :
    orr (up b n) (dn a n) = up b n + dn a n ∧ (0 ≤ up a n ∧ up a n < 18446744073709551616) ∧ (0 ≤ up b n + dn a n ∧ up b n + dn a n < 18446744073709551616) ∧
      a * 2 ^ (n % 64).toNat = 18446744073709551616 * dn a n + up a n := by
  have P := parts n
  have Ca := cut P ha.1 ha.2
  have Cb := cut P hb.1 hb.2
  obtain ⟨e1, b1, b2, b3⟩ := up_eq hn P Ca
  obtain ⟨f1, c1, c2, c3⟩ := up_eq hn P Cb
  have e2 := dn_eq hn P Ca
  have q1 := P.q1
  have h0 := Ca.hi0
  have h1 := Ca.hi1
  refine ⟨?_, ⟨by omega, by omega⟩, ⟨by omega, by omega⟩, by rw [e1, e2]; exact b3⟩
  rw [f1, e2]
  exact orr_eq (k := (n % 64).toNat) ⟨_, rfl⟩ c1 h0 h1 (by omega)

theorem z64 : (0 : Int) ≤ 0 ∧ (0 : Int) < 18446744073709551616 := ⟨by omega, by omega⟩
theorem pow_split (n : Int) (h0 : 0 ≤ n) (j : Nat) (hj : n / 64 = j) : (2 : Int) ^ n.toNat = 2 ^ (64 * j) * 2 ^ (n % 64).toNat := by
  rw [← Int.pow_add]
  congr 1
  omega
theorem val_mul (x : W4) (q : Int) : x.val * q = x.a * q + 18446744073709551616 * (x.b * q) + 340282366920938463463374607431768211456 * (x.c * q) + 6277101735386680763835789423207666416102355444464034512896 * (x.d * q) := by
  unfold W4.val
  rw [Int.add_mul, Int.add_mul, Int.add_mul, Int.mul_assoc, Int.mul_assoc, Int.mul_assoc]

theorem shl0_eq {x : W4} (hx : x.ok) {n : Int} (hn : 0 ≤ n) (hj : n / 64 = 0) : shl0 x n = W4.of (x.val * 2 ^ n.toNat) := by
  obtain ⟨h1, h2, h3, h4⟩ := hx
  obtain ⟨o1, u1, s1, m1⟩ := pieces hn h1 h2
  obtain ⟨o2, u2, s2, m2⟩ := pieces hn h2 h3
  obtain ⟨o3, u3, s3, m3⟩ := pieces hn h3 h4
  obtain ⟨_, u4, _, m4⟩ := pieces hn h4 h1
  have e := pow_split n hn 0 hj
  have one : (2 : Int) ^ (64 * 0) = 1 := rfl
  rw [one, Int.one_mul] at e
  refine (W4.of_eq (x := shl0 x n) (k := dn x.d n) ?_ ?_).symm
  · unfold shl0; rw [o1, o2, o3]; exact ⟨u1, s1, s2, s3⟩
  · rw [e, val_mul, m1, m2, m3, m4]; unfold shl0 W4.val; dsimp only; rw [o1, o2, o3]; omega
theorem shl1_eq {x : W4} (hx : x.ok) {n : Int} (hn : 0 ≤ n) (hj : n / 64 = 1) : shl1 x n = W4.of (x.val * 2 ^ n.toNat) := by
  obtain ⟨h1, h2, h3, h4⟩ := hx
  obtain ⟨o1, u1, s1, m1⟩ := pieces hn h1 h2
  obtain ⟨o2, u2, s2, m2⟩ := pieces hn h2 h3
  obtain ⟨_, u3, _, m3⟩ := pieces hn h3 h4
  obtain ⟨_, u4, _, m4⟩ := pieces hn h4 h1
  have e := pow_split n hn 1 hj
  have one : (2 : Int) ^ (64 * 1) = 18446744073709551616 := rfl
  rw [one] at e
  refine (W4.of_eq (x := shl1 x n) (k := dn x.c n + (18446744073709551616 * dn x.d n + up x.d n)) ?_ ?_).symm
  · unfold shl1; rw [o1, o2]; exact ⟨z64, u1, s1, s2⟩
  · rw [e, Int.mul_left_comm, val_mul, m1, m2, m3, m4]; unfold shl1 W4.val; dsimp only; rw [o1, o2]; omega
theorem shl2_eq {x : W4} (hx : x.ok) {n : Int} (hn : 0 ≤ n) (hj : n / 64 = 2) : shl2 x n = W4.of (x.val * 2 ^ n.toNat) := by
  obtain ⟨h1, h2, h3, h4⟩ := hx
  obtain ⟨o1, u1, s1, m1⟩ := pieces hn h1 h2
  obtain ⟨_, u2, _, m2⟩ := pieces hn h2 h3
  have e := pow_split n hn 2 hj
  have one : (2 : Int) ^ (64 * 2) = 340282366920938463463374607431768211456 := rfl
  rw [one] at e
  refine (W4.of_eq (x := shl2 x n) (k := dn x.b n + x.c * 2 ^ (n % 64).toNat + 18446744073709551616 * (x.d * 2 ^ (n % 64).toNat)) ?_ ?_).symm
  · unfold shl2; rw [o1]; exact ⟨z64, z64, u1, s1⟩
  · rw [e, Int.mul_left_comm, val_mul, m1, m2]; unfold shl2 W4.val; dsimp only; rw [o1]; omega
theorem shl3_eq {x : W4} (hx : x.ok) {n : Int} (hn : 0 ≤ n) (hj : n / 64 = 3) : shl3 x n = W4.of (x.val * 2 ^ n.toNat) := by
  obtain ⟨h1, h2, h3, h4⟩ := hx
  obtain ⟨_, u1, _, m1⟩ := pieces hn h1 h2
  have e := pow_split n hn 3 hj
  have one : (2 : Int) ^ (64 * 3) = 6277101735386680763835789423207666416102355444464034512896 := rfl
  rw [one] at e
  refine (W4.of_eq (x := shl3 x n) (k := dn x.a n + x.b * 2 ^ (n % 64).toNat + 18446744073709551616 * (x.c * 2 ^ (n % 64).toNat) + 340282366920938463463374607431768211456 * (x.d * 2 ^ (n % 64).toNat)) ?_ ?_).symm
  · unfold shl3; exact ⟨z64, z64, z64, u1⟩
  · rw [e, Int.mul_left_comm, val_mul, m1]; unfold shl3 W4.val; dsimp only; omega

/-! ### moved down -/
theorem orr_comm (x y : Int) : orr x y = orr y x := by unfold orr; rw [BitVec.or_comm]
structure Cut' (a q r hi lo : Int) : Prop where
  sum : a = q * hi + lo
  lo0 : 0 ≤ lo
  lo1 : lo < q
  hi0 : 0 ≤ hi
  hi1 : hi < r
theorem cut' {a n q r : Int} (P : Parts n q r) (h0 : 0 ≤ a) (h1 : a < 18446744073709551616) : Cut' a q r (a / q) (a % q) := by
  have hq : 0 < q := by have := P.q1; omega
  refine ⟨(Int.mul_ediv_add_emod a q).symm, Int.emod_nonneg _ (by omega), Int.emod_lt_of_pos _ hq, Int.ediv_nonneg h0 (by omega), ?_⟩
  apply Int.ediv_lt_of_lt_mul hq
  rw [Int.mul_comm, P.qr]
  exact h1
theorem dn'_eq {a n q r : Int} (hn : 0 ≤ n) (P : Parts n q r) : dn' a n = a / q := by
  unfold dn'
  rw [min_prt hn, ← P.eq, Int.fdiv_eq_ediv_of_nonneg _ (by have := P.q1; omega)]
theorem up'_eq {a n q r hi lo : Int} (hn : 0 ≤ n) (P : Parts n q r) (C : Cut' a q r hi lo) : up' a n = r * lo ∧ 0 ≤ r * lo ∧ r * lo + r ≤ 18446744073709551616 := by
  have e : a * r = 18446744073709551616 * hi + r * lo := by
    rw [C.sum, Int.add_mul, ← P.qr, Int.mul_right_comm q hi r, Int.mul_comm lo r]
  have b0 : 0 ≤ r * lo := Int.mul_nonneg (by have := P.r1; omega) C.lo0
  have b1 : r * lo + r ≤ 18446744073709551616 := by
    have h := mul_le_of (lo + 1) q r (by have := P.r1; omega) (by have := C.lo1; omega)
    rw [Int.mul_comm r q, P.qr, Int.mul_add, Int.mul_one] at h
    exact h
  refine ⟨?_, b0, b1⟩
  unfold up'
  rw [min_rem hn, ← P.er, wrap_u64, e]
  have := P.r1
  omega
/-- what one word's two pieces are: the word is q * down + rest; the next one's rest comes in from above -/
theorem pieces' {n : Int} (hn : 0 ≤ n) {a b : Int} (ha : 0 ≤ a ∧ a < 18446744073709551616) (hb : 0 ≤ b ∧ b < 18446744073709551616) :
    ∃ lb : Int, orr (dn' a n) (up' b n) = dn' a n + up' b n ∧ (0 ≤ dn' a n ∧ dn' a n < 18446744073709551616) ∧ (0 ≤ dn' a n + up' b n ∧ dn' a n + up' b n < 18446744073709551616) ∧
      2 ^ (n % 64).toNat * up' b n = 18446744073709551616 * lb ∧ 0 ≤ lb ∧ lb < 2 ^ (n % 64).toNat ∧ b = 2 ^ (n % 64).toNat * dn' b n + lb := by
  have P := parts n
  have Ca := cut' P ha.1 ha.2
  have Cb := cut' P hb.1 hb.2
  obtain ⟨f1, c1, c2⟩ := up'_eq hn P Cb
  have e1 := dn'_eq (a := a) hn P
  have e2 := dn'_eq (a := b) hn P
  have h0 := Ca.hi0
  have h1 := Ca.hi1
  have r1 := P.r1
  refine ⟨b % 2 ^ (n % 64).toNat, ?_, ⟨by omega, by omega⟩, ⟨by omega, by omega⟩, ?_, Cb.lo0, Cb.lo1, by rw [e2]; exact Cb.sum⟩
  · rw [orr_comm, f1, e1, Int.add_comm]
    exact orr_eq (k := (64 - n % 64).toNat) ⟨_, rfl⟩ c1 h0 h1 (by omega)
  · rw [f1, ← Int.mul_assoc, P.qr]
theorem up'_even {n : Int} (hn : 0 ≤ n) {b : Int} (hb : 0 ≤ b ∧ b < 18446744073709551616) : up' b n % 2 = 0 := by
  have P := parts n
  obtain ⟨f1, _, _⟩ := up'_eq hn P (cut' P hb.1 hb.2)
  obtain ⟨k, hk⟩ : ∃ k, (64 - n % 64).toNat = k + 1 := ⟨(64 - n % 64).toNat - 1, by omega⟩
  rw [f1, hk, Int.pow_succ, Int.mul_comm _ 2, Int.mul_assoc]
  omega
def shr0 (x : W4) (n : Int) : W4 := ⟨orr (dn' x.a n) (up' x.b n), orr (dn' x.b n) (up' x.c n), orr (dn' x.c n) (up' x.d n), dn' x.d n⟩
def shr1 (x : W4) (n : Int) : W4 := ⟨orr (dn' x.b n) (up' x.c n), orr (dn' x.c n) (up' x.d n), dn' x.d n, 0⟩
def shr2 (x : W4) (n : Int) : W4 := ⟨orr (dn' x.c n) (up' x.d n), dn' x.d n, 0, 0⟩
def shr3 (x : W4) (n : Int) : W4 := ⟨dn' x.d n, 0, 0, 0⟩
theorem ediv_of {N q m l : Int} (h : N = q * m + l) (h0 : 0 ≤ l) (h1 : l < q) : N / q = m := by
  rw [h, Int.add_comm, Int.add_mul_ediv_left _ _ (by omega), Int.ediv_eq_zero_of_lt h0 h1, Int.zero_add]
theorem shr_val {x m : W4} {n : Int} {q l : Int} (hm : m.ok) (h : x.val = q * m.val + l) (h0 : 0 ≤ l) (h1 : l < q) (hq : q = 2 ^ n.toNat) : m = W4.of (x.val / 2 ^ n.toNat) := by
  rw [← hq, ediv_of h h0 h1, W4.of_val hm]
theorem shr0_eq {x : W4} (hx : x.ok) {n : Int} (hn : 0 ≤ n) (hj : n / 64 = 0) : shr0 x n = W4.of (x.val / 2 ^ n.toNat) ∧ (shr0 x n).ok := by
  obtain ⟨h1, h2, h3, h4⟩ := hx
  obtain ⟨l1, o1, d1, s1, m1, l10, l11, e1⟩ := pieces' hn h1 h2
  obtain ⟨l2, o2, d2, s2, m2, l20, l21, e2⟩ := pieces' hn h2 h3
  obtain ⟨l3, o3, d3, s3, m3, l30, l31, e3⟩ := pieces' hn h3 h4
  obtain ⟨l4, _, d4, _, _, l40, l41, e4⟩ := pieces' hn h4 h1
  have e := pow_split n hn 0 hj
  have one : (2 : Int) ^ (64 * 0) = 1 := rfl
  rw [one, Int.one_mul] at e
  have hok : (shr0 x n).ok := by unfold shr0; rw [o1, o2, o3]; exact ⟨s1, s2, s3, d4⟩
  refine ⟨shr_val (q := 2 ^ (n % 64).toNat) (l := l4) hok ?_ l40 l41 e.symm, hok⟩
  rw [Int.mul_comm, val_mul]
  unfold shr0 W4.val
  dsimp only
  rw [o1, o2, o3]
  generalize (2 : Int) ^ (n % 64).toNat = q at *
  simp only [Int.mul_comm _ q, Int.mul_add]
  omega
theorem shr1_eq {x : W4} (hx : x.ok) {n : Int} (hn : 0 ≤ n) (hj : n / 64 = 1) : shr1 x n = W4.of (x.val / 2 ^ n.toNat) ∧ (shr1 x n).ok := by
  obtain ⟨h1, h2, h3, h4⟩ := hx
  obtain ⟨l2, o2, d2, s2, m2, l20, l21, e2⟩ := pieces' hn h2 h3
  obtain ⟨l3, o3, d3, s3, m3, l30, l31, e3⟩ := pieces' hn h3 h4
  obtain ⟨l4, _, d4, _, _, _, _, _⟩ := pieces' hn h4 h1
  obtain ⟨l5, _, _, _, _, l50, l51, e5⟩ := pieces' hn h1 h2
  have e := pow_split n hn 1 hj
  have one : (2 : Int) ^ (64 * 1) = 18446744073709551616 := rfl
  rw [one] at e
  have hok : (shr1 x n).ok := by unfold shr1; rw [o2, o3]; exact ⟨s2, s3, d4, z64⟩
  refine ⟨shr_val (q := 18446744073709551616 * 2 ^ (n % 64).toNat) (l := x.a + 18446744073709551616 * l5) hok ?_ (by omega) (by omega) e.symm, hok⟩
  rw [Int.mul_assoc, Int.mul_comm (2 ^ (n % 64).toNat), val_mul]
  unfold shr1 W4.val
  dsimp only
  rw [o2, o3]
  generalize (2 : Int) ^ (n % 64).toNat = q at *
  simp only [Int.mul_comm _ q, Int.mul_add]
  omega
theorem shr2_eq {x : W4} (hx : x.ok) {n : Int} (hn : 0 ≤ n) (hj : n / 64 = 2) : shr2 x n = W4.of (x.val / 2 ^ n.toNat) ∧ (shr2 x n).ok := by
  obtain ⟨h1, h2, h3, h4⟩ := hx
  obtain ⟨l3, o3, d3, s3, m3, l30, l31, e3⟩ := pieces' hn h3 h4
  obtain ⟨l4, _, d4, _, _, _, _, _⟩ := pieces' hn h4 h1
  obtain ⟨l5, _, _, _, _, l50, l51, e5⟩ := pieces' hn h1 h3
  have e := pow_split n hn 2 hj
  have one : (2 : Int) ^ (64 * 2) = 340282366920938463463374607431768211456 := rfl
  rw [one] at e
  have hok : (shr2 x n).ok := by unfold shr2; rw [o3]; exact ⟨s3, d4, z64, z64⟩
  refine ⟨shr_val (q := 340282366920938463463374607431768211456 * 2 ^ (n % 64).toNat) (l := x.a + 18446744073709551616 * x.b + 340282366920938463463374607431768211456 * l5) hok ?_ (by omega) (by omega) e.symm, hok⟩
  rw [Int.mul_assoc, Int.mul_comm (2 ^ (n % 64).toNat), val_mul]
  unfold shr2 W4.val
  dsimp only
  rw [o3]
  generalize (2 : Int) ^ (n % 64).toNat = q at *
  simp only [Int.mul_comm _ q, Int.mul_add]
  omega
theorem shr3_eq {x : W4} (hx : x.ok) {n : Int} (hn : 0 ≤ n) (hj : n / 64 = 3) : shr3 x n = W4.of (x.val / 2 ^ n.toNat) ∧ (shr3 x n).ok := by
  obtain ⟨h1, h2, h3, h4⟩ := hx
  obtain ⟨l4, _, d4, _, _, _, _, _⟩ := pieces' hn h4 h1
  obtain ⟨l5, _, _, _, _, l50, l51, e5⟩ := pieces' hn h1 h4
  have e := pow_split n hn 3 hj
  have one : (2 : Int) ^ (64 * 3) = 6277101735386680763835789423207666416102355444464034512896 := rfl
  rw [one] at e
  have hok : (shr3 x n).ok := by unfold shr3; exact ⟨d4, z64, z64, z64⟩
  refine ⟨shr_val (q := 6277101735386680763835789423207666416102355444464034512896 * 2 ^ (n % 64).toNat) (l := x.a + 18446744073709551616 * x.b + 340282366920938463463374607431768211456 * x.c + 6277101735386680763835789423207666416102355444464034512896 * l5) hok ?_ (by omega) (by omega) e.symm, hok⟩
  rw [Int.mul_assoc, Int.mul_comm (2 ^ (n % 64).toNat), val_mul]
  unfold shr3 W4.val
  dsimp only
  generalize (2 : Int) ^ (n % 64).toNat = q at *
  simp only [Int.mul_comm _ q]
  omega
end Go.Wd
