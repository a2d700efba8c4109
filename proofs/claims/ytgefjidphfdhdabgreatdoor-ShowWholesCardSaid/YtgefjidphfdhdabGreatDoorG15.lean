/-
  NumY, Num, Num2, NumX4, NumR4, NumR5, NumF, NumG, NumH, NumPr, NumQu, NumRd
-/
import Derived.Test.YtgefjidphfdhdabGreatDoorG14
namespace Go.Rn
open Go.Pt
/-! ### how great a multiple's number is -/
theorem toQ_le {m : Int} {neg : Bool} {T : Nat} {E e : Int} {n : Nat} (h : (bitLen T : Int) + (E - e) ≤ n) : toQ m neg T E e ≤ 2 ^ n := by
  have a1 := (bitLen_spec T).1
  unfold toQ
  by_cases he : e ≤ E
  · rw [if_pos he]
    have hp : 0 < 2 ^ (E - e).toNat := Nat.pow_pos (by omega)
    have := Nat.mul_le_mul_right (2 ^ (E - e).toNat) (Nat.le_of_lt a1)
    rw [← Nat.pow_add] at this
    have h2 := Nat.pow_le_pow_right (show 0 < 2 by omega) (show bitLen T + (E - e).toNat ≤ n by omega)
    omega
  · rw [if_neg he]
    have b := (rq_bd m neg T (e - E).toNat).2
    have h2 := Nat.pow_le_pow_right (show 0 < 2 by omega) (show bitLen T ≤ n + (e - E).toNat by omega)
    have h3 : T / 2 ^ (e - E).toNat < 2 ^ n := by
      apply Nat.div_lt_of_lt_mul
      rw [Nat.pow_add, Nat.mul_comm] at h2
      omega
    omega
theorem toQ_ge {m : Int} {neg : Bool} {T : Nat} {E e : Int} {n : Nat} (hT : T ≠ 0) (h : (n : Int) + 1 ≤ (bitLen T : Int) + (E - e)) : 2 ^ n ≤ toQ m neg T E e := by
  have a2 := (bitLen_spec T).2 hT
  have a3 := len_pos hT
  unfold toQ
  by_cases he : e ≤ E
  · rw [if_pos he]
    have := Nat.mul_le_mul_right (2 ^ (E - e).toNat) a2
    rw [← Nat.pow_add] at this
    have h2 := Nat.pow_le_pow_right (show 0 < 2 by omega) (show n ≤ bitLen T - 1 + (E - e).toNat by omega)
    omega
  · rw [if_neg he]
    have b := (rq_bd m neg T (e - E).toNat).1
    have hp : 0 < 2 ^ (e - E).toNat := Nat.pow_pos (by omega)
    have h2 := Nat.pow_le_pow_right (show 0 < 2 by omega) (show n + (e - E).toNat ≤ bitLen T - 1 by omega)
    have h3 : 2 ^ n ≤ T / 2 ^ (e - E).toNat := by
      rw [Nat.le_div_iff_mul_le hp, ← Nat.pow_add]
      omega
    omega
theorem low_hi (m : Int) (neg : Bool) (T : Nat) (E : Int) : toQ m neg T E (lowE T E) ≤ 9007199254740992 := by
  refine toQ_le (n := 53) ?_
  unfold lowE lgN
  split <;> omega
theorem low_lo {m : Int} {neg : Bool} {T : Nat} {E : Int} (hT : T ≠ 0) (h : -1074 ≤ lgN T E - 52) : 4503599627370496 ≤ toQ m neg T E (lowE T E) := by
  refine toQ_ge (n := 52) hT ?_
  unfold lowE lgN at *
  split <;> omega
/-! ### order -/
theorem toQ_mono {m : Int} {neg : Bool} {T U : Nat} {E : Int} (e : Int) (h : T ≤ U) : toQ m neg T E e ≤ toQ m neg U E e := by
  unfold toQ
  split
  · exact Nat.mul_le_mul_right _ h
  · exact rq_mono _ h
theorem lgN_mono {T U : Nat} (E : Int) (h : T ≤ U) : lgN T E ≤ lgN U E := by
  have := len_mono h
  unfold lgN
  omega
theorem p0_mono {m : Int} {neg : Bool} {T U : Nat} {E : Int} (hT : T ≠ 0) (h : T ≤ U) : p0 m neg T E ≤ p0 m neg U E := by
  have hl := lgN_mono E h
  unfold p0
  by_cases he : lowE T E = lowE U E
  · rw [he]
    have := toQ_mono (m := m) (neg := neg) (E := E) (lowE U E) h
    omega
  · have h1 := low_hi m neg T E
    have h3 : -1074 ≤ lgN U E - 52 ∧ lowE T E + 1 ≤ lowE U E := by
      unfold lowE at he ⊢
      split at he <;> split at he <;> (try split) <;> (try split) <;> omega
    have h2 := low_lo (m := m) (neg := neg) (T := U) (E := E) (by omega) h3.1
    omega
theorem lowE_ge (T : Nat) (E : Int) : -1074 ≤ lowE T E := by unfold lowE; split <;> omega
theorem p0_nonneg (m : Int) (neg : Bool) (T : Nat) (E : Int) : 0 ≤ p0 m neg T E := by
  have := lowE_ge T E
  unfold p0
  omega
theorem bey_or (m : Int) (neg : Bool) : bey m neg = 9218868437227405312 ∨ bey m neg = 9218868437227405311 := by unfold bey; split <;> simp
theorem rnP_bd (m : Int) (neg : Bool) (T : Nat) (E : Int) : 0 ≤ rnP m neg T E ∧ rnP m neg T E ≤ 9218868437227405312 := by
  have h := p0_nonneg m neg T E
  have hb := bey_or m neg
  unfold rnP
  split
  · omega
  · split <;> omega
theorem rnP_mono {m : Int} {neg : Bool} {T U : Nat} {E : Int} (h : T ≤ U) : rnP m neg T E ≤ rnP m neg U E := by
  have hU := rnP_bd m neg U E
  by_cases hT : T = 0
  · unfold rnP at *
    rw [if_pos hT]
    exact hU.1
  · have hp := p0_mono (m := m) (neg := neg) (E := E) hT h
    have hb := bey_or m neg
    unfold rnP
    rw [if_neg hT, if_neg (show ¬ U = 0 by omega)]
    split <;> split <;> omega
/-! ### between -/
/-! ### a pattern's own number -/
theorem own_eq {m : Int} {neg : Bool} {S : Nat} {x : Int} (hx : -1074 ≤ x) (hS : S < 9007199254740992) (h : x = -1074 ∨ 4503599627370496 ≤ S) (hb : (x + 1074) * 4503599627370496 + (S : Int) < 9218868437227405312) (h0 : S = 0 → x = -1074) :
    rnP m neg S x = (x + 1074) * 4503599627370496 + (S : Int) ∧ rnF m neg S x = 0 := by
  by_cases hz : S = 0
  · have := h0 hz
    subst hz
    subst this
    simp [rnP, rnF]
  · have hl : bitLen S ≤ 53 := len_le hS
    have he : lowE S x = x := by
      unfold lowE lgN
      rcases h with h | h
      · rw [if_pos (by omega)]; omega
      · have := le_len (T := S) (k := 52) h
        split <;> omega
    have hq : ∀ n, toQ n neg S x x = S := fun n => by unfold toQ; rw [if_pos (by omega), Int.sub_self]; simp
    have ht : toL S x x = false := by unfold toL; rw [if_pos (by omega)]
    unfold rnP rnF p0
    rw [he, hq, ht, if_neg hz, if_neg hz, if_neg (by omega), if_neg (by omega)]
    simp
theorem own_pat {m : Int} {neg : Bool} {p : Int} (h : ex p ≠ 2047) : rnP m neg (sg p).toNat (xp p) = mag p ∧ rnF m neg (sg p).toNat (xp p) = 0 := by
  have h1 := ex_lt p
  have h2 := fr_lt p
  have h3 := ex_mag p
  have h4 : mag p = 4503599627370496 * ex p + fr p := by unfold mag ex fr; omega
  unfold sg xp
  by_cases h0 : ex p = 0
  · simp only [if_pos h0]
    obtain ⟨a, b⟩ := own_eq (m := m) (neg := neg) (S := (fr p).toNat) (x := -1074) (by omega) (by omega) (by omega) (by omega) (by omega)
    refine ⟨?_, b⟩
    rw [a]
    omega
  · simp only [if_neg h0, if_neg h]
    obtain ⟨a, b⟩ := own_eq (m := m) (neg := neg) (S := (fr p + 4503599627370496).toNat) (x := ex p - 1075) (by omega) (by omega) (by omega) (by omega) (by omega)
    refine ⟨?_, b⟩
    rw [a]
    omega
end Go.Rn
namespace Go.Wd
structure W4 where
  a : Int
  b : Int
  c : Int
  d : Int
def W4.val (x : W4) : Int := x.a + 18446744073709551616 * x.b + 340282366920938463463374607431768211456 * x.c + 6277101735386680763835789423207666416102355444464034512896 * x.d
abbrev W4.ok (x : W4) : Prop := (0 ≤ x.a ∧ x.a < 18446744073709551616) ∧ (0 ≤ x.b ∧ x.b < 18446744073709551616) ∧ (0 ≤ x.c ∧ x.c < 18446744073709551616) ∧ (0 ≤ x.d ∧ x.d < 18446744073709551616)
/-- the lowest 256 bits of a number -/
def W4.of (n : Int) : W4 :=
  ⟨n % 18446744073709551616, n / 18446744073709551616 % 18446744073709551616, n / 340282366920938463463374607431768211456 % 18446744073709551616, n / 6277101735386680763835789423207666416102355444464034512896 % 18446744073709551616⟩
def eqW (x y : W4) : Bool := x.a == y.a && (x.b == y.b && (x.c == y.c && (x.d == y.d && true)))
theorem eqW_iff {x y : W4} : eqW x y = true ↔ x = y := by
  cases x; cases y; simp [eqW]
theorem W4.ext' {x y : W4} (h1 : x.a = y.a) (h2 : x.b = y.b) (h3 : x.c = y.c) (h4 : x.d = y.d) : x = y := by
  cases x; cases y; simp_all
theorem W4.ok_of (n : Int) : (W4.of n).ok := by
  unfold W4.of W4.ok
  refine ⟨⟨?_, ?_⟩, ⟨?_, ?_⟩, ⟨?_, ?_⟩, ⟨?_, ?_⟩⟩ <;> dsimp only <;> omega
theorem W4.of_val {x : W4} (h : x.ok) : W4.of x.val = x := by
  obtain ⟨a, b, c, d⟩ := x
  unfold W4.ok at h
  unfold W4.val W4.of
  dsimp only at *
  refine W4.ext' ?_ ?_ ?_ ?_ <;> dsimp only <;> omega
theorem W4.val_of (n : Int) : (W4.of n).val = n % 115792089237316195423570985008687907853269984665640564039457584007913129639936 := by
  unfold W4.val W4.of
  dsimp only
  omega
theorem W4.val_bd {x : W4} (h : x.ok) : 0 ≤ x.val ∧ x.val < 115792089237316195423570985008687907853269984665640564039457584007913129639936 := by
  obtain ⟨a, b, c, d⟩ := x
  unfold W4.ok at h
  unfold W4.val
  dsimp only at *
  omega
theorem W4.val_inj {x y : W4} (hx : x.ok) (hy : y.ok) (h : x.val = y.val) : x = y := by
  rw [← W4.of_val hx, ← W4.of_val hy, h]
/-! ### a sum -/
def ad (x y c : Int) : Int := (x + y + c) % 18446744073709551616
def ca (x y c : Int) : Int := (x + y + c) / 18446744073709551616
def addR (x y : W4) : W4 := ⟨ad x.a y.a 0, ad x.b y.b (ca x.a y.a 0), ad x.c y.c (ca x.b y.b (ca x.a y.a 0)), ad x.d y.d (ca x.c y.c (ca x.b y.b (ca x.a y.a 0)))⟩
def addC (x y : W4) : Int := ca x.d y.d (ca x.c y.c (ca x.b y.b (ca x.a y.a 0)))
theorem addR_eq {x y : W4} (hx : x.ok) (hy : y.ok) : addR x y = W4.of (x.val + y.val) := by
  obtain ⟨a, b, c, d⟩ := x
  obtain ⟨a', b', c', d'⟩ := y
  unfold W4.ok at hx hy
  unfold W4.val W4.of addR ad ca
  dsimp only at *
  refine W4.ext' ?_ ?_ ?_ ?_ <;> dsimp only <;> omega
theorem addC_eq {x y : W4} (hx : x.ok) (hy : y.ok) : (addC x y != 0) = decide (115792089237316195423570985008687907853269984665640564039457584007913129639936 ≤ x.val + y.val) := by
  obtain ⟨a, b, c, d⟩ := x
  obtain ⟨a', b', c', d'⟩ := y
  unfold W4.ok at hx hy
  unfold W4.val addC ca
  dsimp only at *
  rw [Bool.eq_iff_iff]
  simp only [bne_iff_ne, ne_eq, decide_eq_true_eq]
  omega
/-! ### a difference -/
theorem wrap_u64 (n : Int) : IntKind.u64.wrap n = n % 18446744073709551616 := by simp [IntKind.wrap, IntKind.bits, IntKind.signed]
theorem wrap_i64' {n : Int} (h0 : -9223372036854775808 ≤ n) (h1 : n ≤ 9223372036854775807) : IntKind.i64.wrap n = n := by
  simp [IntKind.wrap, IntKind.bits, IntKind.signed]; omega
def prt (n : Int) : Int := IntKind.u64.wrap (n.tmod 64)
def rem (n : Int) : Int := IntKind.u64.wrap (64 - prt n)
def up (a n : Int) : Int := IntKind.u64.wrap (a * 2 ^ min (prt n).toNat 64)
def dn (a n : Int) : Int := a.fdiv (2 ^ min (rem n).toNat 64)
/-- down by the part, up by what is left of a word -/
def dn' (a n : Int) : Int := a.fdiv (2 ^ min (prt n).toNat 64)
def up' (a n : Int) : Int := IntKind.u64.wrap (a * 2 ^ min (rem n).toNat 64)
def orr (x y : Int) : Int := IntKind.u64.wrap ((BitVec.ofInt 64 x ||| BitVec.ofInt 64 y).toNat : Nat)
theorem prt_eq {n : Int} (h : 0 ≤ n) : prt n = n % 64 := by
  unfold prt
  rw [Int.tmod_eq_emod_of_nonneg h, wrap_u64]
  omega
theorem rem_eq {n : Int} (h : 0 ≤ n) : rem n = 64 - n % 64 := by
  unfold rem
  rw [prt_eq h, wrap_u64]
  omega
/-- q = 2^p, r = 2^(64-p) -/
structure Parts (n q r : Int) : Prop where
  q1 : 1 ≤ q
  r1 : 1 < r
  qr : q * r = 18446744073709551616
  eq : q = 2 ^ (n % 64).toNat
  er : r = 2 ^ (64 - n % 64).toNat
theorem parts (n : Int) : Parts n (2 ^ (n % 64).toNat) (2 ^ (64 - n % 64).toNat) := by
  have h1 : 0 ≤ n % 64 := by omega
  have h2 : n % 64 < 64 := by omega
  refine ⟨?_, ?_, ?_, rfl, rfl⟩
  · have : (0 : Int) < 2 ^ (n % 64).toNat := Int.pow_pos (by omega)
    omega
  · obtain ⟨k, hk⟩ : ∃ k, (64 - n % 64).toNat = k + 1 := ⟨(64 - n % 64).toNat - 1, by omega⟩
    rw [hk, Int.pow_succ]
    have : (0 : Int) < 2 ^ k := Int.pow_pos (by omega)
    omega
  · rw [← Int.pow_add]
    have : (n % 64).toNat + (64 - n % 64).toNat = 64 := by omega
    rw [this]
    rfl
theorem min_prt {n : Int} (h : 0 ≤ n) : min (prt n).toNat 64 = (n % 64).toNat := by rw [prt_eq h]; omega
theorem min_rem {n : Int} (h : 0 ≤ n) : min (rem n).toNat 64 = (64 - n % 64).toNat := by rw [rem_eq h]; omega
/-- a = r * hi + lo: up: lo * q; down: hi -/
structure Cut (a q r hi lo : Int) : Prop where
  sum : a = r * hi + lo
  lo0 : 0 ≤ lo
  lo1 : lo < r
  hi0 : 0 ≤ hi
  hi1 : hi < q
theorem cut {a n q r : Int} (P : Parts n q r) (h0 : 0 ≤ a) (h1 : a < 18446744073709551616) : Cut a q r (a / r) (a % r) := by
  have hr : 0 < r := by have := P.r1; omega
  refine ⟨(Int.mul_ediv_add_emod a r).symm, Int.emod_nonneg _ (by omega), Int.emod_lt_of_pos _ hr, Int.ediv_nonneg h0 (by omega), ?_⟩
  apply Int.ediv_lt_of_lt_mul hr
  rw [P.qr]
  exact h1
theorem mul_le_of (x y c : Int) (hc : 0 ≤ c) (h : x ≤ y) : c * x ≤ c * y := Int.mul_le_mul_of_nonneg_left h hc
theorem up_eq {a n q r hi lo : Int} (hn : 0 ≤ n) (P : Parts n q r) (C : Cut a q r hi lo) : up a n = q * lo ∧ 0 ≤ q * lo ∧ q * lo + q ≤ 18446744073709551616 ∧ a * q = 18446744073709551616 * hi + q * lo := by
  have e : a * q = 18446744073709551616 * hi + q * lo := by
    rw [C.sum, Int.add_mul, ← P.qr, Int.mul_comm r hi, Int.mul_assoc hi r q, Int.mul_comm r q, Int.mul_comm hi (q * r), Int.mul_comm lo q]
  have b0 : 0 ≤ q * lo := Int.mul_nonneg (by have := P.q1; omega) C.lo0
  have b1 : q * lo + q ≤ 18446744073709551616 := by
    have h := mul_le_of (lo + 1) r q (by have := P.q1; omega) (by have := C.lo1; omega)
    rw [P.qr, Int.mul_add, Int.mul_one] at h
    exact h
  refine ⟨?_, b0, b1, e⟩
  unfold up
  rw [min_prt hn, ← P.eq, wrap_u64, e]
  have := P.q1
  omega
theorem dn_eq {a n q r hi lo : Int} (hn : 0 ≤ n) (P : Parts n q r) (C : Cut a q r hi lo) : dn a n = hi := by
  unfold dn
  rw [min_rem hn, ← P.er, Int.fdiv_eq_ediv_of_nonneg _ (by have := P.r1; omega), C.sum, Int.mul_comm r hi, Int.add_comm, Int.add_mul_ediv_right _ _ (by have := P.r1; omega),
    Int.ediv_eq_zero_of_lt C.lo0 C.lo1, Int.zero_add]
/-- bits that do not meet: 'or' is '+' -/
theorem orr_eq {k : Nat} {x y : Int} (hx : ∃ z : Int, x = 2 ^ k * z) (x0 : 0 ≤ x) (y0 : 0 ≤ y) (y1 : y < 2 ^ k) (hs : x + y < 18446744073709551616) : orr x y = x + y := by
  obtain ⟨z, hz⟩ := hx
  have hp : (0 : Int) < 2 ^ k := Int.pow_pos (by omega)
  have z0 : 0 ≤ z := by
    rcases Int.lt_or_le z 0 with h | h
    · have := mul_le_of z (-1) (2 ^ k) (by omega) (by omega)
      omega
    · exact h
  obtain ⟨Z, rfl⟩ := Int.eq_ofNat_of_zero_le z0
  obtain ⟨Y, rfl⟩ := Int.eq_ofNat_of_zero_le y0
  have ex : x = ((2 ^ k * Z : Nat) : Int) := by rw [hz]; simp
  have hY : Y < 2 ^ k := by
    have : ((Y : Nat) : Int) < ((2 ^ k : Nat) : Int) := by simpa using y1
    exact Int.ofNat_lt.1 this
  have hX : 2 ^ k * Z + Y < 18446744073709551616 := by
    rw [ex] at hs
    have : (((2 ^ k * Z + Y : Nat)) : Int) < 18446744073709551616 := by simpa using hs
    omega
  unfold orr
  rw [ex]
  have e1 : ∀ m : Nat, m < 18446744073709551616 → (BitVec.ofInt 64 (m : Int)).toNat = m := fun m hm => by
    simp
    omega
  rw [BitVec.toNat_or, e1 _ (by omega), e1 _ (by omega), ← Nat.two_pow_add_eq_or_of_lt hY, wrap_u64]
  have : (((2 ^ k * Z + Y : Nat)) : Int) = ((2 ^ k * Z : Nat) : Int) + (Y : Int) := by simp
  rw [this]
  omega
theorem W4.of_eq {x : W4} {N k : Int} (hx : x.ok) (h : N = x.val + 115792089237316195423570985008687907853269984665640564039457584007913129639936 * k) : W4.of N = x := by
  obtain ⟨a, b, c, d⟩ := x
  unfold W4.ok at hx
  unfold W4.val at h
  unfold W4.of
  dsimp only at *
  subst h
  refine W4.ext' ?_ ?_ ?_ ?_ <;> dsimp only <;> omega
/-! ### moved up -/
def shl0 (x : W4) (n : Int) : W4 := ⟨up x.a n, orr (up x.b n) (dn x.a n), orr (up x.c n) (dn x.b n), orr (up x.d n) (dn x.c n)⟩
def shl1 (x : W4) (n : Int) : W4 := ⟨0, up x.a n, orr (up x.b n) (dn x.a n), orr (up x.c n) (dn x.b n)⟩
def shl2 (x : W4) (n : Int) : W4 := ⟨0, 0, up x.a n, orr (up x.b n) (dn x.a n)⟩
def shl3 (x : W4) (n : Int) : W4 := ⟨0, 0, 0, up x.a n⟩
/-- what one word's two pieces are -/
theorem pieces {n : Int} (hn : 0 ≤ n) {a b : Int} (ha : 0 ≤ a ∧ a < 18446744073709551616) (hb : 0 ≤ b ∧ b < 18446744073709551616) :
    orr (up b n) (dn a n) = up b n + dn a n ∧ (0 ≤ up a n ∧ up a n < 18446744073709551616) ∧ (0 ≤ up b n + dn a n ∧ up b n + dn a n < 18446744073709551616) ∧
      a * 2 ^ (n % 64).toNat = 18446744073709551616 * dn a n + up a n := by
  have P := parts n
  have Ca := cut P ha.1 ha.2
  have Cb := cut P hb.1 hb.2
  obtain ⟨e1, b1, b2, b3⟩ := up_eq hn P Ca
  obtain ⟨f1, c1, c2, c3⟩ := up_eq hn P Cb
  have e2 := dn_eq hn P Ca
  have q1 := P.q1
  have h0 := Ca.hi0
  have h1 := Ca.hi1
  refine ⟨?_, ⟨by omega, by omega⟩, ⟨by omega, by omega⟩, by rw [e1, e2]; exact b3⟩
  rw [f1, e2]
  exact orr_eq (k := (n % 64).toNat) ⟨_, rfl⟩ c1 h0 h1 (by omega)
theorem z64 : (0 : Int) ≤ 0 ∧ (0 : Int) < 18446744073709551616 := ⟨by omega, by omega⟩
theorem pow_split (n : Int) (h0 : 0 ≤ n) (j : Nat) (hj : n / 64 = j) : (2 : Int) ^ n.toNat = 2 ^ (64 * j) * 2 ^ (n % 64).toNat := by
  rw [← Int.pow_add]
  congr 1
  omega
theorem val_mul (x : W4) (q : Int) : x.val * q = x.a * q + 18446744073709551616 * (x.b * q) + 340282366920938463463374607431768211456 * (x.c * q) + 6277101735386680763835789423207666416102355444464034512896 * (x.d * q) := by
  unfold W4.val
  rw [Int.add_mul, Int.add_mul, Int.add_mul, Int.mul_assoc, Int.mul_assoc, Int.mul_assoc]
theorem shl0_eq {x : W4} (hx : x.ok) {n : Int} (hn : 0 ≤ n) (hj : n / 64 = 0) : shl0 x n = W4.of (x.val * 2 ^ n.toNat) := by
  obtain ⟨h1, h2, h3, h4⟩ := hx
  obtain ⟨o1, u1, s1, m1⟩ := pieces hn h1 h2
  obtain ⟨o2, u2, s2, m2⟩ := pieces hn h2 h3
  obtain ⟨o3, u3, s3, m3⟩ := pieces hn h3 h4
  obtain ⟨_, u4, _, m4⟩ := pieces hn h4 h1
  have e := pow_split n hn 0 hj
  have one : (2 : Int) ^ (64 * 0) = 1 := rfl
  rw [one, Int.one_mul] at e
  refine (W4.of_eq (x := shl0 x n) (k := dn x.d n) ?_ ?_).symm
  · unfold shl0; rw [o1, o2, o3]; exact ⟨u1, s1, s2, s3⟩
  · rw [e, val_mul, m1, m2, m3, m4]; unfold shl0 W4.val; dsimp only; rw [o1, o2, o3]; omega
theorem shl1_eq {x : W4} (hx : x.ok) {n : Int} (hn : 0 ≤ n) (hj : n / 64 = 1) : shl1 x n = W4.of (x.val * 2 ^ n.toNat) := by
  obtain ⟨h1, h2, h3, h4⟩ := hx
  obtain ⟨o1, u1, s1, m1⟩ := pieces hn h1 h2
  obtain ⟨o2, u2, s2, m2⟩ := pieces hn h2 h3
  obtain ⟨_, u3, _, m3⟩ := pieces hn h3 h4
  obtain ⟨_, u4, _, m4⟩ := pieces hn h4 h1
  have e := pow_split n hn 1 hj
  have one : (2 : Int) ^ (64 * 1) = 18446744073709551616 := rfl
  rw [one] at e
  refine (W4.of_eq (x := shl1 x n) (k := dn x.c n + (18446744073709551616 * dn x.d n + up x.d n)) ?_ ?_).symm
  · unfold shl1; rw [o1, o2]; exact ⟨z64, u1, s1, s2⟩
  · rw [e, Int.mul_left_comm, val_mul, m1, m2, m3, m4]; unfold shl1 W4.val; dsimp only; rw [o1, o2]; omega
theorem shl2_eq {x : W4} (hx : x.ok) {n : Int} (hn : 0 ≤ n) (hj : n / 64 = 2) : shl2 x n = W4.of (x.val * 2 ^ n.toNat) := by
  obtain ⟨h1, h2, h3, h4⟩ := hx
  obtain ⟨o1, u1, s1, m1⟩ := pieces hn h1 h2
  obtain ⟨_, u2, _, m2⟩ := pieces hn h2 h3
  have e := pow_split n hn 2 hj
  have one : (2 : Int) ^ (64 * 2) = 340282366920938463463374607431768211456 := rfl
  rw [one] at e
  refine (W4.of_eq (x := shl2 x n) (k := dn x.b n + x.c * 2 ^ (n % 64).toNat + 18446744073709551616 * (x.d * 2 ^ (n % 64).toNat)) ?_ ?_).symm
  · unfold shl2; rw [o1]; exact ⟨z64, z64, u1, s1⟩
  · rw [e, Int.mul_left_comm, val_mul, m1, m2]; unfold shl2 W4.val; dsimp only; rw [o1]; omega
theorem shl3_eq {x : W4} (hx : x.ok) {n : Int} (hn : 0 ≤ n) (hj : n / 64 = 3) : shl3 x n = W4.of (x.val * 2 ^ n.toNat) := by
  obtain ⟨h1, h2, h3, h4⟩ := hx
  obtain ⟨_, u1, _, m1⟩ := pieces hn h1 h2
  have e := pow_split n hn 3 hj
  have one : (2 : Int) ^ (64 * 3) = 6277101735386680763835789423207666416102355444464034512896 := rfl
  rw [one] at e
  refine (W4.of_eq (x := shl3 x n) (k := dn x.a n + x.b * 2 ^ (n % 64).toNat + 18446744073709551616 * (x.c * 2 ^ (n % 64).toNat) + 340282366920938463463374607431768211456 * (x.d * 2 ^ (n % 64).toNat)) ?_ ?_).symm
  · unfold shl3; exact ⟨z64, z64, z64, u1⟩
  · rw [e, Int.mul_left_comm, val_mul, m1]; unfold shl3 W4.val; dsimp only; omega
/-! ### moved down -/
theorem orr_comm (x y : Int) : orr x y = orr y x := by unfold orr; rw [BitVec.or_comm]
structure Cut' (a q r hi lo : Int) : Prop where
  sum : a = q * hi + lo
  lo0 : 0 ≤ lo
  lo1 : lo < q
  hi0 : 0 ≤ hi
  hi1 : hi < r
theorem cut' {a n q r : Int} (P : Parts n q r) (h0 : 0 ≤ a) (h1 : a < 18446744073709551616) : Cut' a q r (a / q) (a % q) := by
  have hq : 0 < q := by have := P.q1; omega
  refine ⟨(Int.mul_ediv_add_emod a q).symm, Int.emod_nonneg _ (by omega), Int.emod_lt_of_pos _ hq, Int.ediv_nonneg h0 (by omega), ?_⟩
  apply Int.ediv_lt_of_lt_mul hq
  rw [Int.mul_comm, P.qr]
  exact h1
theorem dn'_eq {a n q r : Int} (hn : 0 ≤ n) (P : Parts n q r) : dn' a n = a / q := by
  unfold dn'
  rw [min_prt hn, ← P.eq, Int.fdiv_eq_ediv_of_nonneg _ (by have := P.q1; omega)]
theorem up'_eq {a n q r hi lo : Int} (hn : 0 ≤ n) (P : Parts n q r) (C : Cut' a q r hi lo) : up' a n = r * lo ∧ 0 ≤ r * lo ∧ r * lo + r ≤ 18446744073709551616 := by
  have e : a * r = 18446744073709551616 * hi + r * lo := by
    rw [C.sum, Int.add_mul, ← P.qr, Int.mul_right_comm q hi r, Int.mul_comm lo r]
  have b0 : 0 ≤ r * lo := Int.mul_nonneg (by have := P.r1; omega) C.lo0
  have b1 : r * lo + r ≤ 18446744073709551616 := by
    have h := mul_le_of (lo + 1) q r (by have := P.r1; omega) (by have := C.lo1; omega)
    rw [Int.mul_comm r q, P.qr, Int.mul_add, Int.mul_one] at h
    exact h
  refine ⟨?_, b0, b1⟩
  unfold up'
  rw [min_rem hn, ← P.er, wrap_u64, e]
  have := P.r1
  omega
/-- what one word's two pieces are: the word is q * down + rest; the next one's rest comes in from above -/
theorem pieces' {n : Int} (hn : 0 ≤ n) {a b : Int} (ha : 0 ≤ a ∧ a < 18446744073709551616) (hb : 0 ≤ b ∧ b < 18446744073709551616) :
    ∃ lb : Int, orr (dn' a n) (up' b n) = dn' a n + up' b n ∧ (0 ≤ dn' a n ∧ dn' a n < 18446744073709551616) ∧ (0 ≤ dn' a n + up' b n ∧ dn' a n + up' b n < 18446744073709551616) ∧
      2 ^ (n % 64).toNat * up' b n = 18446744073709551616 * lb ∧ 0 ≤ lb ∧ lb < 2 ^ (n % 64).toNat ∧ b = 2 ^ (n % 64).toNat * dn' b n + lb := by
  have P := parts n
  have Ca := cut' P ha.1 ha.2
  have Cb := cut' P hb.1 hb.2
  obtain ⟨f1, c1, c2⟩ := up'_eq hn P Cb
  have e1 := dn'_eq (a := a) hn P
  have e2 := dn'_eq (a := b) hn P
  have h0 := Ca.hi0
  have h1 := Ca.hi1
  have r1 := P.r1
  refine ⟨b % 2 ^ (n % 64).toNat, ?_, ⟨by omega, by omega⟩, ⟨by omega, by omega⟩, ?_, Cb.lo0, Cb.lo1, by rw [e2]; exact Cb.sum⟩
  · rw [orr_comm, f1, e1, Int.add_comm]
    exact orr_eq (k := (64 - n % 64).toNat) ⟨_, rfl⟩ c1 h0 h1 (by omega)
  · rw [f1, ← Int.mul_assoc, P.qr]
theorem up'_even {n : Int} (hn : 0 ≤ n) {b : Int} (hb : 0 ≤ b ∧ b < 18446744073709551616) : up' b n % 2 = 0 := by
  have P := parts n
  obtain ⟨f1, _, _⟩ := up'_eq hn P (cut' P hb.1 hb.2)
  obtain ⟨k, hk⟩ : ∃ k, (64 - n % 64).toNat = k + 1 := ⟨(64 - n % 64).toNat - 1, by omega⟩
  rw [f1, hk, Int.pow_succ, Int.mul_comm _ 2, Int.mul_assoc]
  omega
def shr0 (x : W4) (n : Int) : W4 := ⟨orr (dn' x.a n) (up' x.b n), orr (dn' x.b n) (up' x.c n), orr (dn' x.c n) (up' x.d n), dn' x.d n⟩
def shr1 (x : W4) (n : Int) : W4 := ⟨orr (dn' x.b n) (up' x.c n), orr (dn' x.c n) (up' x.d n), dn' x.d n, 0⟩
def shr2 (x : W4) (n : Int) : W4 := ⟨orr (dn' x.c n) (up' x.d n), dn' x.d n, 0, 0⟩
def shr3 (x : W4) (n : Int) : W4 := ⟨dn' x.d n, 0, 0, 0⟩
theorem ediv_of {N q m l : Int} (h : N = q * m + l) (h0 : 0 ≤ l) (h1 : l < q) : N / q = m := by
  rw [h, Int.add_comm, Int.add_mul_ediv_left _ _ (by omega), Int.ediv_eq_zero_of_lt h0 h1, Int.zero_add]
theorem shr_val {x m : W4} {n : Int} {q l : Int} (hm : m.ok) (h : x.val = q * m.val + l) (h0 : 0 ≤ l) (h1 : l < q) (hq : q = 2 ^ n.toNat) : m = W4.of (x.val / 2 ^ n.toNat) := by
  rw [← hq, ediv_of h h0 h1, W4.of_val hm]
theorem shr0_eq {x : W4} (hx : x.ok) {n : Int} (hn : 0 ≤ n) (hj : n / 64 = 0) : shr0 x n = W4.of (x.val / 2 ^ n.toNat) ∧ (shr0 x n).ok := by
  obtain ⟨h1, h2, h3, h4⟩ := hx
  obtain ⟨l1, o1, d1, s1, m1, l10, l11, e1⟩ := pieces' hn h1 h2
  obtain ⟨l2, o2, d2, s2, m2, l20, l21, e2⟩ := pieces' hn h2 h3
  obtain ⟨l3, o3, d3, s3, m3, l30, l31, e3⟩ := pieces' hn h3 h4
  obtain ⟨l4, _, d4, _, _, l40, l41, e4⟩ := pieces' hn h4 h1
  have e := pow_split n hn 0 hj
  have one : (2 : Int) ^ (64 * 0) = 1 := rfl
  rw [one, Int.one_mul] at e
  have hok : (shr0 x n).ok := by unfold shr0; rw [o1, o2, o3]; exact ⟨s1, s2, s3, d4⟩
  refine ⟨shr_val (q := 2 ^ (n % 64).toNat) (l := l4) hok ?_ l40 l41 e.symm, hok⟩
  rw [Int.mul_comm, val_mul]
  unfold shr0 W4.val
  dsimp only
  rw [o1, o2, o3]
  generalize (2 : Int) ^ (n % 64).toNat = q at *
  simp only [Int.mul_comm _ q, Int.mul_add]
  omega
theorem shr1_eq {x : W4} (hx : x.ok) {n : Int} (hn : 0 ≤ n) (hj : n / 64 = 1) : shr1 x n = W4.of (x.val / 2 ^ n.toNat) ∧ (shr1 x n).ok := by
  obtain ⟨h1, h2, h3, h4⟩ := hx
  obtain ⟨l2, o2, d2, s2, m2, l20, l21, e2⟩ := pieces' hn h2 h3
  obtain ⟨l3, o3, d3, s3, m3, l30, l31, e3⟩ := pieces' hn h3 h4
  obtain ⟨l4, _, d4, _, _, _, _, _⟩ := pieces' hn h4 h1
  obtain ⟨l5, _, _, _, _, l50, l51, e5⟩ := pieces' hn h1 h2
  have e := pow_split n hn 1 hj
  have one : (2 : Int) ^ (64 * 1) = 18446744073709551616 := rfl
  rw [one] at e
  have hok : (shr1 x n).ok := by unfold shr1; rw [o2, o3]; exact ⟨s2, s3, d4, z64⟩
  refine ⟨shr_val (q := 18446744073709551616 * 2 ^ (n % 64).toNat) (l := x.a + 18446744073709551616 * l5) hok ?_ (by omega) (by omega) e.symm, hok⟩
  rw [Int.mul_assoc, Int.mul_comm (2 ^ (n % 64).toNat), val_mul]
  unfold shr1 W4.val
  dsimp only
  rw [o2, o3]
  generalize (2 : Int) ^ (n % 64).toNat = q at *
  simp only [Int.mul_comm _ q, Int.mul_add]
  omega
theorem shr2_eq {x : W4} (hx : x.ok) {n : Int} (hn : 0 ≤ n) (hj : n / 64 = 2) : shr2 x n = W4.of (x.val / 2 ^ n.toNat) ∧ (shr2 x n).ok := by
  obtain ⟨h1, h2, h3, h4⟩ := hx
  obtain ⟨l3, o3, d3, s3, m3, l30, l31, e3⟩ := pieces' hn h3 h4
  obtain ⟨l4, _, d4, _, _, _, _, _⟩ := pieces' hn h4 h1
  obtain ⟨l5, _, _, _, _, l50, l51, e5⟩ := pieces' hn h1 h3
  have e := pow_split n hn 2 hj
  have one : (2 : Int) ^ (64 * 2) = 340282366920938463463374607431768211456 := rfl
  rw [one] at e
  have hok : (shr2 x n).ok := by unfold shr2; rw [o3]; exact ⟨s3, d4, z64, z64⟩
  refine ⟨shr_val (q := 340282366920938463463374607431768211456 * 2 ^ (n % 64).toNat) (l := x.a + 18446744073709551616 * x.b + 340282366920938463463374607431768211456 * l5) hok ?_ (by omega) (by omega) e.symm, hok⟩
  rw [Int.mul_assoc, Int.mul_comm (2 ^ (n % 64).toNat), val_mul]
  unfold shr2 W4.val
  dsimp only
  rw [o3]
  generalize (2 : Int) ^ (n % 64).toNat = q at *
  simp only [Int.mul_comm _ q, Int.mul_add]
  omega
theorem shr3_eq {x : W4} (hx : x.ok) {n : Int} (hn : 0 ≤ n) (hj : n / 64 = 3) : shr3 x n = W4.of (x.val / 2 ^ n.toNat) ∧ (shr3 x n).ok := by
  obtain ⟨h1, h2, h3, h4⟩ := hx
  obtain ⟨l4, _, d4, _, _, _, _, _⟩ := pieces' hn h4 h1
  obtain ⟨l5, _, _, _, _, l50, l51, e5⟩ := pieces' hn h1 h4
  have e := pow_split n hn 3 hj
  have one : (2 : Int) ^ (64 * 3) = 6277101735386680763835789423207666416102355444464034512896 := rfl
  rw [one] at e
  have hok : (shr3 x n).ok := by unfold shr3; exact ⟨d4, z64, z64, z64⟩
  refine ⟨shr_val (q := 6277101735386680763835789423207666416102355444464034512896 * 2 ^ (n % 64).toNat) (l := x.a + 18446744073709551616 * x.b + 340282366920938463463374607431768211456 * x.c + 6277101735386680763835789423207666416102355444464034512896 * l5) hok ?_ (by omega) (by omega) e.symm, hok⟩
  rw [Int.mul_assoc, Int.mul_comm (2 ^ (n % 64).toNat), val_mul]
  unfold shr3 W4.val
  dsimp only
  generalize (2 : Int) ^ (n % 64).toNat = q at *
  simp only [Int.mul_comm _ q]
  omega
end Go.Wd
namespace Go.Wd
open Go.Rn
/-- a number of four words, as a whole number -/
def W4.nat (x : W4) : Nat := x.val.toNat
theorem W4.nat_val {x : W4} (h : x.ok) : x.val = (x.nat : Int) := by
  have := (W4.val_bd h).1
  unfold W4.nat
  omega
theorem W4.nat_lt {x : W4} (h : x.ok) : x.nat < 2 ^ 256 := by
  have := W4.val_bd h
  have e : (2 : Nat) ^ 256 = 115792089237316195423570985008687907853269984665640564039457584007913129639936 := rfl
  unfold W4.nat
  omega
def ofN (n : Nat) : W4 := W4.of (n : Int)
theorem ofN_ok (n : Nat) : (ofN n).ok := W4.ok_of _
theorem ofN_nat {n : Nat} (h : n < 2 ^ 256) : (ofN n).nat = n := by
  have e : (2 : Nat) ^ 256 = 115792089237316195423570985008687907853269984665640564039457584007913129639936 := rfl
  unfold W4.nat ofN
  rw [W4.val_of]
  omega
theorem ofN_self {x : W4} (h : x.ok) : ofN x.nat = x := by
  unfold ofN
  rw [← W4.nat_val h, W4.of_val h]
theorem of_mod (n : Int) : W4.of (n % 115792089237316195423570985008687907853269984665640564039457584007913129639936) = W4.of n := by
  unfold W4.of
  refine W4.ext' ?_ ?_ ?_ ?_ <;> dsimp only <;> omega
theorem ofN_mod (n : Nat) : ofN (n % 2 ^ 256) = ofN n := by
  have e : (2 : Nat) ^ 256 = 115792089237316195423570985008687907853269984665640564039457584007913129639936 := rfl
  unfold ofN
  rw [← of_mod (n : Int), e]
  congr 1
theorem ofN_zero : ofN 0 = ⟨0, 0, 0, 0⟩ := by rfl
theorem ofN_big {n k : Nat} (h : 256 ≤ k) : ofN (n * 2 ^ k) = ⟨0, 0, 0, 0⟩ := by
  rw [← ofN_mod]
  have : n * 2 ^ k % 2 ^ 256 = 0 := by
    obtain ⟨j, rfl⟩ : ∃ j, k = j + 256 := ⟨k - 256, by omega⟩
    rw [Nat.pow_add, ← Nat.mul_assoc, Nat.mul_mod_left]
  rw [this, ofN_zero]
theorem ofN_mul_mod (n k : Nat) : ofN (n % 2 ^ 256 * k) = ofN (n * k) := by
  rw [← ofN_mod (n % 2 ^ 256 * k), ← ofN_mod (n * k), Nat.mod_mul_mod]
theorem small_div {n k : Nat} (h : n < 2 ^ 256) (hk : 256 ≤ k) : n / 2 ^ k = 0 := by
  have := Nat.pow_le_pow_right (show 0 < 2 by omega) hk
  exact Nat.div_eq_of_lt (by omega)
theorem small_mod {n k : Nat} (h : n < 2 ^ 256) (hk : 256 ≤ k) : n % 2 ^ k = n := by
  have := Nat.pow_le_pow_right (show 0 < 2 by omega) hk
  exact Nat.mod_eq_of_lt (by omega)
theorem cast_pow (k : Nat) : ((2 : Int) ^ k) = ((2 ^ k : Nat) : Int) := by simp
/-- the size: a half more, if so -/
def tw (x : W4) (b : Bool) : Nat := 2 * x.nat + (match b with | true => 1 | false => 0)
theorem tw_div (x : W4) (b : Bool) (d : Nat) : tw x b / 2 ^ (d + 1) = x.nat / 2 ^ d := by
  unfold tw
  rw [Nat.pow_succ, Nat.mul_comm (2 ^ d) 2, ← Nat.div_div_eq_div_mul]
  congr 1
  cases b <;> simp only <;> omega
theorem tw_mod (x : W4) (b : Bool) (d : Nat) : tw x b % 2 ^ (d + 1) = 2 * (x.nat % 2 ^ d) + (match b with | true => 1 | false => 0) := by
  unfold tw
  rw [Nat.pow_succ, Nat.mul_comm (2 ^ d) 2, Nat.mod_mul]
  have e : (2 * x.nat + (match b with | true => 1 | false => 0)) / 2 = x.nat := by cases b <;> simp only <;> omega
  rw [e]
  cases b <;> simp only <;> omega
theorem tw_zero {x : W4} {b : Bool} (h : x.ok) : tw x b = 0 ↔ (eqW x ⟨0, 0, 0, 0⟩ && !b) = true := by
  have e : x.nat = 0 ↔ x = ⟨0, 0, 0, 0⟩ := by
    constructor
    · intro h0
      rw [← ofN_self h, h0, ofN_zero]
    · intro h0; rw [h0]; rfl
  rw [Bool.and_eq_true, eqW_iff, ← e]
  unfold tw
  cases b <;> simp <;> omega
/-- what is beyond, by bits: d: one bit fewer than the multiple has -/
theorem rc_none {x : W4} {d : Nat} (h : x.nat % 2 ^ d = 0) : restC (tw x false % 2 ^ (d + 1)) (2 ^ (d + 1)) = 0 := by
  rw [tw_mod, h]
  simp [restC]
theorem rc_zero {x : W4} : restC (tw x true % 2 ^ (0 + 1)) (2 ^ (0 + 1)) = 2 := by
  rw [tw_mod]
  simp [restC, Nat.mod_one]
theorem mod_bit (V j : Nat) : V % 2 ^ (j + 1) = V % 2 ^ j + 2 ^ j * (V / 2 ^ j % 2) := by rw [Nat.pow_succ, Nat.mod_mul]
theorem rc_below {x : W4} {b : Bool} {j : Nat} (h : x.nat / 2 ^ j % 2 = 0) (h0 : x.nat % 2 ^ (j + 1) ≠ 0 ∨ b = true) : restC (tw x b % 2 ^ (j + 1 + 1)) (2 ^ (j + 1 + 1)) = 1 := by
  have hp : 0 < 2 ^ j := Nat.pow_pos (by omega)
  have hm := mod_bit x.nat j
  rw [h, Nat.mul_zero, Nat.add_zero] at hm
  have hl := Nat.mod_lt x.nat hp
  rw [hm] at h0
  rw [tw_mod, hm, Nat.pow_succ, Nat.pow_succ]
  unfold restC
  cases b
  · simp only [Bool.false_eq_true, or_false] at *
    rw [if_neg (by omega), if_pos (by omega)]
  · simp only
    rw [if_neg (by omega), if_pos (by omega)]
theorem rc_above {x : W4} {b : Bool} {j : Nat} (h : x.nat / 2 ^ j % 2 = 1) (h0 : x.nat % 2 ^ j ≠ 0 ∨ b = true) : restC (tw x b % 2 ^ (j + 1 + 1)) (2 ^ (j + 1 + 1)) = 3 := by
  have hp : 0 < 2 ^ j := Nat.pow_pos (by omega)
  have hm := mod_bit x.nat j
  rw [h, Nat.mul_one] at hm
  rw [tw_mod, hm, Nat.pow_succ, Nat.pow_succ]
  unfold restC
  cases b
  · simp only [Bool.false_eq_true, or_false] at *
    rw [if_neg (by omega), if_neg (by omega), if_neg (by omega)]
  · simp only
    rw [if_neg (by omega), if_neg (by omega), if_neg (by omega)]
theorem rc_half {x : W4} {j : Nat} (h : x.nat / 2 ^ j % 2 = 1) (h0 : x.nat % 2 ^ j = 0) : restC (tw x false % 2 ^ (j + 1 + 1)) (2 ^ (j + 1 + 1)) = 2 := by
  have hp : 0 < 2 ^ j := Nat.pow_pos (by omega)
  have hm := mod_bit x.nat j
  rw [h, h0, Nat.mul_one] at hm
  rw [tw_mod, hm, Nat.pow_succ, Nat.pow_succ]
  unfold restC
  simp only
  rw [if_neg (by omega), if_neg (by omega), if_pos (by omega)]
/-- all below the first bit is nothing: then the number is told by what is above it -/
theorem back_iff {x : W4} (hx : x.ok) {j : Nat} (h : x.nat / 2 ^ j % 2 = 1) : eqW x (ofN ((2 * (x.nat / 2 ^ (j + 1)) + 1) * 2 ^ j)) = decide (x.nat % 2 ^ j = 0) := by
  have hl := W4.nat_lt hx
  have hm := mod_bit x.nat j
  rw [h, Nat.mul_one] at hm
  have hd := Nat.div_add_mod x.nat (2 ^ (j + 1))
  have e : (2 * (x.nat / 2 ^ (j + 1)) + 1) * 2 ^ j = x.nat - x.nat % 2 ^ j := by
    rw [Nat.pow_succ] at hd hm ⊢
    rw [Nat.add_mul, Nat.one_mul, Nat.mul_comm 2, Nat.mul_assoc, Nat.mul_comm 2, Nat.mul_comm]
    omega
  rw [e, Bool.eq_iff_iff, eqW_iff, decide_eq_true_eq]
  have hle : x.nat % 2 ^ j ≤ x.nat := Nat.mod_le _ _
  constructor
  · intro hh
    have := congrArg W4.nat hh
    rw [ofN_nat (by omega)] at this
    omega
  · intro hh
    rw [hh, Nat.sub_zero, ofN_self hx]
end Go.Wd
namespace Go.Rn
open Go.Nt Go.Wd
theorem far_pow {k : Nat} (hk : 300 ≤ k) : 4 * 2 ^ 256 ≤ 2 ^ k := by
  obtain ⟨j, rfl⟩ : ∃ j, k = 256 + (2 + j) := ⟨k - 258, by omega⟩
  have hj : 0 < 2 ^ j := Nat.pow_pos (by omega)
  rw [Nat.pow_add, Nat.pow_add, Nat.mul_comm 4]
  refine Nat.mul_le_mul_left _ ?_
  show 4 ≤ 4 * 2 ^ j
  omega
/-- the document's size -/
def rT (x : W4) (b : Bool) : Nat := match b with | true => 2 * x.nat + 1 | false => x.nat
def jB (b : Bool) : Int := match b with | true => 1 | false => 0
theorem rT_lt {x : W4} (hx : x.ok) (b : Bool) : rT x b < 2 * 2 ^ 256 := by
  have := W4.nat_lt hx
  unfold rT
  cases b <;> simp only <;> omega
/-- beyond all patterns -/
theorem p0_big {m : Int} {neg : Bool} {T : Nat} {E : Int} (hT : T ≠ 0) (h : 1024 ≤ lgN T E) : 9218868437227405312 ≤ p0 m neg T E := by
  have hq := low_lo (m := m) (neg := neg) (T := T) (E := E) hT (by omega)
  have hl : lowE T E = lgN T E - 52 := by unfold lowE; rw [if_neg (by omega)]
  unfold p0
  rw [hl] at hq ⊢
  omega
theorem big_eq {m : Int} {neg : Bool} {T : Nat} {E : Int} (hT : T ≠ 0) (h : 1024 ≤ lgN T E) : rnP m neg T E = bey m neg ∧ rnF m neg T E = 20 := by
  have := p0_big (m := m) (neg := neg) hT h
  unfold rnP rnF
  rw [if_neg hT, if_neg hT, if_pos this, if_pos this]
  exact ⟨rfl, rfl⟩
/-- far below all patterns -/
theorem low_eq {m : Int} {neg : Bool} {T : Nat} {E : Int} (hT : T ≠ 0) (h : lgN T E ≤ -1100) : rnP m neg T E = (if upR m neg false 1 = true then 1 else 0) ∧ rnF m neg T E = 24 := by
  have hb := (bitLen_spec T).1
  have hl : lowE T E = -1074 := by unfold lowE; rw [if_pos (by omega)]
  have hE : ¬ (-1074 : Int) ≤ E := by unfold lgN at h; have := len_pos hT; omega
  have hk : bitLen T + 2 ≤ (-1074 - E).toNat := by unfold lgN at h; omega
  have hp := Nat.pow_le_pow_right (show 0 < 2 by omega) hk
  have e4 : 2 ^ (bitLen T + 2) = 4 * 2 ^ bitLen T := by rw [Nat.pow_add, Nat.mul_comm]
  have hlt : 2 * T < 2 ^ (-1074 - E).toNat := by omega
  have hd : T / 2 ^ (-1074 - E).toNat = 0 := Nat.div_eq_of_lt (by omega)
  have hm : T % 2 ^ (-1074 - E).toNat = T := Nat.mod_eq_of_lt (by omega)
  have hr : restC T (2 ^ (-1074 - E).toNat) = 1 := by unfold restC; rw [if_neg hT, if_pos hlt]
  have hq : toQ m neg T E (-1074) = if upR m neg false 1 = true then 1 else 0 := by
    unfold toQ rq
    rw [if_neg hE, hd, hm, hr]
    have ho : odd 0 = false := rfl
    rw [ho]
    simp
  have hL : toL T E (-1074) = true := by unfold toL; rw [if_neg hE, hm]; exact decide_eq_true hT
  have hti : tiny m neg T E = true := by unfold tiny; rw [if_neg (by omega)]; exact decide_eq_true (by omega)
  have hp0 : p0 m neg T E = if upR m neg false 1 = true then 1 else 0 := by
    unfold p0
    rw [hl, hq]
    split <;> rfl
  unfold rnP rnF
  rw [if_neg hT, if_neg hT, hp0, hl, hL, hti]
  split <;> simp
/-- the program's way and the document's, from any exponent -/
theorem same_round {m : Int} {neg : Bool} {x : W4} (hx : x.ok) (b : Bool) {C D : Int} (h : (C = D) ∨ (1700 ≤ C ∧ 1700 ≤ D) ∨ (C ≤ -1700 ∧ D ≤ -1700)) : rnP m neg (tw x b) (C - 1) = rnP m neg (rT x b) (D - jB b) ∧ rnF m neg (tw x b) (C - 1) = rnF m neg (rT x b) (D - jB b) := by
  have hj : 0 ≤ jB b ∧ jB b ≤ 1 := by cases b <;> simp [jB]
  have e : rnP m neg (tw x b) (C - 1) = rnP m neg (rT x b) (C - jB b) ∧ rnF m neg (tw x b) (C - 1) = rnF m neg (rT x b) (C - jB b) := by
    cases b with
    | true => exact ⟨rfl, rfl⟩
    | false =>
      have e1 : tw x false = x.nat * 2 ^ 1 := by unfold tw; simp [Nat.mul_comm]
      rw [e1]
      simp only [rT, jB, Int.sub_zero]
      exact ⟨rnP_scale m neg x.nat 1 C, rnF_scale m neg x.nat 1 C⟩
  rw [e.1, e.2]
  rcases h with h | h | h
  · rw [h]; exact ⟨rfl, rfl⟩
  · by_cases hT : rT x b = 0
    · rw [hT]; unfold rnP rnF; simp
    · have hl := len_pos hT
      obtain ⟨a1, a2⟩ := big_eq (m := m) (neg := neg) (E := C - jB b) hT (by unfold lgN; omega)
      obtain ⟨b1, b2⟩ := big_eq (m := m) (neg := neg) (E := D - jB b) hT (by unfold lgN; omega)
      rw [a1, a2, b1, b2]; exact ⟨rfl, rfl⟩
  · by_cases hT : rT x b = 0
    · rw [hT]; unfold rnP rnF; simp
    · have hlt := rT_lt hx b
      obtain ⟨k, hk⟩ : ∃ k : Nat, k = 300 := ⟨300, rfl⟩
      have hfp := far_pow (show 300 ≤ k by omega)
      have hl : bitLen (rT x b) ≤ k := len_le (by omega)
      obtain ⟨a1, a2⟩ := low_eq (m := m) (neg := neg) (E := C - jB b) hT (by unfold lgN; omega)
      obtain ⟨b1, b2⟩ := low_eq (m := m) (neg := neg) (E := D - jB b) hT (by unfold lgN; omega)
      rw [a1, a2, b1, b2]; exact ⟨rfl, rfl⟩
/-! ### the document's flags and pattern -/
/-- all but the low d bits, and behind them one bit for these -/
def stk (A d : Nat) : Nat := 2 * (A / 2 ^ d) + (if A % 2 ^ d = 0 then 0 else 1)
theorem stk_bit (A d : Nat) : (if A % 2 ^ d = 0 then 0 else 1) ≤ 1 := by split <;> omega
theorem stk_div (A d j : Nat) : stk A d / 2 ^ (j + 1) = A / 2 ^ (d + j) := by
  have e : stk A d / 2 = A / 2 ^ d := by unfold stk; split <;> omega
  rw [Nat.pow_succ, Nat.mul_comm, ← Nat.div_div_eq_div_mul, e, Nat.div_div_eq_div_mul, Nat.pow_add]
theorem stk_mod (A d j : Nat) : stk A d % 2 ^ (j + 1) = 2 * (A / 2 ^ d % 2 ^ j) + (if A % 2 ^ d = 0 then 0 else 1) := by
  rw [Nat.pow_succ, Nat.mul_comm, Nat.mod_mul]
  have e : stk A d / 2 = A / 2 ^ d := by unfold stk; split <;> omega
  rw [e]
  unfold stk
  split <;> omega
theorem all_mod (A d j : Nat) : A % 2 ^ (d + j) = A % 2 ^ d + 2 ^ d * (A / 2 ^ d % 2 ^ j) := by rw [Nat.pow_add, Nat.mod_mul]
theorem stk_zero (A d j : Nat) : stk A d % 2 ^ (j + 1) = 0 ↔ A % 2 ^ (d + j) = 0 := by
  have hD : 0 < 2 ^ d := Nat.pow_pos (by omega)
  rw [stk_mod, all_mod]
  generalize A / 2 ^ d % 2 ^ j = r
  constructor
  · intro h
    have h1 : A % 2 ^ d = 0 := by
      by_cases h0 : A % 2 ^ d = 0
      · exact h0
      · rw [if_neg h0] at h; omega
    rw [if_pos h1] at h
    have : r = 0 := by omega
    rw [h1, this]; simp
  · intro h
    have h1 : A % 2 ^ d = 0 := by omega
    rw [if_pos h1]
    have h2 : 2 ^ d * r = 0 := by omega
    rcases Nat.mul_eq_zero.1 h2 with h3 | h3
    · omega
    · rw [h3]
theorem rest_core {r r' D Q s : Nat} (hD : r' < D) (hQ : 0 < Q) (hb : s ≤ 1) (hs : s = 0 ↔ r' = 0) : restC (2 * r + s) (4 * Q) = restC (r' + D * r) (2 * (D * Q)) := by
  have hDr : r ≤ D * r := Nat.le_mul_of_pos_left r (by omega)
  unfold restC
  by_cases h0 : r' + D * r = 0
  · have : r' = 0 := by omega
    have := hs.2 this
    rw [if_pos h0, if_pos (by omega)]
  · have hz : ¬ 2 * r + s = 0 := by
      intro h
      apply h0
      have h1 : r = 0 := by omega
      have h2 := hs.1 (by omega)
      rw [h1, h2]; rfl
    rw [if_neg h0, if_neg hz]
    rcases Nat.lt_trichotomy r Q with h | h | h
    · have h1 : D * r + D ≤ D * Q := by rw [← Nat.mul_succ]; exact Nat.mul_le_mul_left D h
      rw [if_pos (by omega), if_pos (by omega)]
    · subst h
      by_cases hs0 : s = 0
      · have := hs.1 hs0
        rw [if_neg (by omega), if_pos (by omega), if_neg (by omega), if_pos (by omega)]
      · have : r' ≠ 0 := fun h => hs0 (hs.2 h)
        rw [if_neg (by omega), if_neg (by omega), if_neg (by omega), if_neg (by omega)]
    · have h1 : D * Q + D ≤ D * r := by rw [← Nat.mul_succ]; exact Nat.mul_le_mul_left D h
      rw [if_neg (by omega), if_neg (by omega), if_neg (by omega), if_neg (by omega)]
theorem stk_rest (A d j : Nat) : restC (stk A d % 2 ^ (j + 2)) (2 ^ (j + 2)) = restC (A % 2 ^ (d + (j + 1))) (2 ^ (d + (j + 1))) := by
  have hD : 0 < 2 ^ d := Nat.pow_pos (by omega)
  have hQ : 0 < 2 ^ j := Nat.pow_pos (by omega)
  have eP : 2 ^ (j + 1 + 1) = 4 * 2 ^ j := by rw [Nat.pow_succ, Nat.pow_succ]; omega
  have eP2 : 2 ^ (d + (j + 1)) = 2 * (2 ^ d * 2 ^ j) := by rw [Nat.pow_add, Nat.pow_succ, ← Nat.mul_assoc]; omega
  have e1 := stk_mod A d (j + 1)
  have e2 := all_mod A d (j + 1)
  rw [show j + 2 = (j + 1) + 1 by omega, e1, e2, eP, eP2]
  exact rest_core (Nat.mod_lt A hD) hQ (stk_bit A d) (by split <;> omega)
theorem stk_rq (m : Int) (neg : Bool) (A d j : Nat) : rq m neg (stk A d) (j + 2) = rq m neg A (d + (j + 1)) := by
  unfold rq
  rw [stk_rest, show j + 2 = (j + 1) + 1 by omega, stk_div]
theorem stk_toQ (m : Int) (neg : Bool) (A d : Nat) {F e : Int} (h : F + d + 1 ≤ e) : toQ m neg (stk A d) (F + d - 1) e = toQ m neg A F e := by
  obtain ⟨j, hj⟩ : ∃ j : Nat, e = F + d + 1 + j := ⟨(e - (F + d + 1)).toNat, by omega⟩
  unfold toQ
  rw [if_neg (by omega), if_neg (by omega), show (e - (F + d - 1)).toNat = j + 2 by omega, show (e - F).toNat = d + (j + 1) by omega, stk_rq]
theorem stk_toL (A d : Nat) {F e : Int} (h : F + d + 1 ≤ e) : toL (stk A d) (F + d - 1) e = toL A F e := by
  obtain ⟨j, hj⟩ : ∃ j : Nat, e = F + d + 1 + j := ⟨(e - (F + d + 1)).toNat, by omega⟩
  unfold toL
  rw [if_neg (by omega), if_neg (by omega), show (e - (F + d - 1)).toNat = j + 1 + 1 by omega, show (e - F).toNat = d + (j + 1) by omega]
  congr 1
  simp only [ne_eq, eq_iff_iff]
  exact not_congr (stk_zero A d (j + 1))
theorem stk_len {A d : Nat} (h : A / 2 ^ d ≠ 0) : bitLen (stk A d) = bitLen (A / 2 ^ d) + 1 := by
  have e : stk A d / 2 ^ 1 = A / 2 ^ d := by
    have := stk_div A d 0
    simpa using this
  rw [bitLen_shift (stk A d) 1 (by rw [e]; exact h), e]
  omega
theorem stk_lgN {A d : Nat} {F : Int} (h : A / 2 ^ d ≠ 0) : lgN (stk A d) (F + d - 1) = lgN A F := by
  have e := bitLen_shift A d h
  unfold lgN
  rw [stk_len h]
  omega
theorem stk_round {m : Int} {neg : Bool} {A d : Nat} {F : Int} (h : A % 2 ^ d = 0 ∨ 54 ≤ bitLen (A / 2 ^ d)) : rnP m neg (stk A d) (F + d - 1) = rnP m neg A F ∧ rnF m neg (stk A d) (F + d - 1) = rnF m neg A F := by
  by_cases h0 : A % 2 ^ d = 0
  · have e1 : stk A d = A / 2 ^ d * 2 ^ 1 := by unfold stk; rw [if_pos h0]; omega
    have e2 : A = A / 2 ^ d * 2 ^ d := by
      have := Nat.div_add_mod A (2 ^ d)
      rw [h0, Nat.mul_comm] at this
      omega
    have p1 := rnP_scale m neg (A / 2 ^ d) 1 (F + d)
    have p2 := rnP_scale m neg (A / 2 ^ d) d (F + d)
    have f1 := rnF_scale m neg (A / 2 ^ d) 1 (F + d)
    have f2 := rnF_scale m neg (A / 2 ^ d) d (F + d)
    rw [show F + (d : Int) - ((1 : Nat) : Int) = F + d - 1 by omega, ← e1] at p1 f1
    rw [show F + (d : Int) - (d : Int) = F by omega, ← e2] at p2 f2
    exact ⟨by rw [p1, p2], by rw [f1, f2]⟩
  · have hb : 54 ≤ bitLen (A / 2 ^ d) := by exact h.resolve_left h0
    have hq : A / 2 ^ d ≠ 0 := fun h => by rw [h] at hb; simp [bitLen] at hb
    have hA : A ≠ 0 := fun h => h0 (by rw [h]; simp)
    have hs : stk A d ≠ 0 := by unfold stk; omega
    have hl := stk_lgN (F := F) hq
    have hlw : lowE (stk A d) (F + d - 1) = lowE A F := by unfold lowE; rw [hl]
    have hlg : lgN A F = F + d + bitLen (A / 2 ^ d) - 1 := by rw [← hl]; unfold lgN; rw [stk_len hq]; omega
    have hge : F + d + 1 ≤ lowE A F := by unfold lowE; split <;> omega
    have hp : p0 m neg (stk A d) (F + d - 1) = p0 m neg A F := by unfold p0; rw [hlw, stk_toQ m neg A d hge]
    have ht : tiny m neg (stk A d) (F + d - 1) = tiny m neg A F := by
      unfold tiny
      rw [hl]
      by_cases hn : lgN A F = -1023
      · rw [if_pos hn, if_pos hn, stk_toQ m neg A d (by omega)]
      · rw [if_neg hn, if_neg hn]
    unfold rnP rnF
    rw [if_neg hs, if_neg hA, if_neg hs, if_neg hA, hp, hlw, stk_toL A d hge, ht]
    exact ⟨rfl, rfl⟩
/-! ### in units -/
/-- a size, told by a lower power -/
def szF (F E : Int) (X : Nat) : Nat := X * 2 ^ (E - F).toNat
end Go.Rn
namespace Go.Rn
open Go.Nt Go.Wd Go.Pt
/-! ### patterns -/
/-- a finite pattern's size, in units of 2^-1074 -/
def uV (p : Int) : Nat := szF (-1074) (xp p) (sg p).toNat
theorem xp_bd (p : Int) : -1074 ≤ xp p ∧ xp p ≤ 972 := by
  have := ex_lt p
  unfold xp
  split
  · omega
  · split <;> omega
theorem sg_lt (p : Int) : 0 ≤ sg p ∧ sg p < 9007199254740992 := by
  have := fr_lt p
  unfold sg
  split
  · omega
  · split <;> omega
/-- a pattern's own number is rounded to it -/
theorem own_uV {m : Int} {n : Bool} {p : Int} (h : ex p ≠ 2047) : rnP m n (uV p) (-1074) = mag p ∧ rnF m n (uV p) (-1074) = 0 := by
  have hb := xp_bd p
  obtain ⟨a, b⟩ := own_pat (m := m) (neg := n) h
  have e1 := rnP_scale m n (sg p).toNat (xp p + 1074).toNat (xp p)
  have e2 := rnF_scale m n (sg p).toNat (xp p + 1074).toNat (xp p)
  have e3 : xp p - ((xp p + 1074).toNat : Int) = -1074 := by omega
  have e4 : uV p = (sg p).toNat * 2 ^ (xp p + 1074).toNat := by
    unfold uV szF
    congr 2
  rw [e3, ← e4] at e1 e2
  exact ⟨by rw [e1, a], by rw [e2, b]⟩
theorem uV_zero {p : Int} (h : ex p ≠ 2047) : uV p = 0 ↔ mag p = 0 := by
  have h1 := ex_lt p
  have h2 := fr_lt p
  have h4 : mag p = 4503599627370496 * ex p + fr p := by unfold mag ex fr; omega
  have hp : 0 < 2 ^ (xp p - -1074).toNat := Nat.pow_pos (by omega)
  have e : uV p = 0 ↔ sg p = 0 := by
    have := sg_lt p
    unfold uV szF
    rw [Nat.mul_eq_zero]
    omega
  rw [e, h4]
  unfold sg
  split
  · omega
  · omega
/-- of a sum without flags the pattern's number is the sum -/
theorem back_uV {m : Int} {n : Bool} {A : Nat} (h : rnF m n A (-1074) = 0) : rnP m n A (-1074) < 9218868437227405312 ∧ uV (rnP m n A (-1074)) = A := by
  by_cases hA : A = 0
  · subst hA
    have e : rnP m n 0 (-1074) = 0 := by simp [rnP]
    rw [e]
    refine ⟨by omega, ?_⟩
    rw [uV_zero (by decide)]
    decide
  · unfold rnF at h
    rw [if_neg hA] at h
    have hb : ¬ 9218868437227405312 ≤ p0 m n A (-1074) := fun hc => by rw [if_pos hc] at h; omega
    rw [if_neg hb] at h
    have hl : toL A (-1074) (lowE A (-1074)) = false := by
      cases hc : toL A (-1074) (lowE A (-1074)) with
      | false => rfl
      | true => rw [hc, if_pos rfl] at h; split at h <;> omega
    have hp : rnP m n A (-1074) = p0 m n A (-1074) := by unfold rnP; rw [if_neg hA, if_neg hb]
    rw [hp]
    refine ⟨by omega, ?_⟩
    have hlow := lowE_ge A (-1074)
    have hq := low_hi m n A (-1074)
    -- the multiple, exactly
    have hx : A = toQ m n A (-1074) (lowE A (-1074)) * 2 ^ (lowE A (-1074) + 1074).toNat := by
      unfold toQ toL at *
      by_cases he : lowE A (-1074) ≤ -1074
      · rw [if_pos he]
        have e0 : lowE A (-1074) = -1074 := by omega
        rw [e0]
        simp
      · rw [if_neg he] at hl ⊢
        have e1 : (lowE A (-1074) - -1074).toNat = (lowE A (-1074) + 1074).toNat := by omega
        rw [e1] at hl ⊢
        have hm : A % 2 ^ (lowE A (-1074) + 1074).toNat = 0 := by simpa using hl
        rw [rq_exact hm]
        have := Nat.div_add_mod A (2 ^ (lowE A (-1074) + 1074).toNat)
        rw [hm, Nat.mul_comm] at this
        omega
    have hlo : lowE A (-1074) = -1074 ∨ 4503599627370496 ≤ toQ m n A (-1074) (lowE A (-1074)) := by
      by_cases h1 : lowE A (-1074) = -1074
      · exact .inl h1
      · right
        refine low_lo hA ?_
        unfold lowE at h1
        split at h1 <;> omega
    have hpe : p0 m n A (-1074) = (lowE A (-1074) + 1074) * 4503599627370496 + (toQ m n A (-1074) (lowE A (-1074)) : Nat) := rfl
    generalize toQ m n A (-1074) (lowE A (-1074)) = q at *
    generalize lowE A (-1074) = e at *
    rw [hpe] at hb ⊢
    obtain ⟨j, hj⟩ : ∃ j : Nat, e = (j : Int) - 1074 := ⟨(e + 1074).toNat, by omega⟩
    have ej : (e + 1074).toNat = j := by omega
    have ej' : e + 1074 = (j : Int) := by omega
    rw [ej] at hx
    rw [ej'] at hb ⊢
    clear ej ej'
    rw [hx]
    unfold uV szF xp sg
    by_cases c0 : q < 4503599627370496
    · have j0 : j = 0 := by omega
      subst j0
      have ee : ex (((0 : Nat) : Int) * 4503599627370496 + (q : Int)) = 0 := by unfold ex; omega
      have ef : fr (((0 : Nat) : Int) * 4503599627370496 + (q : Int)) = (q : Int) := by unfold fr; omega
      rw [ee, ef]
      simp
    · by_cases c1 : q = 9007199254740992
      · have ee : ex ((j : Int) * 4503599627370496 + (q : Int)) = (j : Int) + 2 := by unfold ex; omega
        have ef : fr ((j : Int) * 4503599627370496 + (q : Int)) = 0 := by unfold fr; omega
        rw [ee, ef, if_neg (by omega), if_neg (by omega), if_neg (by omega), if_neg (by omega)]
        have e1 : ((j : Int) + 2 - 1075 - -1074).toNat = j + 1 := by omega
        rw [e1, c1, Nat.pow_succ]
        have e2 : ((0 : Int) + 4503599627370496).toNat = 4503599627370496 := rfl
        rw [e2]
        omega
      · have ee : ex ((j : Int) * 4503599627370496 + (q : Int)) = (j : Int) + 1 := by unfold ex; omega
        have ef : fr ((j : Int) * 4503599627370496 + (q : Int)) = (q : Int) - 4503599627370496 := by unfold fr; omega
        rw [ee, ef, if_neg (by omega), if_neg (by omega), if_neg (by omega), if_neg (by omega)]
        have e1 : ((j : Int) + 1 - 1075 - -1074).toNat = j := by omega
        have e2 : ((q : Int) - 4503599627370496 + 4503599627370496).toNat = q := by omega
        rw [e1, e2]
/-! ### with nothing added -/
/-! ### times 1 -/
/-! ### the other sign -/
/-! ### a pattern that was rounded, as a number -/
theorem pat_num {e : Int} {q : Nat} (he : -1074 ≤ e) (hq : q ≤ 9007199254740992) (hlo : e = -1074 ∨ 4503599627370496 ≤ q) (hb : (e + 1074) * 4503599627370496 + (q : Int) < 9218868437227405312) :
    uV ((e + 1074) * 4503599627370496 + (q : Int)) = q * 2 ^ (e + 1074).toNat := by
  obtain ⟨j, hj⟩ : ∃ j : Nat, e = (j : Int) - 1074 := ⟨(e + 1074).toNat, by omega⟩
  have ej : (e + 1074).toNat = j := by omega
  have ej' : e + 1074 = (j : Int) := by omega
  rw [ej, ej']
  rw [ej'] at hb
  clear ej ej'
  unfold uV szF xp sg
  by_cases c0 : q < 4503599627370496
  · have j0 : j = 0 := by omega
    subst j0
    have ee : ex (((0 : Nat) : Int) * 4503599627370496 + (q : Int)) = 0 := by unfold ex; omega
    have ef : fr (((0 : Nat) : Int) * 4503599627370496 + (q : Int)) = (q : Int) := by unfold fr; omega
    rw [ee, ef]
    simp
  · by_cases c1 : q = 9007199254740992
    · have ee : ex ((j : Int) * 4503599627370496 + (q : Int)) = (j : Int) + 2 := by unfold ex; omega
      have ef : fr ((j : Int) * 4503599627370496 + (q : Int)) = 0 := by unfold fr; omega
      rw [ee, ef, if_neg (by omega), if_neg (by omega), if_neg (by omega), if_neg (by omega)]
      have e1 : ((j : Int) + 2 - 1075 - -1074).toNat = j + 1 := by omega
      rw [e1, c1, Nat.pow_succ]
      have e2 : ((0 : Int) + 4503599627370496).toNat = 4503599627370496 := rfl
      rw [e2]
      omega
    · have ee : ex ((j : Int) * 4503599627370496 + (q : Int)) = (j : Int) + 1 := by unfold ex; omega
      have ef : fr ((j : Int) * 4503599627370496 + (q : Int)) = (q : Int) - 4503599627370496 := by unfold fr; omega
      rw [ee, ef, if_neg (by omega), if_neg (by omega), if_neg (by omega), if_neg (by omega)]
      have e1 : ((j : Int) + 1 - 1075 - -1074).toNat = j := by omega
      have e2 : ((q : Int) - 4503599627370496 + 4503599627370496).toNat = q := by omega
      rw [e1, e2]
/-- what was rounded, and is finite -/
theorem rn_num {m : Int} {n : Bool} {T : Nat} {E : Int} (hT : T ≠ 0) (h : rnF m n T E = 0 ∨ rnF m n T E = 16 ∨ rnF m n T E = 24) :
    p0 m n T E < 9218868437227405312 ∧ rnP m n T E = p0 m n T E ∧ uV (rnP m n T E) = toQ m n T E (lowE T E) * 2 ^ (lowE T E + 1074).toNat ∧ (rnF m n T E = 0 ↔ toL T E (lowE T E) = false) := by
  have hb : p0 m n T E < 9218868437227405312 := by
    unfold rnF at h
    rw [if_neg hT] at h
    by_cases hc : 9218868437227405312 ≤ p0 m n T E
    · rw [if_pos hc] at h; omega
    · omega
  have hp : rnP m n T E = p0 m n T E := by unfold rnP; rw [if_neg hT, if_neg (by omega)]
  have hlo : lowE T E = -1074 ∨ 4503599627370496 ≤ toQ m n T E (lowE T E) := by
    by_cases h1 : lowE T E = -1074
    · exact .inl h1
    · right
      refine low_lo hT ?_
      unfold lowE at h1
      split at h1 <;> omega
  refine ⟨hb, hp, ?_, ?_⟩
  · rw [hp]
    exact pat_num (lowE_ge T E) (low_hi m n T E) hlo hb
  · unfold rnF
    rw [if_neg hT, if_neg (by omega)]
    cases toL T E (lowE T E) with
    | false => simp
    | true =>
      rw [if_pos rfl]
      split <;> simp
/-! ### what rounding to the nearest left -/
/-- few bits need no rounding -/
theorem few_bits {m k : Int} {n s : Bool} {D A : Nat} {E : Int} (hE : -1074 ≤ E) (hD : D < 9007199254740992) (hDA : D ≤ A) (hA : p0 k s A E < 9218868437227405312) : rnF m n D E = 0 := by
  by_cases h0 : D = 0
  · rw [h0]; simp [rnF]
  · have hlow : lowE D E ≤ E := by
      have := len_le (T := D) (k := 53) (by have : (2 : Nat) ^ 53 = 9007199254740992 := rfl; omega)
      unfold lowE lgN
      split <;> omega
    have hl : toL D E (lowE D E) = false := by unfold toL; rw [if_pos hlow]
    have hp : p0 m n D E = p0 k s D E := by unfold p0 toQ; rw [if_pos hlow, if_pos hlow]
    have hmo := p0_mono (m := k) (neg := s) (E := E) h0 hDA
    unfold rnF
    rw [if_neg h0, hp, if_neg (by omega), hl]
    simp
/-- a number's quotient, with a last bit for what is left -/
def dvK (A B k : Nat) : Nat := 2 * (A * 2 ^ k / B) + (if A * 2 ^ k % B = 0 then 0 else 1)
theorem mod_scale {A B : Nat} (k : Nat) : A * 2 ^ k % (B * 2 ^ k) = A % B * 2 ^ k := Nat.mul_mod_mul_right (2 ^ k) A B
theorem dvK_div (A B k j : Nat) : dvK A B (k + j) / 2 ^ (j + 1) = A * 2 ^ k / B := by
  have hp : 0 < 2 ^ j := Nat.pow_pos (by omega)
  have e1 : A * 2 ^ (k + j) / B / 2 ^ j = A * 2 ^ k / B := by
    rw [Nat.div_div_eq_div_mul, Nat.pow_add, ← Nat.mul_assoc, Nat.mul_div_mul_right _ _ hp]
  have : dvK A B (k + j) / 2 = A * 2 ^ (k + j) / B := by unfold dvK; split <;> omega
  rw [Nat.pow_succ, Nat.mul_comm (2 ^ j) 2, ← Nat.div_div_eq_div_mul, this, e1]
theorem dvK_stk (A B k j : Nat) : stk (dvK A B (k + j)) (j + 1) = dvK A B k := by
  have hp : 0 < 2 ^ j := Nat.pow_pos (by omega)
  have e1 : A * 2 ^ (k + j) / B / 2 ^ j = A * 2 ^ k / B := by
    rw [Nat.div_div_eq_div_mul, Nat.pow_add, ← Nat.mul_assoc, Nat.mul_div_mul_right _ _ hp]
  have e2 := dvK_div A B k j
  have e3 : dvK A B (k + j) % 2 ^ (j + 1) = 0 ↔ A * 2 ^ k % B = 0 := by
    have d2 : dvK A B (k + j) / 2 = A * 2 ^ (k + j) / B := by unfold dvK; split <;> omega
    have m2 : dvK A B (k + j) % 2 = if A * 2 ^ (k + j) % B = 0 then 0 else 1 := by unfold dvK; split <;> omega
    rw [Nat.pow_succ, Nat.mul_comm (2 ^ j) 2, Nat.mod_mul, d2, m2]
    have e : A * 2 ^ (k + j) % B + B * (A * 2 ^ (k + j) / B % 2 ^ j) = A * 2 ^ k % B * 2 ^ j := by
      rw [← Nat.mod_mul, ← mod_scale, Nat.mul_assoc, ← Nat.pow_add]
    constructor
    · intro h
      have h1 : A * 2 ^ (k + j) % B = 0 := by
        by_cases h0 : A * 2 ^ (k + j) % B = 0
        · exact h0
        · rw [if_neg h0] at h; omega
      have h2 : A * 2 ^ (k + j) / B % 2 ^ j = 0 := by omega
      rw [h1, h2, Nat.mul_zero] at e
      rcases Nat.mul_eq_zero.1 e.symm with h3 | h3
      · exact h3
      · omega
    · intro h
      rw [h, Nat.zero_mul] at e
      have h1 : A * 2 ^ (k + j) % B = 0 := by omega
      rw [if_pos h1]
      rcases Nat.mul_eq_zero.1 (show B * (A * 2 ^ (k + j) / B % 2 ^ j) = 0 by omega) with h2 | h2
      · rw [h2, Nat.div_zero, Nat.zero_mod]
      · rw [h2]
  unfold stk
  rw [e2]
  by_cases h : A * 2 ^ k % B = 0
  · rw [if_pos (e3.2 h)]; unfold dvK; rw [if_pos h]
  · rw [if_neg (fun h' => h (e3.1 h'))]; unfold dvK; rw [if_neg h]
/-! ### roots -/
end Go.Rn
namespace Go.Rd
/-- a letter as a digit, -1 if it is none -/
def dgvR (c b : Int) : Int := if 48 ≤ c ∧ c ≤ 57 then c - 48 else if b = 16 ∧ 97 ≤ c ∧ c ≤ 102 then c - 87 else -1
/-- a letter's number -/
def lq8 (c : UInt8) : Int := ((c.toNat : Nat) : Int)
/-- all letters are digits -/
def allB (b : Int) (l : List UInt8) : Bool := l.all fun c => decide (0 ≤ dgvR (lq8 c) b)
/-- the number of digits -/
def nmB (b : Int) (l : List UInt8) : Nat := l.foldl (fun a c => a * b.toNat + (dgvR (lq8 c) b).toNat) 0
/-- the digits at a text's begin, how many of them are behind the point, what is left -/
def sc1 (b : Int) : Bool → List UInt8 → List UInt8 × Nat × List UInt8
  | _, [] => ([], 0, [])
  | p, c :: l =>
    if lq8 c = 46 ∧ p = false then sc1 b true l
    else if 0 ≤ dgvR (lq8 c) b then (c :: (sc1 b p l).1, (if p = true then 1 else 0) + (sc1 b p l).2.1, (sc1 b p l).2.2)
    else ([], 0, c :: l)
theorem nmB_snoc (b : Int) (l : List UInt8) (c : UInt8) : nmB b (l ++ [c]) = nmB b l * b.toNat + (dgvR (lq8 c) b).toNat := by
  unfold nmB
  rw [List.foldl_append]
  rfl
open Go.Rn
/-- how far a number is moved up ahead of a division -/
def upN (A B : Nat) : Nat := ((bitLen B : Int) - (bitLen A : Int) + 80).toNat
theorem up_big {A B : Nat} (hA : A ≠ 0) : 2 ^ 79 * B ≤ A * 2 ^ upN A B := by
  have h1 := (bitLen_spec A).2 hA
  have h2 := (bitLen_spec B).1
  have h3 := len_pos hA
  have h4 : bitLen B + 80 ≤ upN A B + bitLen A := by unfold upN; omega
  refine Nat.le_trans (Nat.mul_le_mul_left _ (Nat.le_of_lt h2)) ?_
  rw [← Nat.pow_add]
  refine Nat.le_trans (Nat.pow_le_pow_right (by omega) (show 79 + bitLen B ≤ (bitLen A - 1) + upN A B by omega)) ?_
  rw [Nat.pow_add]
  exact Nat.mul_le_mul_right _ h1
/-! ### the whole -/
end Go.Rd
