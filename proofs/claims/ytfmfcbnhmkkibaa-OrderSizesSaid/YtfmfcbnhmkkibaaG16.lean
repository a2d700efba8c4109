/-
  PLAIN ARITHMETIC: digits to the base 65536, moved down; a bit.
-/
import Derived.Test.YtfmfcbnhmkkibaaG13
import Derived.Test.YtfmfcbnhmkkibaaG15
namespace Go.Nt

def dgS (L : List Int) (i : Nat) : Nat := (L.getD i 0).toNat
theorem pow_split16 (k : Nat) : 2 ^ k = 65536 ^ (k / 16) * 2 ^ (k % 16) := by
  rw [pow16, ← Nat.pow_add]
  congr 1
  omega
theorem dg_lt {L : List Int} (h : ∀ x ∈ L, Dg 65536 x) (i : Nat) : dgS L i < 65536 := by
  unfold dgS
  by_cases hi : i < L.length
  · have := h (L.getD i 0) (by simp [List.getD, List.getElem?_eq_getElem hi])
    omega
  · simp [List.getD, List.getElem?_eq_none (show L.length ≤ i by omega)]
theorem vb_cut {L : List Int} (h : ∀ x ∈ L, Dg 65536 x) (z : Nat) : vb 65536 L / 65536 ^ z = vb 65536 (L.drop z) ∧ vb 65536 L % 65536 ^ z = vb 65536 (L.take z) := by
  have hp : 0 < 65536 ^ z := Nat.pow_pos (by omega)
  by_cases hz : z ≤ L.length
  · have e : vb 65536 L = vb 65536 (L.take z) + 65536 ^ z * vb 65536 (L.drop z) := by
      conv => lhs; rw [← List.take_append_drop z L]
      rw [vb_append, List.length_take, show min z L.length = z by omega]
    have hl : vb 65536 (L.take z) < 65536 ^ z := by
      have := vb_lt (b := 65536) (by omega) (L.take z) (fun x hx => h x (List.mem_of_mem_take hx))
      rw [List.length_take, show min z L.length = z by omega] at this
      exact this
    rw [e]
    exact ⟨by rw [Nat.add_mul_div_left _ _ hp, Nat.div_eq_of_lt hl, Nat.zero_add], by rw [Nat.add_mul_mod_self_left, Nat.mod_eq_of_lt hl]⟩
  · have hl : vb 65536 L < 65536 ^ z := by
      have h1 := vb_lt (b := 65536) (by omega) L h
      have h2 := Nat.pow_le_pow_right (show 0 < 65536 by omega) (show L.length ≤ z by omega)
      omega
    rw [List.drop_of_length_le (by omega), List.take_of_length_le (by omega)]
    exact ⟨Nat.div_eq_of_lt hl, Nat.mod_eq_of_lt hl⟩
theorem vb_drop {L : List Int} {z : Nat} : vb 65536 (L.drop z) = dgS L z + 65536 * vb 65536 (L.drop (z + 1)) := by
  by_cases hz : z < L.length
  · rw [List.drop_eq_getElem_cons hz]
    simp only [vb, dgS]
    simp [List.getD, List.getElem?_eq_getElem hz]
  · rw [List.drop_of_length_le (by omega), List.drop_of_length_le (by omega)]
    simp [vb, dgS, List.getD, List.getElem?_eq_none (show L.length ≤ z by omega)]
theorem dvd_pow {s : Nat} (h : s ≤ 16) : 2 ^ s * 2 ^ (16 - s) = 65536 := by rw [← Nat.pow_add, show s + (16 - s) = 16 by omega]
/-- a bit by its digit -/
theorem bit_dg {L : List Int} (h : ∀ x ∈ L, Dg 65536 x) (k : Nat) : vb 65536 L / 2 ^ k % 2 = dgS L (k / 16) / 2 ^ (k % 16) % 2 := by
  obtain ⟨e, _⟩ := vb_cut h (k / 16)
  rw [pow_split16, ← Nat.div_div_eq_div_mul, e, vb_drop]
  have hd := dvd_pow (s := k % 16 + 1) (by omega)
  have e2 : 65536 * vb 65536 (L.drop (k / 16 + 1)) = 2 ^ (k % 16) * (2 * (2 ^ (16 - (k % 16 + 1)) * vb 65536 (L.drop (k / 16 + 1)))) := by
    rw [← hd, Nat.pow_succ]
    simp only [Nat.mul_assoc]
  have hp : 0 < 2 ^ (k % 16) := Nat.pow_pos (by omega)
  rw [e2, Nat.add_mul_div_left _ _ hp]
  omega
/-- what is cut off -/
theorem lost_iff {L : List Int} (h : ∀ x ∈ L, Dg 65536 x) (k : Nat) : (vb 65536 L % 2 ^ k ≠ 0) ↔ (vb 65536 (L.take (k / 16)) ≠ 0 ∨ dgS L (k / 16) % 2 ^ (k % 16) ≠ 0) := by
  obtain ⟨e1, e2⟩ := vb_cut h (k / 16)
  have hp : 0 < 65536 ^ (k / 16) := Nat.pow_pos (by omega)
  rw [pow_split16, Nat.mod_mul, e1, e2, vb_drop]
  have hd := dvd_pow (s := k % 16) (by omega)
  have e3 : (dgS L (k / 16) + 65536 * vb 65536 (L.drop (k / 16 + 1))) % 2 ^ (k % 16) = dgS L (k / 16) % 2 ^ (k % 16) := by
    rw [← hd, Nat.mul_assoc, Nat.add_mul_mod_self_left]
  rw [e3]
  generalize dgS L (k / 16) % 2 ^ (k % 16) = r
  generalize vb 65536 (L.take (k / 16)) = u
  constructor
  · intro h0
    by_cases hu : u = 0
    · right
      intro hr
      apply h0
      rw [hu, hr, Nat.mul_zero]
    · exact .inl hu
  · rintro (h0 | h0) hh
    · omega
    · have : 0 < 65536 ^ (k / 16) * r := Nat.mul_pos hp (by omega)
      omega
/-- the digits of a number moved down: one more -/
theorem down_step {O : List Int} {P R y x0 x1 j W : Nat} (hPR : P * R = 65536) (hO : O.length = j) (h : vb 65536 O * P + y = W + 65536 ^ j * (x0 % P)) :
    vb 65536 (O ++ [((x0 / P + x1 % P * R : Nat) : Int)]) * P + y = (W + 65536 ^ j * x0) + 65536 ^ (j + 1) * (x1 % P) := by
  have e : vb 65536 (O ++ [((x0 / P + x1 % P * R : Nat) : Int)]) = vb 65536 O + 65536 ^ j * (x0 / P + x1 % P * R) := by
    rw [vb_snoc, hO, Int.toNat_natCast]
  have e2 := Nat.div_add_mod x0 P
  have e3 : 65536 ^ j * (x0 / P + x1 % P * R) * P = 65536 ^ j * (P * (x0 / P)) + 65536 ^ (j + 1) * (x1 % P) := by
    rw [Nat.mul_assoc, Nat.add_mul, Nat.mul_add, Nat.mul_comm (x0 / P) P, Nat.mul_assoc (x1 % P), Nat.mul_comm R P, hPR, Nat.pow_succ, Nat.mul_comm (x1 % P), Nat.mul_assoc]
  have e4 : 65536 ^ j * x0 = 65536 ^ j * (P * (x0 / P)) + 65536 ^ j * (x0 % P) := by rw [← Nat.mul_add, e2]
  rw [e, Nat.add_mul, e3]
  omega
theorem down_lt {P R x0 x1 : Nat} (hP : 0 < P) (hPR : P * R = 65536) (h0 : x0 < 65536) : x0 / P + x1 % P * R < 65536 := by
  have h1 : x0 / P < R := Nat.div_lt_of_lt_mul (by omega)
  have h2 : x1 % P + 1 ≤ P := Nat.mod_lt _ hP
  have h3 := Nat.mul_le_mul_right R h2
  rw [Nat.add_mul, Nat.one_mul, hPR] at h3
  omega
theorem down_end {L : List Int} (h : ∀ x ∈ L, Dg 65536 x) {k V' : Nat} (e : V' * 2 ^ (k % 16) + dgS L (k / 16) % 2 ^ (k % 16) = vb 65536 (L.drop (k / 16))) : V' = vb 65536 L / 2 ^ k := by
  have hp : 0 < 2 ^ (k % 16) := Nat.pow_pos (by omega)
  obtain ⟨e1, _⟩ := vb_cut h (k / 16)
  rw [pow_split16, ← Nat.div_div_eq_div_mul, e1, ← e, Nat.add_comm, Nat.mul_comm, Nat.add_mul_div_left _ _ hp, Nat.div_eq_of_lt (Nat.mod_lt _ hp), Nat.zero_add]
end Go.Nt

/-
  PLAIN ARITHMETIC: what is left beyond a multiple, by its first bit and whether there is more; how many bits, told in two ways; far away all is the same.
-/
namespace Go.Rn
open Go.Nt

theorem bl_bitLen (V : Nat) : bl V = bitLen V := by
  by_cases h : V = 0
  · subst h; rw [bl_zero]; rfl
  · have h1 := (bitLen_spec V).1
    have h2 := (bitLen_spec V).2 h
    have h3 := len_pos h
    obtain ⟨k, hk⟩ : ∃ k, bitLen V = k + 1 := ⟨bitLen V - 1, by omega⟩
    rw [hk] at h1 h2 ⊢
    exact bl_uniq h2 h1
theorem half_iff (T k : Nat) : (T / 2 ^ k % 2 = 1) ↔ 2 ^ k ≤ T % 2 ^ (k + 1) := by
  have hp : 0 < 2 ^ k := Nat.pow_pos (by omega)
  have e : T % 2 ^ (k + 1) = T % 2 ^ k + 2 ^ k * (T / 2 ^ k % 2) := by rw [Nat.pow_succ, Nat.mod_mul]
  have hl := Nat.mod_lt T hp
  have h2 : T / 2 ^ k % 2 = 0 ∨ T / 2 ^ k % 2 = 1 := by omega
  rw [e]
  clear e
  generalize T % 2 ^ k = r at hl
  generalize T / 2 ^ k % 2 = b at h2
  generalize 2 ^ k = P at hl hp
  rcases h2 with h | h
  · subst h
    simp only [Nat.mul_zero, Nat.add_zero]
    omega
  · subst h
    rw [Nat.mul_one]
    exact ⟨fun _ => Nat.le_add_left _ _, fun _ => rfl⟩
/-- the document's way to round: half, and just half -/
theorem up_doc {r k : Nat} (hr : r ≠ 0) (M : Int) (neg o : Bool) :
    upR M neg o (restC r (2 ^ (k + 1))) = (if M = 2 then false else if M = 3 then !neg else if M = 4 then neg else if M = 1 then decide (2 ^ k ≤ r) else (decide (2 ^ k ≤ r) && (!decide (r = 2 ^ k) || o))) := by
  have hc : ¬ restC r (2 ^ (k + 1)) = 0 := by rw [restC_iff]; exact hr
  unfold upR
  rw [if_neg hc]
  by_cases h2 : M = 2
  · rw [if_pos h2, if_pos h2]
  · rw [if_neg h2, if_neg h2]
    by_cases h3 : M = 3
    · rw [if_pos h3, if_pos h3]
    · rw [if_neg h3, if_neg h3]
      by_cases h4 : M = 4
      · rw [if_pos h4, if_pos h4]
      · rw [if_neg h4, if_neg h4]
        have e : 2 ^ (k + 1) = 2 * 2 ^ k := by rw [Nat.pow_succ, Nat.mul_comm]
        unfold restC
        rw [if_neg hr, e]
        generalize 2 ^ k = P
        by_cases a : 2 * r < 2 * P
        · rw [if_pos a]
          have : decide (P ≤ r) = false := decide_eq_false (by omega)
          rw [this]
          split <;> simp
        · rw [if_neg a]
          by_cases b : 2 * r = 2 * P
          · rw [if_pos b]
            have h1 : decide (P ≤ r) = true := decide_eq_true (by omega)
            have h5 : decide (r = P) = true := decide_eq_true (by omega)
            rw [h1, h5]
            split <;> simp
          · rw [if_neg b]
            have h1 : decide (P ≤ r) = true := decide_eq_true (by omega)
            have h5 : decide (r = P) = false := decide_eq_false (by omega)
            rw [h1, h5]
            split <;> simp
end Go.Rn

/-
  PLAIN ARITHMETIC: four words of 64 bits and the number that they are. No program is named here.
-/
namespace Go.Wd

structure W4 where
  a : Int
  b : Int
  c : Int
  d : Int

def W4.val (x : W4) : Int := x.a + 18446744073709551616 * x.b + 340282366920938463463374607431768211456 * x.c + 6277101735386680763835789423207666416102355444464034512896 * x.d
abbrev W4.ok (x : W4) : Prop := (0 ≤ x.a ∧ x.a < 18446744073709551616) ∧ (0 ≤ x.b ∧ x.b < 18446744073709551616) ∧ (0 ≤ x.c ∧ x.c < 18446744073709551616) ∧ (0 ≤ x.d ∧ x.d < 18446744073709551616)
/-- the lowest 256 bits of a number -/
def W4.of (n : Int) : W4 :=
  ⟨n % 18446744073709551616, n / 18446744073709551616 % 18446744073709551616, n / 340282366920938463463374607431768211456 % 18446744073709551616, n / 6277101735386680763835789423207666416102355444464034512896 % 18446744073709551616⟩

def eqW (x y : W4) : Bool := x.a == y.a && (x.b == y.b && (x.c == y.c && (x.d == y.d && true)))
theorem eqW_iff {x y : W4} : eqW x y = true ↔ x = y := by
  cases x; cases y; simp [eqW]
theorem W4.ext' {x y : W4} (h1 : x.a = y.a) (h2 : x.b = y.b) (h3 : x.c = y.c) (h4 : x.d = y.d) : x = y := by
  cases x; cases y; simp_all

theorem W4.ok_of (n : Int) : (W4.of n).ok := by
  unfold W4.of W4.ok
  refine ⟨⟨?_, ?_⟩, ⟨?_, ?_⟩, ⟨?_, ?_⟩, ⟨?_, ?_⟩⟩ <;> dsimp only <;> omega
theorem W4.of_val {x : W4} (h : x.ok) : W4.of x.val = x := by
  obtain ⟨a, b, c, d⟩ := x
  unfold W4.ok at h
  unfold W4.val W4.of
  dsimp only at *
  refine W4.ext' ?_ ?_ ?_ ?_ <;> dsimp only <;> omega
theorem W4.val_of (n : Int) : (W4.of n).val = n % 115792089237316195423570985008687907853269984665640564039457584007913129639936 := by
  unfold W4.val W4.of
  dsimp only
  omega
theorem W4.val_bd {x : W4} (h : x.ok) : 0 ≤ x.val ∧ x.val < 115792089237316195423570985008687907853269984665640564039457584007913129639936 := by
  obtain ⟨a, b, c, d⟩ := x
  unfold W4.ok at h
  unfold W4.val
  dsimp only at *
  omega
theorem W4.val_inj {x y : W4} (hx : x.ok) (hy : y.ok) (h : x.val = y.val) : x = y := by
  rw [← W4.of_val hx, ← W4.of_val hy, h]

/-! ### a sum -/
def ad (x y c : Int) : Int := (x + y + c) % 18446744073709551616
def ca (x y c : Int) : Int := (x + y + c) / 18446744073709551616
def addR (x y : W4) : W4 := ⟨ad x.a y.a 0, ad x.b y.b (ca x.a y.a 0), ad x.c y.c (ca x.b y.b (ca x.a y.a 0)), ad x.d y.d (ca x.c y.c (ca x.b y.b (ca x.a y.a 0)))⟩
def addC (x y : W4) : Int := ca x.d y.d (ca x.c y.c (ca x.b y.b (ca x.a y.a 0)))
theorem addR_eq {x y : W4} (hx : x.ok) (hy : y.ok) : addR x y = W4.of (x.val + y.val) := by
  obtain ⟨a, b, c, d⟩ := x
  obtain ⟨a', b', c', d'⟩ := y
  unfold W4.ok at hx hy
  unfold W4.val W4.of addR ad ca
  dsimp only at *
  refine W4.ext' ?_ ?_ ?_ ?_ <;> dsimp only <;> omega
theorem addC_eq {x y : W4} (hx : x.ok) (hy : y.ok) : (addC x y != 0) = decide (115792089237316195423570985008687907853269984665640564039457584007913129639936 ≤ x.val + y.val) := by
  obtain ⟨a, b, c, d⟩ := x
  obtain ⟨a', b', c', d'⟩ := y
  unfold W4.ok at hx hy
  unfold W4.val addC ca
  dsimp only at *
  rw [Bool.eq_iff_iff]
  simp only [bne_iff_ne, ne_eq, decide_eq_true_eq]
  omega

/-! ### a difference -/
def sb (x y c : Int) : Int := (x + 18446744073709551616 - y - c) % 18446744073709551616
def bo (x y c : Int) : Int := if x < y + c then 1 else 0
def subR (x y : W4) : W4 := ⟨sb x.a y.a 0, sb x.b y.b (bo x.a y.a 0), sb x.c y.c (bo x.b y.b (bo x.a y.a 0)), sb x.d y.d (bo x.c y.c (bo x.b y.b (bo x.a y.a 0)))⟩
def subC (x y : W4) : Int := bo x.d y.d (bo x.c y.c (bo x.b y.b (bo x.a y.a 0)))
theorem bo_01 (x y c : Int) : bo x y c = 0 ∨ bo x y c = 1 := by unfold bo; split <;> simp
theorem bo_spec (x y c : Int) : (bo x y c = 1 ∧ x < y + c) ∨ (bo x y c = 0 ∧ y + c ≤ x) := by unfold bo; split <;> omega
theorem subR_eq {x y : W4} (hx : x.ok) (hy : y.ok) : subR x y = W4.of (x.val - y.val) := by
  obtain ⟨a, b, c, d⟩ := x
  obtain ⟨a', b', c', d'⟩ := y
  unfold W4.ok at hx hy
  unfold W4.val W4.of subR sb
  dsimp only at *
  have h1 := bo_spec a a' 0
  have h2 := bo_spec b b' (bo a a' 0)
  have h3 := bo_spec c c' (bo b b' (bo a a' 0))
  generalize bo c c' (bo b b' (bo a a' 0)) = k3 at *
  generalize bo b b' (bo a a' 0) = k2 at *
  generalize bo a a' 0 = k1 at *
  refine W4.ext' ?_ ?_ ?_ ?_ <;> dsimp only <;> omega
theorem subC_eq {x y : W4} (hx : x.ok) (hy : y.ok) : (subC x y != 0) = decide (x.val < y.val) := by
  obtain ⟨a, b, c, d⟩ := x
  obtain ⟨a', b', c', d'⟩ := y
  unfold W4.ok at hx hy
  unfold W4.val subC
  dsimp only at *
  have h1 := bo_spec a a' 0
  have h2 := bo_spec b b' (bo a a' 0)
  have h3 := bo_spec c c' (bo b b' (bo a a' 0))
  have h4 := bo_spec d d' (bo c c' (bo b b' (bo a a' 0)))
  generalize bo d d' (bo c c' (bo b b' (bo a a' 0))) = k4 at *
  generalize bo c c' (bo b b' (bo a a' 0)) = k3 at *
  generalize bo b b' (bo a a' 0) = k2 at *
  generalize bo a a' 0 = k1 at *
  rw [Bool.eq_iff_iff]
  simp only [bne_iff_ne, ne_eq, decide_eq_true_eq]
  omega
end Go.Wd
