/-
  PLAIN ARITHMETIC: a size T times 2^E, rounded to a multiple of 2^e by a mode, and to the pattern next to it, with the flags. No program is named here.
-/
import GoSem.Core.Sem
import Derived.Laws.MathBits
namespace Go.Rn

/-- whether it goes up: c: what is beyond a multiple: 0 nothing, 1 below a half, 2 a half, 3 above it -/
def upR (m : Int) (neg odd : Bool) (c : Int) : Bool :=
  if c = 0 then false else if m = 2 then false else if m = 3 then !neg else if m = 4 then neg else if m = 1 then decide (2 ≤ c) else decide (2 < c) || (decide (c = 2) && odd)
def restC (r P : Nat) : Int := if r = 0 then 0 else if 2 * r < P then 1 else if 2 * r = P then 2 else 3
def odd (q : Nat) : Bool := decide (q % 2 = 1)
def rq (m : Int) (neg : Bool) (T k : Nat) : Nat := T / 2 ^ k + (if upR m neg (odd (T / 2 ^ k)) (restC (T % 2 ^ k) (2 ^ k)) = true then 1 else 0)
def toQ (m : Int) (neg : Bool) (T : Nat) (E e : Int) : Nat := if e ≤ E then T * 2 ^ (E - e).toNat else rq m neg T (e - E).toNat
def toL (T : Nat) (E e : Int) : Bool := if e ≤ E then false else decide (T % 2 ^ (e - E).toNat ≠ 0)
def lgN (T : Nat) (E : Int) : Int := E + (bitLen T : Nat) - 1
def lowE (T : Nat) (E : Int) : Int := if lgN T E - 52 ≤ -1074 then -1074 else lgN T E - 52
/-- the pattern, as if there were no greatest -/
def p0 (m : Int) (neg : Bool) (T : Nat) (E : Int) : Int := (lowE T E + 1074) * 4503599627370496 + (toQ m neg T E (lowE T E) : Nat)
def tiny (m : Int) (neg : Bool) (T : Nat) (E : Int) : Bool := if lgN T E = -1023 then decide (toQ m neg T E (-1075) < 9007199254740992) else decide (lgN T E < -1022)
def bey (m : Int) (neg : Bool) : Int := if upR m neg true 3 = true then 9218868437227405312 else 9218868437227405311
def rnP (m : Int) (neg : Bool) (T : Nat) (E : Int) : Int := if T = 0 then 0 else if 9218868437227405312 ≤ p0 m neg T E then bey m neg else p0 m neg T E
def rnF (m : Int) (neg : Bool) (T : Nat) (E : Int) : Int := if T = 0 then 0 else if 9218868437227405312 ≤ p0 m neg T E then 20 else if toL T E (lowE T E) = true then (if tiny m neg T E = true then 24 else 16) else 0

/-! ### the two signs -/
def swM (m : Int) : Int := if m = 3 then 4 else if m = 4 then 3 else m
theorem upR_swM (m : Int) (neg o : Bool) (c : Int) : upR (swM m) (!neg) o c = upR m neg o c := by
  unfold upR swM
  by_cases h3 : m = 3
  · subst h3; simp
  · by_cases h4 : m = 4
    · subst h4; simp
    · simp [h3, h4]
theorem toQ_swM (m : Int) (neg : Bool) (T : Nat) (E e : Int) : toQ (swM m) (!neg) T E e = toQ m neg T E e := by
  unfold toQ rq
  simp only [upR_swM]
theorem rnP_swM (m : Int) (neg : Bool) (T : Nat) (E : Int) : rnP (swM m) (!neg) T E = rnP m neg T E := by
  unfold rnP p0 bey
  simp only [upR_swM, toQ_swM]
theorem rnF_swM (m : Int) (neg : Bool) (T : Nat) (E : Int) : rnF (swM m) (!neg) T E = rnF m neg T E := by
  unfold rnF p0 tiny
  simp only [toQ_swM]

/-! ### bits -/
theorem len_pos {T : Nat} (h : T ≠ 0) : 1 ≤ bitLen T := by unfold bitLen; rw [if_neg h]; omega
theorem len_uniq {T k : Nat} (h0 : 2 ^ k ≤ T) (h1 : T < 2 ^ (k + 1)) : bitLen T = k + 1 := by
  have hp : 0 < 2 ^ k := Nat.pow_pos (by omega)
  obtain ⟨a1, a2⟩ := bitLen_spec T
  have a2 := a2 (by omega)
  have a3 := len_pos (show T ≠ 0 by omega)
  rcases Nat.lt_or_ge (bitLen T) (k + 1) with h | h
  · have := Nat.pow_le_pow_right (show 0 < 2 by omega) (show bitLen T ≤ k by omega)
    omega
  · rcases Nat.lt_or_ge (k + 1) (bitLen T) with h' | h'
    · have := Nat.pow_le_pow_right (show 0 < 2 by omega) (show k + 1 ≤ bitLen T - 1 by omega)
      omega
    · omega
theorem len_le {T k : Nat} (h : T < 2 ^ k) : bitLen T ≤ k := by
  by_cases h0 : T = 0
  · subst h0; simp [bitLen]
  · have a2 := (bitLen_spec T).2 h0
    rcases Nat.lt_or_ge k (bitLen T) with h' | h'
    · have := Nat.pow_le_pow_right (show 0 < 2 by omega) (show k ≤ bitLen T - 1 by omega)
      omega
    · exact h'
theorem le_len {T k : Nat} (h : 2 ^ k ≤ T) : k + 1 ≤ bitLen T := by
  have a1 := (bitLen_spec T).1
  rcases Nat.lt_or_ge (bitLen T) (k + 1) with h' | h'
  · have := Nat.pow_le_pow_right (show 0 < 2 by omega) (show bitLen T ≤ k by omega)
    omega
  · exact h'
theorem len_mul {T : Nat} (h : T ≠ 0) (j : Nat) : bitLen (T * 2 ^ j) = bitLen T + j := by
  have hp : 0 < 2 ^ j := Nat.pow_pos (by omega)
  obtain ⟨a1, a2⟩ := bitLen_spec T
  have a2 := a2 h
  have a3 := len_pos h
  have e : bitLen T + j = (bitLen T - 1 + j) + 1 := by omega
  rw [e]
  apply len_uniq
  · rw [Nat.pow_add]; exact Nat.mul_le_mul_right _ a2
  · rw [show bitLen T - 1 + j + 1 = bitLen T + j by omega, Nat.pow_add]; exact Nat.mul_lt_mul_of_pos_right a1 hp
theorem len_mono {T U : Nat} (h : T ≤ U) : bitLen T ≤ bitLen U := len_le (Nat.lt_of_le_of_lt h (bitLen_spec U).1)

/-! ### what is beyond -/
theorem upR_zero (m : Int) (neg o : Bool) : upR m neg o 0 = false := by simp [upR]
theorem restC_zero (P : Nat) : restC 0 P = 0 := by simp [restC]
theorem restC_bd (r P : Nat) : 0 ≤ restC r P ∧ restC r P ≤ 3 := by unfold restC; split <;> (try split) <;> (try split) <;> omega
theorem restC_iff {r P : Nat} : restC r P = 0 ↔ r = 0 := by
  unfold restC
  split
  · simp_all
  · rename_i h; simp only [h, iff_false]; split <;> (try split) <;> omega
theorem restC_mono {r s P : Nat} (h : r ≤ s) : restC r P ≤ restC s P := by
  unfold restC
  by_cases h0 : r = 0
  · rw [if_pos h0]; split <;> (try split) <;> (try split) <;> omega
  · rw [if_neg h0, if_neg (show ¬ s = 0 by omega)]
    split <;> (try split) <;> (try split) <;> (try split) <;> omega
theorem restC_scale (r P j : Nat) : restC (r * 2 ^ j) (P * 2 ^ j) = restC r P := by
  have hp : 0 < 2 ^ j := Nat.pow_pos (by omega)
  unfold restC
  have e0 : (r * 2 ^ j = 0) ↔ r = 0 := by rw [Nat.mul_eq_zero]; omega
  have e1 : (2 * (r * 2 ^ j) < P * 2 ^ j) ↔ 2 * r < P := by rw [← Nat.mul_assoc]; exact Nat.mul_lt_mul_right hp
  have e2 : (2 * (r * 2 ^ j) = P * 2 ^ j) ↔ 2 * r = P := by rw [← Nat.mul_assoc]; exact Nat.mul_left_inj (by omega)
  simp only [e0, e1, e2]
theorem upR_mono {m : Int} {neg o : Bool} {c d : Int} (h0 : 0 ≤ c) (h : c ≤ d) (hu : upR m neg o c = true) : upR m neg o d = true := by
  unfold upR at *
  by_cases hc : c = 0
  · rw [if_pos hc] at hu; cases hu
  · rw [if_neg hc] at hu
    rw [if_neg (show ¬ d = 0 by omega)]
    by_cases h2 : m = 2
    · rw [if_pos h2] at hu; cases hu
    · rw [if_neg h2] at hu ⊢
      by_cases h3 : m = 3
      · rw [if_pos h3] at hu ⊢; exact hu
      · rw [if_neg h3] at hu ⊢
        by_cases h4 : m = 4
        · rw [if_pos h4] at hu ⊢; exact hu
        · rw [if_neg h4] at hu ⊢
          by_cases h1 : m = 1
          · rw [if_pos h1] at hu ⊢
            simp only [decide_eq_true_eq] at *
            omega
          · rw [if_neg h1] at hu ⊢
            simp only [Bool.or_eq_true, Bool.and_eq_true, decide_eq_true_eq] at *
            rcases hu with hu | ⟨hu, ho⟩
            · left; omega
            · by_cases hd : d = 2
              · right; exact ⟨hd, ho⟩
              · left; omega

/-! ### multiples -/
theorem rq_bd (m : Int) (neg : Bool) (T k : Nat) : T / 2 ^ k ≤ rq m neg T k ∧ rq m neg T k ≤ T / 2 ^ k + 1 := by unfold rq; split <;> omega
theorem rq_exact {m : Int} {neg : Bool} {T k : Nat} (h : T % 2 ^ k = 0) : rq m neg T k = T / 2 ^ k := by
  unfold rq
  rw [h, restC_zero, upR_zero]
  simp
theorem rq_scale (m : Int) (neg : Bool) (T k j : Nat) : rq m neg (T * 2 ^ j) (k + j) = rq m neg T k := by
  have hp : 0 < 2 ^ j := Nat.pow_pos (by omega)
  unfold rq
  rw [Nat.pow_add, Nat.mul_div_mul_right _ _ hp, Nat.mul_mod_mul_right, restC_scale]
theorem rq_mono {m : Int} {neg : Bool} {T U : Nat} (k : Nat) (h : T ≤ U) : rq m neg T k ≤ rq m neg U k := by
  have hp : 0 < 2 ^ k := Nat.pow_pos (by omega)
  have hd : T / 2 ^ k ≤ U / 2 ^ k := Nat.div_le_div_right h
  have b1 := rq_bd m neg T k
  have b2 := rq_bd m neg U k
  by_cases he : T / 2 ^ k = U / 2 ^ k
  · have m1 := Nat.div_add_mod T (2 ^ k)
    have m2 := Nat.div_add_mod U (2 ^ k)
    have hr : T % 2 ^ k ≤ U % 2 ^ k := by rw [he] at m1; omega
    unfold rq
    rw [he]
    by_cases hu : upR m neg (odd (U / 2 ^ k)) (restC (T % 2 ^ k) (2 ^ k)) = true
    · rw [if_pos hu, if_pos (upR_mono (restC_bd _ _).1 (restC_mono hr) hu)]
      omega
    · rw [if_neg hu]; split <;> omega
  · omega
/-- scale: the same number told in two ways -/
theorem toQ_scale (m : Int) (neg : Bool) (T j : Nat) (E e : Int) : toQ m neg (T * 2 ^ j) (E - j) e = toQ m neg T E e := by
  unfold toQ
  by_cases h1 : e ≤ E
  · rw [if_pos h1]
    by_cases h2 : e ≤ E - j
    · rw [if_pos h2, Nat.mul_assoc, ← Nat.pow_add]
      congr 2; omega
    · rw [if_neg h2]
      have ej : j = (E - e).toNat + (e - (E - j)).toNat := by omega
      have e1 : T * 2 ^ j = T * 2 ^ (E - e).toNat * 2 ^ (e - (E - j)).toNat := by rw [Nat.mul_assoc, ← Nat.pow_add, ← ej]
      have hp : 0 < 2 ^ (e - (E - j)).toNat := Nat.pow_pos (by omega)
      rw [e1, rq_exact (Nat.mul_mod_left _ _), Nat.mul_div_cancel _ hp]
  · rw [if_neg h1, if_neg (by omega), show (e - (E - j)).toNat = (e - E).toNat + j by omega, rq_scale]
theorem toL_scale (T j : Nat) (E e : Int) : toL (T * 2 ^ j) (E - j) e = toL T E e := by
  have hp : 0 < 2 ^ j := Nat.pow_pos (by omega)
  unfold toL
  by_cases h1 : e ≤ E
  · rw [if_pos h1]
    by_cases h2 : e ≤ E - j
    · rw [if_pos h2]
    · rw [if_neg h2]
      have ej : j = (E - e).toNat + (e - (E - j)).toNat := by omega
      have e1 : T * 2 ^ j = T * 2 ^ (E - e).toNat * 2 ^ (e - (E - j)).toNat := by rw [Nat.mul_assoc, ← Nat.pow_add, ← ej]
      rw [e1, Nat.mul_mod_left]
      simp
  · rw [if_neg h1, if_neg (by omega), show (e - (E - j)).toNat = (e - E).toNat + j by omega, Nat.pow_add, Nat.mul_mod_mul_right]
    congr 1
    rw [ne_eq, ne_eq, Nat.mul_eq_zero]
    simp only [eq_iff_iff]
    omega
theorem lgN_scale {T : Nat} (h : T ≠ 0) (j : Nat) (E : Int) : lgN (T * 2 ^ j) (E - j) = lgN T E := by
  unfold lgN
  rw [len_mul h]
  omega
theorem lowE_scale {T : Nat} (h : T ≠ 0) (j : Nat) (E : Int) : lowE (T * 2 ^ j) (E - j) = lowE T E := by unfold lowE; rw [lgN_scale h]
theorem p0_scale {T : Nat} (h : T ≠ 0) (m : Int) (neg : Bool) (j : Nat) (E : Int) : p0 m neg (T * 2 ^ j) (E - j) = p0 m neg T E := by unfold p0; rw [lowE_scale h, toQ_scale]
theorem tiny_scale {T : Nat} (h : T ≠ 0) (m : Int) (neg : Bool) (j : Nat) (E : Int) : tiny m neg (T * 2 ^ j) (E - j) = tiny m neg T E := by unfold tiny; rw [lgN_scale h, toQ_scale]
theorem scale_ne {T : Nat} (j : Nat) : (T * 2 ^ j = 0) = (T = 0) := by
  have hp : 0 < 2 ^ j := Nat.pow_pos (by omega)
  rw [Nat.mul_eq_zero]
  simp only [eq_iff_iff]
  omega
theorem rnP_scale (m : Int) (neg : Bool) (T j : Nat) (E : Int) : rnP m neg (T * 2 ^ j) (E - j) = rnP m neg T E := by
  unfold rnP
  simp only [scale_ne]
  by_cases h : T = 0
  · rw [if_pos h, if_pos h]
  · rw [if_neg h, if_neg h, p0_scale h]
theorem rnF_scale (m : Int) (neg : Bool) (T j : Nat) (E : Int) : rnF m neg (T * 2 ^ j) (E - j) = rnF m neg T E := by
  unfold rnF
  simp only [scale_ne]
  by_cases h : T = 0
  · rw [if_pos h, if_pos h]
  · rw [if_neg h, if_neg h, p0_scale h, tiny_scale h, lowE_scale h, toL_scale]
end Go.Rn
