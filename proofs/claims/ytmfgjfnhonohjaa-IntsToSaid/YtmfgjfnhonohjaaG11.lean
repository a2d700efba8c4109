/-
  PLAIN ARITHMETIC: how many bits a number has; of digits to the base 65536.
-/
import Derived.Test.YtmfgjfnhonohjaaG10
import Derived.Test.YtmfgjfnhonohjaaG07
namespace Go.Nt

/-- how many bits -/
def bl (V : Nat) : Nat := if _h : V = 0 then 0 else bl (V / 2) + 1
  termination_by V
  decreasing_by omega
theorem bl_zero : bl 0 = 0 := by rw [bl]; simp
theorem bl_pos {V : Nat} (h : V ≠ 0) : bl V = bl (V / 2) + 1 := by rw [bl]; rw [dif_neg h]
theorem bl_lt (V : Nat) : V < 2 ^ bl V := by
  induction V using Nat.strongRecOn with
  | ind V ih =>
    by_cases h : V = 0
    · subst h; rw [bl_zero]; decide
    · rw [bl_pos h, Nat.pow_succ]
      have := ih (V / 2) (by omega)
      omega
theorem bl_le {V : Nat} (h : V ≠ 0) : 2 ^ (bl V - 1) ≤ V := by
  induction V using Nat.strongRecOn with
  | ind V ih =>
    rw [bl_pos h, Nat.add_sub_cancel]
    by_cases h2 : V / 2 = 0
    · rw [h2, bl_zero]; omega
    · have i := ih (V / 2) (by omega) h2
      have e : bl (V / 2) = (bl (V / 2) - 1) + 1 := by
        have := bl_pos h2
        omega
      rw [e, Nat.pow_succ]
      omega
theorem bl_uniq {V k : Nat} (h0 : 2 ^ k ≤ V) (h1 : V < 2 ^ (k + 1)) : bl V = k + 1 := by
  have hp : 0 < 2 ^ k := Nat.pow_pos (by omega)
  have hV : V ≠ 0 := by omega
  have a1 := bl_lt V
  have a2 := bl_le hV
  have a3 : bl V ≠ 0 := by have := bl_pos hV; omega
  rcases Nat.lt_or_ge (bl V) (k + 1) with h | h
  · have := Nat.pow_le_pow_right (show 0 < 2 by omega) (show bl V ≤ k by omega)
    omega
  · rcases Nat.lt_or_ge (k + 1) (bl V) with h' | h'
    · have := Nat.pow_le_pow_right (show 0 < 2 by omega) (show k + 1 ≤ bl V - 1 by omega)
      omega
    · omega
theorem bl_le_of {V k : Nat} (h : V < 2 ^ k) : bl V ≤ k := by
  by_cases hV : V = 0
  · subst hV; rw [bl_zero]; omega
  · have a := bl_le hV
    rcases Nat.lt_or_ge k (bl V) with h' | h'
    · have := Nat.pow_le_pow_right (show 0 < 2 by omega) (show k ≤ bl V - 1 by omega)
      omega
    · exact h'
theorem pow16 (k : Nat) : 65536 ^ k = 2 ^ (16 * k) := by rw [show (65536 : Nat) = 2 ^ 16 from rfl, ← Nat.pow_mul]
/-- the bits of a number by its highest part -/
theorem bl_top {t lo k : Nat} (ht : t ≠ 0) (hlo : lo < 65536 ^ k) : bl (lo + 65536 ^ k * t) = 16 * k + bl t := by
  have a1 := bl_lt t
  have a2 := bl_le ht
  have a3 : bl t ≠ 0 := by have := bl_pos ht; omega
  rw [pow16] at *
  have e : 16 * k + bl t = (16 * k + (bl t - 1)) + 1 := by omega
  rw [e]
  refine bl_uniq ?_ ?_
  · rw [Nat.pow_add]
    have := Nat.mul_le_mul_left (2 ^ (16 * k)) a2
    omega
  · rw [Nat.add_assoc, show bl t - 1 + 1 = bl t by omega, Nat.pow_add]
    have := Nat.mul_le_mul_left (2 ^ (16 * k)) (show t + 1 ≤ 2 ^ bl t by omega)
    rw [Nat.mul_add, Nat.mul_one] at this
    omega
end Go.Nt

/-
  PLAIN ARITHMETIC: digits to the base 65536, moved down; a bit.
-/
namespace Go.Nt

def dgS (L : List Int) (i : Nat) : Nat := (L.getD i 0).toNat
theorem pow_split16 (k : Nat) : 2 ^ k = 65536 ^ (k / 16) * 2 ^ (k % 16) := by
  rw [pow16, ← Nat.pow_add]
  congr 1
  omega
theorem dg_lt {L : List Int} (h : ∀ x ∈ L, Dg 65536 x) (i : Nat) : dgS L i < 65536 := by
  unfold dgS
  by_cases hi : i < L.length
  · have := h (L.getD i 0) (by simp [List.getD, List.getElem?_eq_getElem hi])
    omega
  · simp [List.getD, List.getElem?_eq_none (show L.length ≤ i by omega)]
theorem vb_cut {L : List Int} (h : ∀ x ∈ L, Dg 65536 x) (z : Nat) : vb 65536 L / 65536 ^ z = vb 65536 (L.drop z) ∧ vb 65536 L % 65536 ^ z = vb 65536 (L.take z) := by
  have hp : 0 < 65536 ^ z := Nat.pow_pos (by omega)
  by_cases hz : z ≤ L.length
  · have e : vb 65536 L = vb 65536 (L.take z) + 65536 ^ z * vb 65536 (L.drop z) := by
      conv => lhs; rw [← List.take_append_drop z L]
      rw [vb_append, List.length_take, show min z L.length = z by omega]
    have hl : vb 65536 (L.take z) < 65536 ^ z := by
      have := vb_lt (b := 65536) (by omega) (L.take z) (fun x hx => h x (List.mem_of_mem_take hx))
      rw [List.length_take, show min z L.length = z by omega] at this
      exact this
    rw [e]
    exact ⟨by rw [Nat.add_mul_div_left _ _ hp, Nat.div_eq_of_lt hl, Nat.zero_add], by rw [Nat.add_mul_mod_self_left, Nat.mod_eq_of_lt hl]⟩
  · have hl : vb 65536 L < 65536 ^ z := by
      have h1 := vb_lt (b := 65536) (by omega) L h
      have h2 := Nat.pow_le_pow_right (show 0 < 65536 by omega) (show L.length ≤ z by omega)
      omega
    rw [List.drop_of_length_le (by omega), List.take_of_length_le (by omega)]
    exact ⟨Nat.div_eq_of_lt hl, Nat.mod_eq_of_lt hl⟩
theorem vb_drop {L : List Int} {z : Nat} : vb 65536 (L.drop z) = dgS L z + 65536 * vb 65536 (L.drop (z + 1)) := by
  by_cases hz : z < L.length
  · rw [List.drop_eq_getElem_cons hz]
    simp only [vb, dgS]
    simp [List.getD, List.getElem?_eq_getElem hz]
  · rw [List.drop_of_length_le (by omega), List.drop_of_length_le (by omega)]
    simp [vb, dgS, List.getD, List.getElem?_eq_none (show L.length ≤ z by omega)]
theorem dvd_pow {s : Nat} (h : s ≤ 16) : 2 ^ s * 2 ^ (16 - s) = 65536 := by rw [← Nat.pow_add, show s + (16 - s) = 16 by omega]
/-- a bit by its digit -/
theorem bit_dg {L : List Int} (h : ∀ x ∈ L, Dg 65536 x) (k : Nat) : vb 65536 L / 2 ^ k % 2 = dgS L (k / 16) / 2 ^ (k % 16) % 2 := by
  obtain ⟨e, _⟩ := vb_cut h (k / 16)
  rw [pow_split16, ← Nat.div_div_eq_div_mul, e, vb_drop]
  have hd := dvd_pow (s := k % 16 + 1) (by omega)
  have e2 : 65536 * vb 65536 (L.drop (k / 16 + 1)) = 2 ^ (k % 16) * (2 * (2 ^ (16 - (k % 16 + 1)) * vb 65536 (L.drop (k / 16 + 1)))) := by
    rw [← hd, Nat.pow_succ]
    simp only [Nat.mul_assoc]
  have hp : 0 < 2 ^ (k % 16) := Nat.pow_pos (by omega)
  rw [e2, Nat.add_mul_div_left _ _ hp]
  omega
/-- what is cut off -/
theorem lost_iff {L : List Int} (h : ∀ x ∈ L, Dg 65536 x) (k : Nat) : (vb 65536 L % 2 ^ k ≠ 0) ↔ (vb 65536 (L.take (k / 16)) ≠ 0 ∨ dgS L (k / 16) % 2 ^ (k % 16) ≠ 0) := by
  obtain ⟨e1, e2⟩ := vb_cut h (k / 16)
  have hp : 0 < 65536 ^ (k / 16) := Nat.pow_pos (by omega)
  rw [pow_split16, Nat.mod_mul, e1, e2, vb_drop]
  have hd := dvd_pow (s := k % 16) (by omega)
  have e3 : (dgS L (k / 16) + 65536 * vb 65536 (L.drop (k / 16 + 1))) % 2 ^ (k % 16) = dgS L (k / 16) % 2 ^ (k % 16) := by
    rw [← hd, Nat.mul_assoc, Nat.add_mul_mod_self_left]
  rw [e3]
  generalize dgS L (k / 16) % 2 ^ (k % 16) = r
  generalize vb 65536 (L.take (k / 16)) = u
  constructor
  · intro h0
    by_cases hu : u = 0
    · right
      intro hr
      apply h0
      rw [hu, hr, Nat.mul_zero]
    · exact .inl hu
  · rintro (h0 | h0) hh
    · omega
    · have : 0 < 65536 ^ (k / 16) * r := Nat.mul_pos hp (by omega)
      omega
/-- the digits of a number moved down: one more -/
theorem down_step {O : List Int} {P R y x0 x1 j W : Nat} (hPR : P * R = 65536) (hO : O.length = j) (h : vb 65536 O * P + y = W + 65536 ^ j * (x0 % P)) :
    vb 65536 (O ++ [((x0 / P + x1 % P * R : Nat) : Int)]) * P + y = (W + 65536 ^ j * x0) + 65536 ^ (j + 1) * (x1 % P) := by
  have e : vb 65536 (O ++ [((x0 / P + x1 % P * R : Nat) : Int)]) = vb 65536 O + 65536 ^ j * (x0 / P + x1 % P * R) := by
    rw [vb_snoc, hO, Int.toNat_natCast]
  have e2 := Nat.div_add_mod x0 P
  have e3 : 65536 ^ j * (x0 / P + x1 % P * R) * P = 65536 ^ j * (P * (x0 / P)) + 65536 ^ (j + 1) * (x1 % P) := by
    rw [Nat.mul_assoc, Nat.add_mul, Nat.mul_add, Nat.mul_comm (x0 / P) P, Nat.mul_assoc (x1 % P), Nat.mul_comm R P, hPR, Nat.pow_succ, Nat.mul_comm (x1 % P), Nat.mul_assoc]
  have e4 : 65536 ^ j * x0 = 65536 ^ j * (P * (x0 / P)) + 65536 ^ j * (x0 % P) := by rw [← Nat.mul_add, e2]
  rw [e, Nat.add_mul, e3]
  omega
theorem down_lt {P R x0 x1 : Nat} (hP : 0 < P) (hPR : P * R = 65536) (h0 : x0 < 65536) : x0 / P + x1 % P * R < 65536 := by
  have h1 : x0 / P < R := Nat.div_lt_of_lt_mul (by omega)
  have h2 : x1 % P + 1 ≤ P := Nat.mod_lt _ hP
  have h3 := Nat.mul_le_mul_right R h2
  rw [Nat.add_mul, Nat.one_mul, hPR] at h3
  omega
theorem down_end {L : List Int} (h : ∀ x ∈ L, Dg 65536 x) {k V' : Nat} (e : V' * 2 ^ (k % 16) + dgS L (k / 16) % 2 ^ (k % 16) = vb 65536 (L.drop (k / 16))) : V' = vb 65536 L / 2 ^ k := by
  have hp : 0 < 2 ^ (k % 16) := Nat.pow_pos (by omega)
  obtain ⟨e1, _⟩ := vb_cut h (k / 16)
  rw [pow_split16, ← Nat.div_div_eq_div_mul, e1, ← e, Nat.add_comm, Nat.mul_comm, Nat.add_mul_div_left _ _ hp, Nat.div_eq_of_lt (Nat.mod_lt _ hp), Nat.zero_add]
end Go.Nt

/-
  PLAIN ARITHMETIC: what is left beyond a multiple, by its first bit and whether there is more; how many bits, told in two ways; far away all is the same.
-/
namespace Go.Rn
open Go.Nt

theorem bl_bitLen (V : Nat) : bl V = bitLen V := by
  by_cases h : V = 0
  · subst h; rw [bl_zero]; rfl
  · have h1 := (bitLen_spec V).1
    have h2 := (bitLen_spec V).2 h
    have h3 := len_pos h
    obtain ⟨k, hk⟩ : ∃ k, bitLen V = k + 1 := ⟨bitLen V - 1, by omega⟩
    rw [hk] at h1 h2 ⊢
    exact bl_uniq h2 h1
theorem half_iff (T k : Nat) : (T / 2 ^ k % 2 = 1) ↔ 2 ^ k ≤ T % 2 ^ (k + 1) := by
  have hp : 0 < 2 ^ k := Nat.pow_pos (by omega)
  have e : T % 2 ^ (k + 1) = T % 2 ^ k + 2 ^ k * (T / 2 ^ k % 2) := by rw [Nat.pow_succ, Nat.mod_mul]
  have hl := Nat.mod_lt T hp
  have h2 : T / 2 ^ k % 2 = 0 ∨ T / 2 ^ k % 2 = 1 := by omega
  rw [e]
  clear e
  generalize T % 2 ^ k = r at hl
  generalize T / 2 ^ k % 2 = b at h2
  generalize 2 ^ k = P at hl hp
  rcases h2 with h | h
  · subst h
    simp only [Nat.mul_zero, Nat.add_zero]
    omega
  · subst h
    rw [Nat.mul_one]
    exact ⟨fun _ => Nat.le_add_left _ _, fun _ => rfl⟩
/-- the document's way to round: half, and just half -/
theorem up_doc {r k : Nat} (hr : r ≠ 0) (M : Int) (neg o : Bool) :
    upR M neg o (restC r (2 ^ (k + 1))) = (if M = 2 then false else if M = 3 then !neg else if M = 4 then neg else if M = 1 then decide (2 ^ k ≤ r) else (decide (2 ^ k ≤ r) && (!decide (r = 2 ^ k) || o))) := by
  have hc : ¬ restC r (2 ^ (k + 1)) = 0 := by rw [restC_iff]; exact hr
  unfold upR
  rw [if_neg hc]
  by_cases h2 : M = 2
  · rw [if_pos h2, if_pos h2]
  · rw [if_neg h2, if_neg h2]
    by_cases h3 : M = 3
    · rw [if_pos h3, if_pos h3]
    · rw [if_neg h3, if_neg h3]
      by_cases h4 : M = 4
      · rw [if_pos h4, if_pos h4]
      · rw [if_neg h4, if_neg h4]
        have e : 2 ^ (k + 1) = 2 * 2 ^ k := by rw [Nat.pow_succ, Nat.mul_comm]
        unfold restC
        rw [if_neg hr, e]
        generalize 2 ^ k = P
        by_cases a : 2 * r < 2 * P
        · rw [if_pos a]
          have : decide (P ≤ r) = false := decide_eq_false (by omega)
          rw [this]
          split <;> simp
        · rw [if_neg a]
          by_cases b : 2 * r = 2 * P
          · rw [if_pos b]
            have h1 : decide (P ≤ r) = true := decide_eq_true (by omega)
            have h5 : decide (r = P) = true := decide_eq_true (by omega)
            rw [h1, h5]
            split <;> simp
          · rw [if_neg b]
            have h1 : decide (P ≤ r) = true := decide_eq_true (by omega)
            have h5 : decide (r = P) = false := decide_eq_false (by omega)
            rw [h1, h5]
            split <;> simp
end Go.Rn
