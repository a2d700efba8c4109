/-
  PLAIN ARITHMETIC: words of 32 bits as parts of 16.
-/
import Derived.Test.YteglhjkpcljpmaaG10
namespace Go.Nt

/-- each word's two parts -/
def fl : List Int → List Int
  | [] => []
  | x :: l => x % 65536 :: x / 65536 :: fl l
theorem fl_len : ∀ L : List Int, (fl L).length = 2 * L.length
  | [] => rfl
  | x :: l => by simp [fl, fl_len l]; omega
theorem fl_append : ∀ L M : List Int, fl (L ++ M) = fl L ++ fl M
  | [], M => rfl
  | x :: l, M => by simp [fl, fl_append l M]
theorem fl_dg : ∀ {L : List Int}, (∀ x ∈ L, 0 ≤ x ∧ x < 4294967296) → ∀ y ∈ fl L, Dg 65536 y
  | [], _, y, hy => by cases hy
  | x :: l, h, y, hy => by
    have hx := h x (List.mem_cons_self)
    simp only [fl, List.mem_cons] at hy
    rcases hy with rfl | rfl | hy
    · exact ⟨by omega, by omega⟩
    · exact ⟨by omega, by omega⟩
    · exact fl_dg (fun z hz => h z (List.mem_cons_of_mem _ hz)) y hy
theorem fl_val : ∀ {L : List Int}, (∀ x ∈ L, 0 ≤ x ∧ x < 4294967296) → vb 65536 (fl L) = vb 4294967296 L
  | [], _ => rfl
  | x :: l, h => by
    have hx := h x (List.mem_cons_self)
    simp only [fl, vb, fl_val (fun z hz => h z (List.mem_cons_of_mem _ hz))]
    omega
theorem vb_one (b : Nat) (x : Int) : vb b [x] = x.toNat := by simp [vb]
theorem vb_take (b : Nat) (L : List Int) (i : Nat) : vb b (L.take (i + 1)) = vb b (L.take i) + b ^ i * (L.getD i 0).toNat := by
  by_cases h : i < L.length
  · have e : L.take (i + 1) = L.take i ++ [L.getD i 0] := by
      rw [List.take_add_one, List.getElem?_eq_getElem h]
      simp [List.getD, List.getElem?_eq_getElem h]
    rw [e, vb_append, vb_one, List.length_take]
    rw [show min i L.length = i from by omega]
  · rw [List.take_of_length_le (by omega), List.take_of_length_le (by omega)]
    simp [List.getD, List.getElem?_eq_none (show L.length ≤ i by omega)]
theorem vb_snoc (b : Nat) (O : List Int) (x : Int) : vb b (O ++ [x]) = vb b O + b ^ O.length * x.toNat := by rw [vb_append, vb_one]
/-- one digit more of a sum: what is carried is told by the base's power -/
theorem sum_stepB {b : Nat} {O : List Int} {X Y : Nat} {k a c : Nat} (h : vb b O + b ^ O.length * k = X + Y) :
    vb b (O ++ [(((k + a + c) % b : Nat) : Int)]) + b ^ (O.length + 1) * ((k + a + c) / b) = (X + b ^ O.length * a) + (Y + b ^ O.length * c) := by
  rw [vb_snoc, Int.toNat_natCast, Nat.pow_succ, Nat.mul_assoc]
  have e := Nat.mod_add_div (k + a + c) b
  generalize hP : b ^ O.length = P at *
  have e1 : P * ((k + a + c) % b) + P * (b * ((k + a + c) / b)) = P * (k + a + c) := by rw [← Nat.mul_add, e]
  have e2 : P * (k + a + c) = P * k + P * a + P * c := by rw [Nat.mul_add, Nat.mul_add]
  omega
end Go.Nt

/-
  PLAIN ARITHMETIC: how many bits a number has; of digits to the base 65536.
-/
namespace Go.Nt

/-- how many bits -/
def bl (V : Nat) : Nat := if _h : V = 0 then 0 else bl (V / 2) + 1
  termination_by V
  decreasing_by omega
theorem bl_zero : bl 0 = 0 := by rw [bl]; simp
theorem bl_pos {V : Nat} (h : V ≠ 0) : bl V = bl (V / 2) + 1 := by rw [bl]; rw [dif_neg h]
theorem bl_lt (V : Nat) : V < 2 ^ bl V := by
  induction V using Nat.strongRecOn with
  | ind V ih =>
    by_cases h : V = 0
    · subst h; rw [bl_zero]; decide
    · rw [bl_pos h, Nat.pow_succ]
      have := ih (V / 2) (by omega)
      omega
theorem bl_le {V : Nat} (h : V ≠ 0) : 2 ^ (bl V - 1) ≤ V := by
  induction V using Nat.strongRecOn with
  | ind V ih =>
    rw [bl_pos h, Nat.add_sub_cancel]
    by_cases h2 : V / 2 = 0
    · rw [h2, bl_zero]; omega
    · have i := ih (V / 2) (by omega) h2
      have e : bl (V / 2) = (bl (V / 2) - 1) + 1 := by
        have := bl_pos h2
        omega
      rw [e, Nat.pow_succ]
      omega
theorem bl_uniq {V k : Nat} (h0 : 2 ^ k ≤ V) (h1 : V < 2 ^ (k + 1)) : bl V = k + 1 := by
  have hp : 0 < 2 ^ k := Nat.pow_pos (by omega)
  have hV : V ≠ 0 := by omega
  have a1 := bl_lt V
  have a2 := bl_le hV
  have a3 : bl V ≠ 0 := by have := bl_pos hV; omega
  rcases Nat.lt_or_ge (bl V) (k + 1) with h | h
  · have := Nat.pow_le_pow_right (show 0 < 2 by omega) (show bl V ≤ k by omega)
    omega
  · rcases Nat.lt_or_ge (k + 1) (bl V) with h' | h'
    · have := Nat.pow_le_pow_right (show 0 < 2 by omega) (show k + 1 ≤ bl V - 1 by omega)
      omega
    · omega
theorem bl_le_of {V k : Nat} (h : V < 2 ^ k) : bl V ≤ k := by
  by_cases hV : V = 0
  · subst hV; rw [bl_zero]; omega
  · have a := bl_le hV
    rcases Nat.lt_or_ge k (bl V) with h' | h'
    · have := Nat.pow_le_pow_right (show 0 < 2 by omega) (show k ≤ bl V - 1 by omega)
      omega
    · exact h'
theorem pow16 (k : Nat) : 65536 ^ k = 2 ^ (16 * k) := by rw [show (65536 : Nat) = 2 ^ 16 from rfl, ← Nat.pow_mul]
/-- the bits of a number by its highest part -/
theorem bl_top {t lo k : Nat} (ht : t ≠ 0) (hlo : lo < 65536 ^ k) : bl (lo + 65536 ^ k * t) = 16 * k + bl t := by
  have a1 := bl_lt t
  have a2 := bl_le ht
  have a3 : bl t ≠ 0 := by have := bl_pos ht; omega
  rw [pow16] at *
  have e : 16 * k + bl t = (16 * k + (bl t - 1)) + 1 := by omega
  rw [e]
  refine bl_uniq ?_ ?_
  · rw [Nat.pow_add]
    have := Nat.mul_le_mul_left (2 ^ (16 * k)) a2
    omega
  · rw [Nat.add_assoc, show bl t - 1 + 1 = bl t by omega, Nat.pow_add]
    have := Nat.mul_le_mul_left (2 ^ (16 * k)) (show t + 1 ≤ 2 ^ bl t by omega)
    rw [Nat.mul_add, Nat.mul_one] at this
    omega
end Go.Nt

/-
  PLAIN ARITHMETIC: digits to the base 65536, moved down; a bit.
-/
namespace Go.Nt

def dgS (L : List Int) (i : Nat) : Nat := (L.getD i 0).toNat
theorem pow_split16 (k : Nat) : 2 ^ k = 65536 ^ (k / 16) * 2 ^ (k % 16) := by
  rw [pow16, ← Nat.pow_add]
  congr 1
  omega
theorem dg_lt {L : List Int} (h : ∀ x ∈ L, Dg 65536 x) (i : Nat) : dgS L i < 65536 := by
  unfold dgS
  by_cases hi : i < L.length
  · have := h (L.getD i 0) (by simp [List.getD, List.getElem?_eq_getElem hi])
    omega
  · simp [List.getD, List.getElem?_eq_none (show L.length ≤ i by omega)]
theorem vb_cut {L : List Int} (h : ∀ x ∈ L, Dg 65536 x) (z : Nat) : vb 65536 L / 65536 ^ z = vb 65536 (L.drop z) ∧ vb 65536 L % 65536 ^ z = vb 65536 (L.take z) := by
  have hp : 0 < 65536 ^ z := Nat.pow_pos (by omega)
  by_cases hz : z ≤ L.length
  · have e : vb 65536 L = vb 65536 (L.take z) + 65536 ^ z * vb 65536 (L.drop z) := by
      conv => lhs; rw [← List.take_append_drop z L]
      rw [vb_append, List.length_take, show min z L.length = z by omega]
    have hl : vb 65536 (L.take z) < 65536 ^ z := by
      have := vb_lt (b := 65536) (by omega) (L.take z) (fun x hx => h x (List.mem_of_mem_take hx))
      rw [List.length_take, show min z L.length = z by omega] at this
      exact this
    rw [e]
    exact ⟨by rw [Nat.add_mul_div_left _ _ hp, Nat.div_eq_of_lt hl, Nat.zero_add], by rw [Nat.add_mul_mod_self_left, Nat.mod_eq_of_lt hl]⟩
  · have hl : vb 65536 L < 65536 ^ z := by
      have h1 := vb_lt (b := 65536) (by omega) L h
      have h2 := Nat.pow_le_pow_right (show 0 < 65536 by omega) (show L.length ≤ z by omega)
      omega
    rw [List.drop_of_length_le (by omega), List.take_of_length_le (by omega)]
    exact ⟨Nat.div_eq_of_lt hl, Nat.mod_eq_of_lt hl⟩
theorem vb_drop {L : List Int} {z : Nat} : vb 65536 (L.drop z) = dgS L z + 65536 * vb 65536 (L.drop (z + 1)) := by
  by_cases hz : z < L.length
  · rw [List.drop_eq_getElem_cons hz]
    simp only [vb, dgS]
    simp [List.getD, List.getElem?_eq_getElem hz]
  · rw [List.drop_of_length_le (by omega), List.drop_of_length_le (by omega)]
    simp [vb, dgS, List.getD, List.getElem?_eq_none (show L.length ≤ z by omega)]
theorem dvd_pow {s : Nat} (h : s ≤ 16) : 2 ^ s * 2 ^ (16 - s) = 65536 := by rw [← Nat.pow_add, show s + (16 - s) = 16 by omega]
/-- a bit by its digit -/
theorem bit_dg {L : List Int} (h : ∀ x ∈ L, Dg 65536 x) (k : Nat) : vb 65536 L / 2 ^ k % 2 = dgS L (k / 16) / 2 ^ (k % 16) % 2 := by
  obtain ⟨e, _⟩ := vb_cut h (k / 16)
  rw [pow_split16, ← Nat.div_div_eq_div_mul, e, vb_drop]
  have hd := dvd_pow (s := k % 16 + 1) (by omega)
  have e2 : 65536 * vb 65536 (L.drop (k / 16 + 1)) = 2 ^ (k % 16) * (2 * (2 ^ (16 - (k % 16 + 1)) * vb 65536 (L.drop (k / 16 + 1)))) := by
    rw [← hd, Nat.pow_succ]
    simp only [Nat.mul_assoc]
  have hp : 0 < 2 ^ (k % 16) := Nat.pow_pos (by omega)
  rw [e2, Nat.add_mul_div_left _ _ hp]
  omega
/-- what is cut off -/
theorem lost_iff {L : List Int} (h : ∀ x ∈ L, Dg 65536 x) (k : Nat) : (vb 65536 L % 2 ^ k ≠ 0) ↔ (vb 65536 (L.take (k / 16)) ≠ 0 ∨ dgS L (k / 16) % 2 ^ (k % 16) ≠ 0) := by
  obtain ⟨e1, e2⟩ := vb_cut h (k / 16)
  have hp : 0 < 65536 ^ (k / 16) := Nat.pow_pos (by omega)
  rw [pow_split16, Nat.mod_mul, e1, e2, vb_drop]
  have hd := dvd_pow (s := k % 16) (by omega)
  have e3 : (dgS L (k / 16) + 65536 * vb 65536 (L.drop (k / 16 + 1))) % 2 ^ (k % 16) = dgS L (k / 16) % 2 ^ (k % 16) := by
    rw [← hd, Nat.mul_assoc, Nat.add_mul_mod_self_left]
  rw [e3]
  generalize dgS L (k / 16) % 2 ^ (k % 16) = r
  generalize vb 65536 (L.take (k / 16)) = u
  constructor
  · intro h0
    by_cases hu : u = 0
    · right
      intro hr
      apply h0
      rw [hu, hr, Nat.mul_zero]
    · exact .inl hu
  · rintro (h0 | h0) hh
    · omega
    · have : 0 < 65536 ^ (k / 16) * r := Nat.mul_pos hp (by omega)
      omega
/-- the digits of a number moved down: one more -/
theorem down_step {O : List Int} {P R y x0 x1 j W : Nat} (hPR : P * R = 65536) (hO : O.length = j) (h : vb 65536 O * P + y = W + 65536 ^ j * (x0 % P)) :
    vb 65536 (O ++ [((x0 / P + x1 % P * R : Nat) : Int)]) * P + y = (W + 65536 ^ j * x0) + 65536 ^ (j + 1) * (x1 % P) := by
  have e : vb 65536 (O ++ [((x0 / P + x1 % P * R : Nat) : Int)]) = vb 65536 O + 65536 ^ j * (x0 / P + x1 % P * R) := by
    rw [vb_snoc, hO, Int.toNat_natCast]
  have e2 := Nat.div_add_mod x0 P
  have e3 : 65536 ^ j * (x0 / P + x1 % P * R) * P = 65536 ^ j * (P * (x0 / P)) + 65536 ^ (j + 1) * (x1 % P) := by
    rw [Nat.mul_assoc, Nat.add_mul, Nat.mul_add, Nat.mul_comm (x0 / P) P, Nat.mul_assoc (x1 % P), Nat.mul_comm R P, hPR, Nat.pow_succ, Nat.mul_comm (x1 % P), Nat.mul_assoc]
  have e4 : 65536 ^ j * x0 = 65536 ^ j * (P * (x0 / P)) + 65536 ^ j * (x0 % P) := by rw [← Nat.mul_add, e2]
  rw [e, Nat.add_mul, e3]
  omega
theorem down_lt {P R x0 x1 : Nat} (hP : 0 < P) (hPR : P * R = 65536) (h0 : x0 < 65536) : x0 / P + x1 % P * R < 65536 := by
  have h1 : x0 / P < R := Nat.div_lt_of_lt_mul (by omega)
  have h2 : x1 % P + 1 ≤ P := Nat.mod_lt _ hP
  have h3 := Nat.mul_le_mul_right R h2
  rw [Nat.add_mul, Nat.one_mul, hPR] at h3
  omega
theorem down_end {L : List Int} (h : ∀ x ∈ L, Dg 65536 x) {k V' : Nat} (e : V' * 2 ^ (k % 16) + dgS L (k / 16) % 2 ^ (k % 16) = vb 65536 (L.drop (k / 16))) : V' = vb 65536 L / 2 ^ k := by
  have hp : 0 < 2 ^ (k % 16) := Nat.pow_pos (by omega)
  obtain ⟨e1, _⟩ := vb_cut h (k / 16)
  rw [pow_split16, ← Nat.div_div_eq_div_mul, e1, ← e, Nat.add_comm, Nat.mul_comm, Nat.add_mul_div_left _ _ hp, Nat.div_eq_of_lt (Nat.mod_lt _ hp), Nat.zero_add]
end Go.Nt
