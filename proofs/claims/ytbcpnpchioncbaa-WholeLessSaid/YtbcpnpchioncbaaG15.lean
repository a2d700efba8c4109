/-
  PLAIN ARITHMETIC: words of 32 bits as parts of 16.
-/
import Derived.Test.YtbcpnpchioncbaaG14
namespace Go.Nt

/-- each word's two parts -/
def fl : List Int → List Int
  | [] => []
  | x :: l => x % 65536 :: x / 65536 :: fl l
theorem fl_len : ∀ L : List Int, (fl L).length = 2 * L.length
  | [] => rfl
  | x :: l => by simp [fl, fl_len l]; omega
theorem fl_append : ∀ L M : List Int, fl (L ++ M) = fl L ++ fl M
  | [], M => rfl
  | x :: l, M => by simp [fl, fl_append l M]
theorem fl_dg : ∀ {L : List Int}, (∀ x ∈ L, 0 ≤ x ∧ x < 4294967296) → ∀ y ∈ fl L, Dg 65536 y
  | [], _, y, hy => by cases hy
  | x :: l, h, y, hy => by
    have hx := h x (List.mem_cons_self)
    simp only [fl, List.mem_cons] at hy
    rcases hy with rfl | rfl | hy
    · exact ⟨by omega, by omega⟩
    · exact ⟨by omega, by omega⟩
    · exact fl_dg (fun z hz => h z (List.mem_cons_of_mem _ hz)) y hy
theorem fl_val : ∀ {L : List Int}, (∀ x ∈ L, 0 ≤ x ∧ x < 4294967296) → vb 65536 (fl L) = vb 4294967296 L
  | [], _ => rfl
  | x :: l, h => by
    have hx := h x (List.mem_cons_self)
    simp only [fl, vb, fl_val (fun z hz => h z (List.mem_cons_of_mem _ hz))]
    omega
theorem vb_one (b : Nat) (x : Int) : vb b [x] = x.toNat := by simp [vb]
theorem vb_take (b : Nat) (L : List Int) (i : Nat) : vb b (L.take (i + 1)) = vb b (L.take i) + b ^ i * (L.getD i 0).toNat := by
  by_cases h : i < L.length
  · have e : L.take (i + 1) = L.take i ++ [L.getD i 0] := by
      rw [List.take_add_one, List.getElem?_eq_getElem h]
      simp [List.getD, List.getElem?_eq_getElem h]
    rw [e, vb_append, vb_one, List.length_take]
    rw [show min i L.length = i from by omega]
  · rw [List.take_of_length_le (by omega), List.take_of_length_le (by omega)]
    simp [List.getD, List.getElem?_eq_none (show L.length ≤ i by omega)]
theorem vb_snoc (b : Nat) (O : List Int) (x : Int) : vb b (O ++ [x]) = vb b O + b ^ O.length * x.toNat := by rw [vb_append, vb_one]
/-- one digit more of a sum: what is carried is told by the base's power -/
theorem sum_stepB {b : Nat} {O : List Int} {X Y : Nat} {k a c : Nat} (h : vb b O + b ^ O.length * k = X + Y) :
    vb b (O ++ [(((k + a + c) % b : Nat) : Int)]) + b ^ (O.length + 1) * ((k + a + c) / b) = (X + b ^ O.length * a) + (Y + b ^ O.length * c) := by
  rw [vb_snoc, Int.toNat_natCast, Nat.pow_succ, Nat.mul_assoc]
  have e := Nat.mod_add_div (k + a + c) b
  generalize hP : b ^ O.length = P at *
  have e1 : P * ((k + a + c) % b) + P * (b * ((k + a + c) / b)) = P * (k + a + c) := by rw [← Nat.mul_add, e]
  have e2 : P * (k + a + c) = P * k + P * a + P * c := by rw [Nat.mul_add, Nat.mul_add]
  omega
end Go.Nt

/-
  PLAIN ARITHMETIC: how many bits a number has; of digits to the base 65536.
-/
namespace Go.Nt

/-- how many bits -/
def bl (V : Nat) : Nat := if _h : V = 0 then 0 else bl (V / 2) + 1
  termination_by V
  decreasing_by omega
theorem bl_zero : bl 0 = 0 := by rw [bl]; simp
theorem bl_pos {V : Nat} (h : V ≠ 0) : bl V = bl (V / 2) + 1 := by rw [bl]; rw [dif_neg h]
theorem bl_lt (V : Nat) : V < 2 ^ bl V := by
  induction V using Nat.strongRecOn with
  | ind V ih =>
    by_cases h : V = 0
    · subst h; rw [bl_zero]; decide
    · rw [bl_pos h, Nat.pow_succ]
      have := ih (V / 2) (by omega)
      omega
theorem bl_le {V : Nat} (h : V ≠ 0) : 2 ^ (bl V - 1) ≤ V := by
  induction V using Nat.strongRecOn with
  | ind V ih =>
    rw [bl_pos h, Nat.add_sub_cancel]
    by_cases h2 : V / 2 = 0
    · rw [h2, bl_zero]; omega
    · have i := ih (V / 2) (by omega) h2
      have e : bl (V / 2) = (bl (V / 2) - 1) + 1 := by
        have := bl_pos h2
        omega
      rw [e, Nat.pow_succ]
      omega
theorem bl_uniq {V k : Nat} (h0 : 2 ^ k ≤ V) (h1 : V < 2 ^ (k + 1)) : bl V = k + 1 := by
  have hp : 0 < 2 ^ k := Nat.pow_pos (by omega)
  have hV : V ≠ 0 := by omega
  have a1 := bl_lt V
  have a2 := bl_le hV
  have a3 : bl V ≠ 0 := by have := bl_pos hV; omega
  rcases Nat.lt_or_ge (bl V) (k + 1) with h | h
  · have := Nat.pow_le_pow_right (show 0 < 2 by omega) (show bl V ≤ k by omega)
    omega
  · rcases Nat.lt_or_ge (k + 1) (bl V) with h' | h'
    · have := Nat.pow_le_pow_right (show 0 < 2 by omega) (show k + 1 ≤ bl V - 1 by omega)
      omega
    · omega
theorem bl_le_of {V k : Nat} (h : V < 2 ^ k) : bl V ≤ k := by
  by_cases hV : V = 0
  · subst hV; rw [bl_zero]; omega
  · have a := bl_le hV
    rcases Nat.lt_or_ge k (bl V) with h' | h'
    · have := Nat.pow_le_pow_right (show 0 < 2 by omega) (show k ≤ bl V - 1 by omega)
      omega
    · exact h'
theorem pow16 (k : Nat) : 65536 ^ k = 2 ^ (16 * k) := by rw [show (65536 : Nat) = 2 ^ 16 from rfl, ← Nat.pow_mul]
/-- the bits of a number by its highest part -/
theorem bl_top {t lo k : Nat} (ht : t ≠ 0) (hlo : lo < 65536 ^ k) : bl (lo + 65536 ^ k * t) = 16 * k + bl t := by
  have a1 := bl_lt t
  have a2 := bl_le ht
  have a3 : bl t ≠ 0 := by have := bl_pos ht; omega
  rw [pow16] at *
  have e : 16 * k + bl t = (16 * k + (bl t - 1)) + 1 := by omega
  rw [e]
  refine bl_uniq ?_ ?_
  · rw [Nat.pow_add]
    have := Nat.mul_le_mul_left (2 ^ (16 * k)) a2
    omega
  · rw [Nat.add_assoc, show bl t - 1 + 1 = bl t by omega, Nat.pow_add]
    have := Nat.mul_le_mul_left (2 ^ (16 * k)) (show t + 1 ≤ 2 ^ bl t by omega)
    rw [Nat.mul_add, Nat.mul_one] at this
    omega
end Go.Nt
