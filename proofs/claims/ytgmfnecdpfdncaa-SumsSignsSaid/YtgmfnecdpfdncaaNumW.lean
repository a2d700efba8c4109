/-
  PLAIN ARITHMETIC: words of 32 bits as parts of 16.
-/
import Derived.Test.YtgmfnecdpfdncaaNumV
namespace Go.Nt

/-- each word's two parts -/
def fl : List Int → List Int
  | [] => []
  | x :: l => x % 65536 :: x / 65536 :: fl l
theorem fl_len : ∀ L : List Int, (fl L).length = 2 * L.length
  | [] => rfl
  | x :: l => by simp [fl, fl_len l]; omega
theorem fl_append : ∀ L M : List Int, fl (L ++ M) = fl L ++ fl M
  | [], M => rfl
  | x :: l, M => by simp [fl, fl_append l M]
theorem fl_dg : ∀ {L : List Int}, (∀ x ∈ L, 0 ≤ x ∧ x < 4294967296) → ∀ y ∈ fl L, Dg 65536 y
  | [], _, y, hy => by cases hy
  | x :: l, h, y, hy => by
    have hx := h x (List.mem_cons_self)
    simp only [fl, List.mem_cons] at hy
    rcases hy with rfl | rfl | hy
    · exact ⟨by omega, by omega⟩
    · exact ⟨by omega, by omega⟩
    · exact fl_dg (fun z hz => h z (List.mem_cons_of_mem _ hz)) y hy
theorem fl_val : ∀ {L : List Int}, (∀ x ∈ L, 0 ≤ x ∧ x < 4294967296) → vb 65536 (fl L) = vb 4294967296 L
  | [], _ => rfl
  | x :: l, h => by
    have hx := h x (List.mem_cons_self)
    simp only [fl, vb, fl_val (fun z hz => h z (List.mem_cons_of_mem _ hz))]
    omega
theorem vb_one (b : Nat) (x : Int) : vb b [x] = x.toNat := by simp [vb]
theorem vb_take (b : Nat) (L : List Int) (i : Nat) : vb b (L.take (i + 1)) = vb b (L.take i) + b ^ i * (L.getD i 0).toNat := by
  by_cases h : i < L.length
  · have e : L.take (i + 1) = L.take i ++ [L.getD i 0] := by
      rw [List.take_add_one, List.getElem?_eq_getElem h]
      simp [List.getD, List.getElem?_eq_getElem h]
    rw [e, vb_append, vb_one, List.length_take]
    rw [show min i L.length = i from by omega]
  · rw [List.take_of_length_le (by omega), List.take_of_length_le (by omega)]
    simp [List.getD, List.getElem?_eq_none (show L.length ≤ i by omega)]
theorem vb_snoc (b : Nat) (O : List Int) (x : Int) : vb b (O ++ [x]) = vb b O + b ^ O.length * x.toNat := by rw [vb_append, vb_one]
/-- one digit more of a sum: what is carried is told by the base's power -/
theorem sum_step {b : Nat} {O : List Int} {X Y : Nat} {k a c : Nat} (h : vb b O + b ^ O.length * k = X + Y) :
    vb b (O ++ [(((k + a + c) % b : Nat) : Int)]) + b ^ (O.length + 1) * ((k + a + c) / b) = (X + b ^ O.length * a) + (Y + b ^ O.length * c) := by
  rw [vb_snoc, Int.toNat_natCast, Nat.pow_succ, Nat.mul_assoc]
  have e := Nat.mod_add_div (k + a + c) b
  generalize hP : b ^ O.length = P at *
  have e1 : P * ((k + a + c) % b) + P * (b * ((k + a + c) / b)) = P * (k + a + c) := by rw [← Nat.mul_add, e]
  have e2 : P * (k + a + c) = P * k + P * a + P * c := by rw [Nat.mul_add, Nat.mul_add]
  omega
end Go.Nt
