/-
  PLAIN ARITHMETIC: the digits of a number to a base, the lowest first, the last one not 0; the number of digits.
-/
import Derived.Test.YtbjgkhbhabdjgaaDoorG08
namespace Go.Nt

/-- a number's value, of digits to a base -/
def vb (b : Nat) : List Int → Nat
  | [] => 0
  | x :: l => x.toNat + b * vb b l
/-- a number's digits -/
def db (b V : Nat) : List Int := if _h : V = 0 ∨ b < 2 then [] else ((V % b : Nat) : Int) :: db b (V / b)
  termination_by V
  decreasing_by exact Nat.div_lt_self (by omega) (by omega)
/-- digits to a base -/
abbrev Dg (b : Nat) (x : Int) : Prop := 0 ≤ x ∧ x < b
theorem db_zero (b : Nat) : db b 0 = [] := by rw [db]; simp
theorem db_pos {b V : Nat} (hb : 2 ≤ b) (hV : V ≠ 0) : db b V = ((V % b : Nat) : Int) :: db b (V / b) := by
  rw [db]
  rw [dif_neg (by omega)]
theorem vb_db {b : Nat} (hb : 2 ≤ b) (V : Nat) : vb b (db b V) = V := by
  induction V using Nat.strongRecOn with
  | ind V ih =>
    by_cases hV : V = 0
    · subst hV; rw [db_zero]; rfl
    · rw [db_pos hb hV]
      simp only [vb]
      rw [ih (V / b) (Nat.div_lt_self (by omega) (by omega)), Int.toNat_natCast]
      exact Nat.mod_add_div V b
theorem db_dg {b : Nat} (hb : 2 ≤ b) (V : Nat) : ∀ x ∈ db b V, Dg b x := by
  induction V using Nat.strongRecOn with
  | ind V ih =>
    by_cases hV : V = 0
    · subst hV; rw [db_zero]; intro x hx; cases hx
    · rw [db_pos hb hV]
      intro x hx
      rcases List.mem_cons.1 hx with rfl | hx
      · have := Nat.mod_lt V (show b > 0 by omega)
        exact ⟨by omega, by omega⟩
      · exact ih (V / b) (Nat.div_lt_self (by omega) (by omega)) x hx
theorem db_nil {b V : Nat} (hb : 2 ≤ b) : db b V = [] ↔ V = 0 := by
  constructor
  · intro h
    by_cases hV : V = 0
    · exact hV
    · rw [db_pos hb hV] at h; cases h
  · rintro rfl; exact db_zero b
/-- digits without noughts at the end are the number's -/
theorem take_trim {b : Nat} (hb : 2 ≤ b) : ∀ (L : List Int), (∀ x ∈ L, Dg b x) → L.take (trimN L) = db b (vb b L)
  | [], _ => by simp [vb, db_zero]
  | x :: r, h => by
    have ih := take_trim hb r (fun y hy => h y (List.mem_cons_of_mem _ hy))
    have hx := h x (List.mem_cons_self)
    have hxn : ((x.toNat : Nat) : Int) = x := Int.toNat_of_nonneg hx.1
    have hlt : x.toNat < b := by omega
    have e1 : (x.toNat + b * vb b r) % b = x.toNat := by rw [Nat.add_mul_mod_self_left, Nat.mod_eq_of_lt hlt]
    have e2 : (x.toNat + b * vb b r) / b = vb b r := by rw [Nat.add_mul_div_left _ _ (by omega), Nat.div_eq_of_lt hlt, Nat.zero_add]
    unfold trimN
    by_cases h0 : trimN r = 0
    · rw [if_pos h0]
      rw [h0, List.take_zero] at ih
      have hv : vb b r = 0 := (db_nil hb).1 ih.symm
      by_cases hx0 : x = 0
      · rw [if_pos hx0]
        simp only [List.take_zero, vb, hv, hx0]
        simp [db_zero]
      · rw [if_neg hx0]
        have hx1 : x.toNat ≠ 0 := by omega
        show [x] = _
        simp only [vb]
        rw [db_pos hb (by rw [hv]; omega), e1, e2, hv, db_zero, hxn]
    · rw [if_neg h0]
      have hv : vb b r ≠ 0 := fun hv => by
        rw [hv, db_zero] at ih
        have hl := congrArg List.length ih
        have := trimN_le r
        simp at hl
        rcases hl with hl | hl
        · exact h0 hl
        · subst hl; exact h0 rfl
      have hpos : 0 < b * vb b r := Nat.mul_pos (by omega) (by omega)
      show x :: r.take (trimN r) = _
      simp only [vb]
      rw [db_pos hb (by omega), e1, e2, hxn, ih]
theorem trim_len {b : Nat} (hb : 2 ≤ b) {L : List Int} (h : ∀ x ∈ L, Dg b x) : trimN L = (db b (vb b L)).length := by
  rw [← take_trim hb L h]
  have := trimN_le L
  simp
  omega
/-- a number's digits are those of it -/
def Canon (b : Nat) (L : List Int) : Prop := (∀ x ∈ L, Dg b x) ∧ trimN L = L.length
theorem can_db {b : Nat} (hb : 2 ≤ b) (V : Nat) : Canon b (db b V) := by
  have h := db_dg hb V
  refine ⟨h, ?_⟩
  have := trim_len hb h
  rw [vb_db hb] at this
  exact this
theorem db_can {b : Nat} (hb : 2 ≤ b) {L : List Int} (h : Canon b L) : db b (vb b L) = L := by
  rw [← take_trim hb L h.1, h.2, List.take_length]
theorem db_len {b : Nat} (hb : 2 ≤ b) : ∀ (k V : Nat), V < b ^ k → (db b V).length ≤ k
  | 0, V, h => by
    have : V = 0 := by simpa using h
    subst this; rw [db_zero]; exact Nat.le_refl _
  | k + 1, V, h => by
    by_cases hV : V = 0
    · subst hV; rw [db_zero]; exact Nat.zero_le _
    · rw [db_pos hb hV]
      have : V / b < b ^ k := Nat.div_lt_of_lt_mul (by rw [Nat.pow_succ] at h; rw [Nat.mul_comm]; exact h)
      have := db_len hb k (V / b) this
      simp
      omega
theorem vb_lt {b : Nat} (hb : 2 ≤ b) : ∀ (L : List Int), (∀ x ∈ L, Dg b x) → vb b L < b ^ L.length
  | [], _ => by simp [vb]
  | x :: r, h => by
    have ih := vb_lt hb r (fun y hy => h y (List.mem_cons_of_mem _ hy))
    have hx := h x (List.mem_cons_self)
    have hlt : x.toNat < b := by omega
    simp only [vb, List.length_cons, Nat.pow_succ]
    calc x.toNat + b * vb b r < b + b * vb b r := by omega
      _ = b * (vb b r + 1) := by rw [Nat.mul_add, Nat.mul_one, Nat.add_comm]
      _ ≤ b * b ^ r.length := Nat.mul_le_mul_left _ ih
      _ = b ^ r.length * b := Nat.mul_comm _ _
theorem vb_append (b : Nat) : ∀ (L M : List Int), vb b (L ++ M) = vb b L + b ^ L.length * vb b M
  | [], M => by simp [vb]
  | x :: r, M => by
    simp only [List.cons_append, vb, vb_append b r M, List.length_cons, Nat.pow_succ]
    rw [Nat.mul_add, ← Nat.mul_assoc, Nat.mul_comm b (b ^ r.length)]
    omega
end Go.Nt

/-
  PLAIN ARITHMETIC: words of 32 bits as parts of 16.
-/
namespace Go.Nt

/-- each word's two parts -/
def fl : List Int → List Int
  | [] => []
  | x :: l => x % 65536 :: x / 65536 :: fl l
theorem fl_len : ∀ L : List Int, (fl L).length = 2 * L.length
  | [] => rfl
  | x :: l => by simp [fl, fl_len l]; omega
theorem fl_append : ∀ L M : List Int, fl (L ++ M) = fl L ++ fl M
  | [], M => rfl
  | x :: l, M => by simp [fl, fl_append l M]
theorem fl_dg : ∀ {L : List Int}, (∀ x ∈ L, 0 ≤ x ∧ x < 4294967296) → ∀ y ∈ fl L, Dg 65536 y
  | [], _, y, hy => by cases hy
  | x :: l, h, y, hy => by
    have hx := h x (List.mem_cons_self)
    simp only [fl, List.mem_cons] at hy
    rcases hy with rfl | rfl | hy
    · exact ⟨by omega, by omega⟩
    · exact ⟨by omega, by omega⟩
    · exact fl_dg (fun z hz => h z (List.mem_cons_of_mem _ hz)) y hy
theorem fl_val : ∀ {L : List Int}, (∀ x ∈ L, 0 ≤ x ∧ x < 4294967296) → vb 65536 (fl L) = vb 4294967296 L
  | [], _ => rfl
  | x :: l, h => by
    have hx := h x (List.mem_cons_self)
    simp only [fl, vb, fl_val (fun z hz => h z (List.mem_cons_of_mem _ hz))]
    omega
theorem vb_one (b : Nat) (x : Int) : vb b [x] = x.toNat := by simp [vb]
theorem vb_take (b : Nat) (L : List Int) (i : Nat) : vb b (L.take (i + 1)) = vb b (L.take i) + b ^ i * (L.getD i 0).toNat := by
  by_cases h : i < L.length
  · have e : L.take (i + 1) = L.take i ++ [L.getD i 0] := by
      rw [List.take_add_one, List.getElem?_eq_getElem h]
      simp [List.getD, List.getElem?_eq_getElem h]
    rw [e, vb_append, vb_one, List.length_take]
    rw [show min i L.length = i from by omega]
  · rw [List.take_of_length_le (by omega), List.take_of_length_le (by omega)]
    simp [List.getD, List.getElem?_eq_none (show L.length ≤ i by omega)]
theorem vb_snoc (b : Nat) (O : List Int) (x : Int) : vb b (O ++ [x]) = vb b O + b ^ O.length * x.toNat := by rw [vb_append, vb_one]
/-- one digit more of a sum: what is carried is told by the base's power -/
theorem sum_stepB {b : Nat} {O : List Int} {X Y : Nat} {k a c : Nat} (h : vb b O + b ^ O.length * k = X + Y) :
    vb b (O ++ [(((k + a + c) % b : Nat) : Int)]) + b ^ (O.length + 1) * ((k + a + c) / b) = (X + b ^ O.length * a) + (Y + b ^ O.length * c) := by
  rw [vb_snoc, Int.toNat_natCast, Nat.pow_succ, Nat.mul_assoc]
  have e := Nat.mod_add_div (k + a + c) b
  generalize hP : b ^ O.length = P at *
  have e1 : P * ((k + a + c) % b) + P * (b * ((k + a + c) / b)) = P * (k + a + c) := by rw [← Nat.mul_add, e]
  have e2 : P * (k + a + c) = P * k + P * a + P * c := by rw [Nat.mul_add, Nat.mul_add]
  omega
end Go.Nt

/-
  PLAIN ARITHMETIC: the decimal digits of a number, written and read piece by piece. No program is named here.
-/
namespace Go.Nt

theorem getD_at {L : List Int} {i : Nat} (h : i < L.length) : L.getD i 0 = L[i] := by simp [List.getD, h]
theorem vb_zeros (b : Nat) : ∀ L : List Int, (∀ x ∈ L, x = 0) → vb b L = 0
  | [], _ => rfl
  | x :: L, h => by
    rw [show vb b (x :: L) = x.toNat + b * vb b L from rfl, vb_zeros b L (fun y hy => h y (List.mem_cons_of_mem _ hy)), h x List.mem_cons_self]
    rfl
/-- the digits, the highest first, without noughts ahead -/
def dropZ (L : List Int) : List Int := L.dropWhile fun x => x == 0
theorem drop_trim (L : List Int) : ∀ x ∈ L.drop (trimN L), x = 0 := by
  intro x hx
  obtain ⟨i, hi, rfl⟩ := List.mem_iff_getElem.1 hx
  rw [List.getElem_drop]
  have h := trimN_high L (trimN L + i) (by omega)
  rw [List.length_drop] at hi
  rw [getD_at (by omega)] at h
  exact h
theorem dropZ_app {A B : List Int} (h : ∀ x ∈ A, x = 0) : dropZ (A ++ B) = dropZ B := by
  unfold dropZ
  rw [List.dropWhile_append_of_pos]
  intro x hx
  rw [h x hx]
  rfl
theorem dropZ_self {L : List Int} (h : L = [] ∨ L.getD 0 0 ≠ 0) : dropZ L = L := by
  cases L with
  | nil => rfl
  | cons x L =>
    rcases h with h | h
    · cases h
    · unfold dropZ
      rw [List.dropWhile_cons_of_neg]
      simpa using h
theorem dropZ_rev {D : List Int} (h : ∀ x ∈ D, Dg 10 x) : dropZ D.reverse = (db 10 (vb 10 D)).reverse := by
  have t := take_trim (b := 10) (by omega) D h
  have e : D.reverse = (D.drop (trimN D)).reverse ++ (D.take (trimN D)).reverse := by
    rw [← List.reverse_append, List.take_append_drop]
  rw [e, dropZ_app (fun x hx => drop_trim D x (List.mem_reverse.1 hx)), t]
  apply dropZ_self
  by_cases h0 : trimN D = 0
  · left
    rw [← t, h0]
    rfl
  · right
    have hl := trimN_le D
    have ht := trimN_top D
    have hlen : (db 10 (vb 10 D)).length = trimN D := by rw [← t, List.length_take]; omega
    rw [← t]
    have hlt : (D.take (trimN D)).reverse.length = trimN D := by rw [List.length_reverse, List.length_take]; omega
    rw [getD_at (by omega), List.getElem_reverse, List.getElem_take]
    rcases ht with ht | ht
    · exact absurd ht h0
    · rw [getD_at (by omega)] at ht
      have e2 : (List.take (trimN D) D).length - 1 - 0 = trimN D - 1 := by rw [List.length_take]; omega
      simp only [e2]
      exact ht
/-- the low k digits, the lowest first -/
def ld : Nat → Nat → List Int
  | 0, _ => []
  | k + 1, p => ((p % 10 : Nat) : Int) :: ld k (p / 10)
theorem ld_len : ∀ k p, (ld k p).length = k
  | 0, _ => rfl
  | k + 1, p => by simp [ld, ld_len k]
theorem ld_dg : ∀ k p, ∀ x ∈ ld k p, Dg 10 x
  | 0, _, x, h => by cases h
  | k + 1, p, x, h => by
    rcases List.mem_cons.1 h with rfl | h
    · exact ⟨by omega, by omega⟩
    · exact ld_dg k _ x h
theorem ld_val : ∀ k p, vb 10 (ld k p) = p % 10 ^ k
  | 0, p => by simp [ld, vb, Nat.mod_one]
  | k + 1, p => by
    rw [show vb 10 (ld (k + 1) p) = ((p % 10 : Nat) : Int).toNat + 10 * vb 10 (ld k (p / 10)) from rfl, ld_val k (p / 10), Nat.pow_succ', Nat.mod_mul]
    omega
theorem ld_snoc : ∀ k p, ld (k + 1) p = ld k p ++ [((p / 10 ^ k % 10 : Nat) : Int)]
  | 0, p => by simp [ld]
  | k + 1, p => by
    rw [show ld (k + 1 + 1) p = ((p % 10 : Nat) : Int) :: ld (k + 1) (p / 10) from rfl, ld_snoc k (p / 10), Nat.div_div_eq_div_mul, ← Nat.pow_succ']
    rfl
/-- one piece more -/
theorem piece_step {D : List Int} {R V k : Nat} (hl : D.length = 9 * k) (h : vb 10 D + 10 ^ (9 * k) * R = V) : vb 10 (D ++ ld 9 (R % 1000000000)) + 10 ^ (9 * (k + 1)) * (R / 1000000000) = V := by
  rw [vb_append, ld_val, hl]
  have e : (10 : Nat) ^ (9 * (k + 1)) = 10 ^ (9 * k) * 1000000000 := by rw [Nat.mul_add, Nat.pow_add]
  have e9 : (10 : Nat) ^ 9 = 1000000000 := rfl
  rw [e, e9, Nat.mod_mod, Nat.mul_assoc, Nat.add_assoc, ← Nat.mul_add]
  have := Nat.mod_add_div R 1000000000
  rw [this]
  exact h
/-- what digits stand for, the highest first -/
def rdV10 (f : Nat → Int) : Nat → Nat
  | 0 => 0
  | k + 1 => 10 * rdV10 f k + (f k).toNat
theorem rdV10_lt {f : Nat → Int} : ∀ k, (∀ j, j < k → 0 ≤ f j ∧ f j < 10) → rdV10 f k < 10 ^ k
  | 0, _ => by simp [rdV10]
  | k + 1, h => by
    have ih := rdV10_lt k (fun j hj => h j (by omega))
    have := h k (by omega)
    simp only [rdV10, Nat.pow_succ]
    omega
theorem rdV10_add {f : Nat → Int} (i : Nat) : ∀ k, rdV10 f (i + k) = rdV10 f i * 10 ^ k + rdV10 (fun j => f (i + j)) k
  | 0 => by simp [rdV10]
  | k + 1 => by
    rw [show i + (k + 1) = (i + k) + 1 by omega]
    simp only [rdV10]
    rw [rdV10_add i k, Nat.pow_succ]
    generalize rdV10 (fun j => f (i + j)) k = A
    generalize rdV10 f i = B
    generalize 10 ^ k = C
    rw [Nat.mul_add, Nat.add_assoc, ← Nat.mul_assoc, Nat.mul_comm 10 B, Nat.mul_assoc B 10 C, Nat.mul_comm 10 C]
/-- the digits of a number, read again -/
theorem rd_db {V k : Nat} (hk : (db 10 V).length = k) : rdV10 (fun j => ((db 10 V).reverse).getD j 0) k = V := by
  have key : ∀ (L : List Int), rdV10 (fun j => (L.reverse).getD j 0) L.length = vb 10 L := by
    intro L
    induction L with
    | nil => rfl
    | cons x L ih =>
      rw [List.length_cons]
      simp only [rdV10]
      have e1 : ((x :: L).reverse).getD L.length 0 = x := by
        rw [List.reverse_cons, List.getD_eq_getElem?_getD, List.getElem?_append_right (by simp)]
        simp
      have e2 : rdV10 (fun j => ((x :: L).reverse).getD j 0) L.length = rdV10 (fun j => (L.reverse).getD j 0) L.length := by
        have : ∀ k, k ≤ L.length → rdV10 (fun j => ((x :: L).reverse).getD j 0) k = rdV10 (fun j => (L.reverse).getD j 0) k := by
          intro k
          induction k with
          | zero => intro _; rfl
          | succ k ih2 =>
            intro hk
            simp only [rdV10]
            rw [ih2 (by omega)]
            congr 2
            rw [List.reverse_cons, List.getD_eq_getElem?_getD, List.getD_eq_getElem?_getD, List.getElem?_append_left (by rw [List.length_reverse]; omega)]
        exact this _ (Nat.le_refl _)
      rw [e1, e2, ih, show vb 10 (x :: L) = x.toNat + 10 * vb 10 L from rfl]
      omega
  rw [← hk, key, vb_db (by omega)]
end Go.Nt
