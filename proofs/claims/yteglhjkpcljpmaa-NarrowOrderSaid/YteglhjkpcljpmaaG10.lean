/-
  Contracts of words; a pattern's class and size, in plain terms.
-/
import Derived.Test.YteglhjkpcljpmaaG09
namespace Go.Proofs.Yteglhjkpcljpmaa
open Go.KRun Go.Pt
set_option maxRecDepth 100000

/-- a truth of two words, told ahead -/
def gUUb (k : Int → Int → Bool) : Ans := fun vals s =>
  match vals, s with
  | [.int .u64 a, .int .u64 b], .inr (.inr (.inr (.inl d))) :: s' => some (.bool d, s', [(k a b, d), (decide (U a ∧ U b), true)])
  | _, _ => none
theorem gUUb_ok {f : Nat} {k : Int → Int → Bool} (hk : ∀ a b : Int, U a → U b → ∀ w, Calls Try.prog f #[.int .u64 a, .int .u64 b] w fun e w' => e = .returned (.bool (k a b)) ∧ Tidy w w') : AnsOk f (gUUb k) := by
  intro vals s v s' lg h hl w
  unfold gUUb at h
  split at h
  · cases h
    have e := hl _ (List.mem_cons_self)
    obtain ⟨h1, h2⟩ := of_decide_eq_true (hl _ (List.mem_cons_of_mem _ (List.mem_singleton.2 rfl)))
    simp only at e
    rw [← e]
    exact hk _ _ h1 h2 w
  · cases h
/-- a value of two words -/
def gUU (k : Int → Int → Value) (c : Int → Int → Bool) : Ans := fun vals s =>
  match vals with
  | [.int .u64 a, .int .u64 b] => some (k a b, s, [(c a b, true), (decide (U a ∧ U b), true)])
  | _ => none
theorem gUU_ok {f : Nat} {k : Int → Int → Value} {c : Int → Int → Bool} (hk : ∀ a b : Int, U a → U b → c a b = true → ∀ w, Calls Try.prog f #[.int .u64 a, .int .u64 b] w fun e w' => e = .returned (k a b) ∧ Tidy w w') : AnsOk f (gUU k c) := by
  intro vals s v s' lg h hl w
  unfold gUU at h
  split at h
  · cases h
    have e := hl _ (List.mem_cons_self)
    obtain ⟨h1, h2⟩ := of_decide_eq_true (hl _ (List.mem_cons_of_mem _ (List.mem_singleton.2 rfl)))
    exact hk _ _ h1 h2 e w
  · cases h
/-- a value of one word, with a condition -/
def gU1 (k : Int → Value) (c : Int → Bool) : Ans := fun vals s =>
  match vals with
  | [.int .u64 a] => some (k a, s, [(c a, true), (decide (U a), true)])
  | _ => none
theorem gU1_ok {f : Nat} {k : Int → Value} {c : Int → Bool} (hk : ∀ a : Int, U a → c a = true → ∀ w, Calls Try.prog f #[.int .u64 a] w fun e w' => e = .returned (k a) ∧ Tidy w w') : AnsOk f (gU1 k c) := by
  intro vals s v s' lg h hl w
  unfold gU1 at h
  split at h
  · cases h
    have e := hl _ (List.mem_cons_self)
    have h1 := of_decide_eq_true (hl _ (List.mem_cons_of_mem _ (List.mem_singleton.2 rfl)))
    exact hk _ h1 e w
  · cases h
theorem beq_t {x y : Int} (h : x = y) : (x == y) = true := by simpa using h
theorem beq_f {x y : Int} (h : x ≠ y) : (x == y) = false := by simpa using h
theorem bne_t {x y : Int} (h : x ≠ y) : (x != y) = true := by simpa using h
theorem bne_f {x y : Int} (h : x = y) : (x != y) = false := by simpa using h
theorem cl_bd (p : Int) : 0 ≤ cl p ∧ cl p ≤ 5 := by
  unfold cl
  split
  · split <;> omega
  · split
    · split
      · omega
      · split <;> omega
    · omega
theorem mag_eq (p : Int) : mag p = 4503599627370496 * ex p + fr p := by unfold mag ex fr; omega
theorem mag_cl (p : Int) : (3 < cl p ↔ 9218868437227405312 < mag p) ∧ (cl p = 3 ↔ mag p = 9218868437227405312) ∧ (cl p ≤ 2 ↔ mag p < 9218868437227405312) := by
  have h1 := mag_eq p
  have h2 := ex_lt p
  have h3 := fr_lt p
  rw [h1]
  unfold cl
  split
  · split <;> omega
  · split
    · split
      · omega
      · split <;> omega
    · omega
theorem mag_cl0 {p : Int} (h : cl p = 0) : mag p = 0 := by
  have e := mag_eq p
  unfold cl at h
  split at h
  · rename_i h3
    split at h
    · rename_i h4; omega
    · omega
  · split at h
    · split at h
      · omega
      · split at h <;> omega
    · omega
theorem mag_lt {p : Int} : 0 ≤ mag p ∧ mag p < 9223372036854775808 := by unfold mag; omega
theorem bNot_mag {p : Int} (hp : U p) : bNot p 9223372036854775808 = mag p := bNot_sign hp
end Go.Proofs.Yteglhjkpcljpmaa

/-
  PLAIN ARITHMETIC: lists of words, the lowest first: what is left of them without noughts at the end; the number that they are.
-/
namespace Go.Nt

/-- how many are left without noughts at the end -/
def trimN : List Int → Nat
  | [] => 0
  | x :: r => if trimN r = 0 then (if x = 0 then 0 else 1) else trimN r + 1
theorem trimN_le : ∀ L : List Int, trimN L ≤ L.length
  | [] => Nat.le_refl _
  | x :: r => by
    have := trimN_le r
    unfold trimN
    split
    · split <;> simp
    · simp; omega
theorem trimN_high : ∀ (L : List Int) (i : Nat), trimN L ≤ i → L.getD i 0 = 0
  | [], i, _ => by simp
  | x :: r, i, h => by
    unfold trimN at h
    cases i with
    | zero =>
      split at h
      · split at h
        · rename_i h1; simp [h1]
        · omega
      · omega
    | succ i =>
      have := trimN_high r i (by split at h <;> (try split at h) <;> omega)
      simpa using this
theorem trimN_top : ∀ L : List Int, trimN L = 0 ∨ L.getD (trimN L - 1) 0 ≠ 0
  | [] => .inl rfl
  | x :: r => by
    have ih := trimN_top r
    unfold trimN
    split
    · split
      · exact .inl rfl
      · rename_i h; exact .inr (by simpa using h)
    · rename_i h
      rcases ih with ih | ih
      · exact absurd ih h
      · refine .inr ?_
        obtain ⟨k, hk⟩ : ∃ k, trimN r = k + 1 := ⟨trimN r - 1, by omega⟩
        rw [hk] at ih ⊢
        simpa using ih
theorem trimN_uniq {L : List Int} {k : Nat} (h1 : ∀ i, k ≤ i → L.getD i 0 = 0) (h2 : k = 0 ∨ L.getD (k - 1) 0 ≠ 0) : trimN L = k := by
  rcases Nat.lt_trichotomy (trimN L) k with h | h | h
  · rcases h2 with h2 | h2
    · omega
    · exact absurd (trimN_high L (k - 1) (by omega)) h2
  · exact h
  · rcases trimN_top L with h3 | h3
    · omega
    · exact absurd (h1 (trimN L - 1) (by omega)) h3
/-- from the highest down -/
def topCmp (L M : List Int) : Nat → Int
  | 0 => 0
  | k + 1 => if L.getD k 0 = M.getD k 0 then topCmp L M k else if L.getD k 0 < M.getD k 0 then -1 else 1
def cmpL (L M : List Int) : Int := if L.length = M.length then topCmp L M L.length else if L.length < M.length then -1 else 1
end Go.Nt

/-
  PLAIN ARITHMETIC: the digits of a number to a base, the lowest first, the last one not 0; the number of digits.
-/
namespace Go.Nt

/-- a number's value, of digits to a base -/
def vb (b : Nat) : List Int → Nat
  | [] => 0
  | x :: l => x.toNat + b * vb b l
/-- a number's digits -/
def db (b V : Nat) : List Int := if _h : V = 0 ∨ b < 2 then [] else ((V % b : Nat) : Int) :: db b (V / b)
  termination_by V
  decreasing_by exact Nat.div_lt_self (by omega) (by omega)
/-- digits to a base -/
abbrev Dg (b : Nat) (x : Int) : Prop := 0 ≤ x ∧ x < b
theorem db_zero (b : Nat) : db b 0 = [] := by rw [db]; simp
theorem db_pos {b V : Nat} (hb : 2 ≤ b) (hV : V ≠ 0) : db b V = ((V % b : Nat) : Int) :: db b (V / b) := by
  rw [db]
  rw [dif_neg (by omega)]
theorem vb_db {b : Nat} (hb : 2 ≤ b) (V : Nat) : vb b (db b V) = V := by
  induction V using Nat.strongRecOn with
  | ind V ih =>
    by_cases hV : V = 0
    · subst hV; rw [db_zero]; rfl
    · rw [db_pos hb hV]
      simp only [vb]
      rw [ih (V / b) (Nat.div_lt_self (by omega) (by omega)), Int.toNat_natCast]
      exact Nat.mod_add_div V b
theorem db_dg {b : Nat} (hb : 2 ≤ b) (V : Nat) : ∀ x ∈ db b V, Dg b x := by
  induction V using Nat.strongRecOn with
  | ind V ih =>
    by_cases hV : V = 0
    · subst hV; rw [db_zero]; intro x hx; cases hx
    · rw [db_pos hb hV]
      intro x hx
      rcases List.mem_cons.1 hx with rfl | hx
      · have := Nat.mod_lt V (show b > 0 by omega)
        exact ⟨by omega, by omega⟩
      · exact ih (V / b) (Nat.div_lt_self (by omega) (by omega)) x hx
theorem db_nil {b V : Nat} (hb : 2 ≤ b) : db b V = [] ↔ V = 0 := by
  constructor
  · intro h
    by_cases hV : V = 0
    · exact hV
    · rw [db_pos hb hV] at h; cases h
  · rintro rfl; exact db_zero b
/-- digits without noughts at the end are the number's -/
theorem take_trim {b : Nat} (hb : 2 ≤ b) : ∀ (L : List Int), (∀ x ∈ L, Dg b x) → L.take (trimN L) = db b (vb b L)
  | [], _ => by simp [vb, db_zero]
  | x :: r, h => by
    have ih := take_trim hb r (fun y hy => h y (List.mem_cons_of_mem _ hy))
    have hx := h x (List.mem_cons_self)
    have hxn : ((x.toNat : Nat) : Int) = x := Int.toNat_of_nonneg hx.1
    have hlt : x.toNat < b := by omega
    have e1 : (x.toNat + b * vb b r) % b = x.toNat := by rw [Nat.add_mul_mod_self_left, Nat.mod_eq_of_lt hlt]
    have e2 : (x.toNat + b * vb b r) / b = vb b r := by rw [Nat.add_mul_div_left _ _ (by omega), Nat.div_eq_of_lt hlt, Nat.zero_add]
    unfold trimN
    by_cases h0 : trimN r = 0
    · rw [if_pos h0]
      rw [h0, List.take_zero] at ih
      have hv : vb b r = 0 := (db_nil hb).1 ih.symm
      by_cases hx0 : x = 0
      · rw [if_pos hx0]
        simp only [List.take_zero, vb, hv, hx0]
        simp [db_zero]
      · rw [if_neg hx0]
        have hx1 : x.toNat ≠ 0 := by omega
        show [x] = _
        simp only [vb]
        rw [db_pos hb (by rw [hv]; omega), e1, e2, hv, db_zero, hxn]
    · rw [if_neg h0]
      have hv : vb b r ≠ 0 := fun hv => by
        rw [hv, db_zero] at ih
        have hl := congrArg List.length ih
        have := trimN_le r
        simp at hl
        rcases hl with hl | hl
        · exact h0 hl
        · subst hl; exact h0 rfl
      have hpos : 0 < b * vb b r := Nat.mul_pos (by omega) (by omega)
      show x :: r.take (trimN r) = _
      simp only [vb]
      rw [db_pos hb (by omega), e1, e2, hxn, ih]
theorem trim_len {b : Nat} (hb : 2 ≤ b) {L : List Int} (h : ∀ x ∈ L, Dg b x) : trimN L = (db b (vb b L)).length := by
  rw [← take_trim hb L h]
  have := trimN_le L
  simp
  omega
/-- a number's digits are those of it -/
def Canon (b : Nat) (L : List Int) : Prop := (∀ x ∈ L, Dg b x) ∧ trimN L = L.length
theorem can_db {b : Nat} (hb : 2 ≤ b) (V : Nat) : Canon b (db b V) := by
  have h := db_dg hb V
  refine ⟨h, ?_⟩
  have := trim_len hb h
  rw [vb_db hb] at this
  exact this
theorem db_can {b : Nat} (hb : 2 ≤ b) {L : List Int} (h : Canon b L) : db b (vb b L) = L := by
  rw [← take_trim hb L h.1, h.2, List.take_length]
theorem db_len {b : Nat} (hb : 2 ≤ b) : ∀ (k V : Nat), V < b ^ k → (db b V).length ≤ k
  | 0, V, h => by
    have : V = 0 := by simpa using h
    subst this; rw [db_zero]; exact Nat.le_refl _
  | k + 1, V, h => by
    by_cases hV : V = 0
    · subst hV; rw [db_zero]; exact Nat.zero_le _
    · rw [db_pos hb hV]
      have : V / b < b ^ k := Nat.div_lt_of_lt_mul (by rw [Nat.pow_succ] at h; rw [Nat.mul_comm]; exact h)
      have := db_len hb k (V / b) this
      simp
      omega
theorem vb_lt {b : Nat} (hb : 2 ≤ b) : ∀ (L : List Int), (∀ x ∈ L, Dg b x) → vb b L < b ^ L.length
  | [], _ => by simp [vb]
  | x :: r, h => by
    have ih := vb_lt hb r (fun y hy => h y (List.mem_cons_of_mem _ hy))
    have hx := h x (List.mem_cons_self)
    have hlt : x.toNat < b := by omega
    simp only [vb, List.length_cons, Nat.pow_succ]
    calc x.toNat + b * vb b r < b + b * vb b r := by omega
      _ = b * (vb b r + 1) := by rw [Nat.mul_add, Nat.mul_one, Nat.add_comm]
      _ ≤ b * b ^ r.length := Nat.mul_le_mul_left _ ih
      _ = b ^ r.length * b := Nat.mul_comm _ _
theorem vb_append (b : Nat) : ∀ (L M : List Int), vb b (L ++ M) = vb b L + b ^ L.length * vb b M
  | [], M => by simp [vb]
  | x :: r, M => by
    simp only [List.cons_append, vb, vb_append b r M, List.length_cons, Nat.pow_succ]
    rw [Nat.mul_add, ← Nat.mul_assoc, Nat.mul_comm b (b ^ r.length)]
    omega
end Go.Nt
