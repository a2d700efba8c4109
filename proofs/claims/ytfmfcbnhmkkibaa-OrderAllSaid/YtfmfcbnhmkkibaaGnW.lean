/-
  Contracts of words; a pattern's class and size, in plain terms.
-/
import Derived.Test.YtfmfcbnhmkkibaaPatA
namespace Go.Proofs.Ytfmfcbnhmkkibaa
open Go.KRun Go.Pt
set_option maxRecDepth 100000

/-- a truth of two words, told ahead -/
def gUUb (k : Int → Int → Bool) : Ans := fun vals s =>
  match vals, s with
  | [.int .u64 a, .int .u64 b], .inr (.inr (.inr (.inl d))) :: s' => some (.bool d, s', [(k a b, d), (decide (U a ∧ U b), true)])
  | _, _ => none
theorem gUUb_ok {f : Nat} {k : Int → Int → Bool} (hk : ∀ a b : Int, U a → U b → ∀ w, Calls Try.prog f #[.int .u64 a, .int .u64 b] w fun e w' => e = .returned (.bool (k a b)) ∧ Tidy w w') : AnsOk f (gUUb k) := by
  intro vals s v s' lg h hl w
  unfold gUUb at h
  split at h
  · cases h
    have e := hl _ (List.mem_cons_self)
    obtain ⟨h1, h2⟩ := of_decide_eq_true (hl _ (List.mem_cons_of_mem _ (List.mem_singleton.2 rfl)))
    simp only at e
    rw [← e]
    exact hk _ _ h1 h2 w
  · cases h
/-- a value of two words -/
def gUU (k : Int → Int → Value) (c : Int → Int → Bool) : Ans := fun vals s =>
  match vals with
  | [.int .u64 a, .int .u64 b] => some (k a b, s, [(c a b, true), (decide (U a ∧ U b), true)])
  | _ => none
theorem gUU_ok {f : Nat} {k : Int → Int → Value} {c : Int → Int → Bool} (hk : ∀ a b : Int, U a → U b → c a b = true → ∀ w, Calls Try.prog f #[.int .u64 a, .int .u64 b] w fun e w' => e = .returned (k a b) ∧ Tidy w w') : AnsOk f (gUU k c) := by
  intro vals s v s' lg h hl w
  unfold gUU at h
  split at h
  · cases h
    have e := hl _ (List.mem_cons_self)
    obtain ⟨h1, h2⟩ := of_decide_eq_true (hl _ (List.mem_cons_of_mem _ (List.mem_singleton.2 rfl)))
    exact hk _ _ h1 h2 e w
  · cases h
/-- a value of one word, with a condition -/
def gU1 (k : Int → Value) (c : Int → Bool) : Ans := fun vals s =>
  match vals with
  | [.int .u64 a] => some (k a, s, [(c a, true), (decide (U a), true)])
  | _ => none
theorem gU1_ok {f : Nat} {k : Int → Value} {c : Int → Bool} (hk : ∀ a : Int, U a → c a = true → ∀ w, Calls Try.prog f #[.int .u64 a] w fun e w' => e = .returned (k a) ∧ Tidy w w') : AnsOk f (gU1 k c) := by
  intro vals s v s' lg h hl w
  unfold gU1 at h
  split at h
  · cases h
    have e := hl _ (List.mem_cons_self)
    have h1 := of_decide_eq_true (hl _ (List.mem_cons_of_mem _ (List.mem_singleton.2 rfl)))
    exact hk _ h1 e w
  · cases h
theorem beq_t {x y : Int} (h : x = y) : (x == y) = true := by simpa using h
theorem beq_f {x y : Int} (h : x ≠ y) : (x == y) = false := by simpa using h
theorem bne_t {x y : Int} (h : x ≠ y) : (x != y) = true := by simpa using h
theorem bne_f {x y : Int} (h : x = y) : (x != y) = false := by simpa using h
theorem cl_bd (p : Int) : 0 ≤ cl p ∧ cl p ≤ 5 := by
  unfold cl
  split
  · split <;> omega
  · split
    · split
      · omega
      · split <;> omega
    · omega
theorem mag_eq (p : Int) : mag p = 4503599627370496 * ex p + fr p := by unfold mag ex fr; omega
theorem mag_cl (p : Int) : (3 < cl p ↔ 9218868437227405312 < mag p) ∧ (cl p = 3 ↔ mag p = 9218868437227405312) ∧ (cl p ≤ 2 ↔ mag p < 9218868437227405312) := by
  have h1 := mag_eq p
  have h2 := ex_lt p
  have h3 := fr_lt p
  rw [h1]
  unfold cl
  split
  · split <;> omega
  · split
    · split
      · omega
      · split <;> omega
    · omega
theorem mag_cl0 {p : Int} (h : cl p = 0) : mag p = 0 := by
  have e := mag_eq p
  unfold cl at h
  split at h
  · rename_i h3
    split at h
    · rename_i h4; omega
    · omega
  · split at h
    · split at h
      · omega
      · split at h <;> omega
    · omega
theorem mag_lt {p : Int} : 0 ≤ mag p ∧ mag p < 9223372036854775808 := by unfold mag; omega
theorem bNot_mag {p : Int} (hp : U p) : bNot p 9223372036854775808 = mag p := bNot_sign hp
end Go.Proofs.Ytfmfcbnhmkkibaa
