/-
  PLAIN ARITHMETIC: which of two patterns is less, and the place of a pattern in the order of all.
-/
import Derived.Test.YtfmfcbnhmkkibaaNumU
namespace Go.Pt

/-- the place of a pattern in the order of all -/
def plc (p : Int) : Int := if p < 9223372036854775808 then p + 9223372036854775808 else 18446744073709551615 - p
/-- one of two is no number -/
def nnB (a b : Int) : Bool := decide (3 < cl a ∨ 3 < cl b)
/-- the flags of two patterns of which one is no number -/
def ldF (a b : Int) : Int := if cl a = 5 ∨ cl b = 5 then 1 else 0
def tlB (a b : Int) : Bool := decide (plc a ≤ plc b)
/-- which is less -/
def coV (a b : Int) : Int := if 3 < cl a ∨ 3 < cl b then 2 else if cl a = 0 ∧ cl b = 0 then 0 else if plc a < plc b then -1 else if plc b < plc a then 1 else 0
def coF (a b : Int) : Int := if 3 < cl a ∨ 3 < cl b then ldF a b else 0
def siF (a b : Int) : Int := if 3 < cl a ∨ 3 < cl b then 1 else 0
/-- the one that is a number -/
def onP (a b : Int) : Int := if ¬ 3 < cl a then a else if ¬ 3 < cl b then b else 9221120237041090560
def lsP (a b : Int) : Int := if plc a ≤ plc b then a else b
def grP (a b : Int) : Int := if plc a ≤ plc b then b else a
def miP (a b : Int) : Int := if 3 < cl a ∨ 3 < cl b then 9221120237041090560 else lsP a b
def maP (a b : Int) : Int := if 3 < cl a ∨ 3 < cl b then 9221120237041090560 else grP a b
def mnP (a b : Int) : Int := if 3 < cl a ∨ 3 < cl b then onP a b else lsP a b
def mxP (a b : Int) : Int := if 3 < cl a ∨ 3 < cl b then onP a b else grP a b
def msP (a b : Int) : Int := if 3 < cl a ∨ 3 < cl b then 9221120237041090560 else if mag a = mag b then lsP a b else if mag a ≤ mag b then a else b
def mtP (a b : Int) : Int := if 3 < cl a ∨ 3 < cl b then 9221120237041090560 else if mag a = mag b then grP a b else if mag a ≤ mag b then b else a
theorem plc_bd {p : Int} (h : U p) : U (plc p) := by unfold plc U at *; split <;> omega
theorem plc_inj {a b : Int} (ha : U a) (hb : U b) : plc a = plc b ↔ a = b := by
  unfold plc U at *
  split <;> split <;> omega
theorem ng_plc {p : Int} (hp : U p) (h : p < 9223372036854775808) : (p + 9223372036854775808) % 18446744073709551616 = plc p := by
  unfold plc U at *
  rw [if_pos h]
  omega
theorem mag_plc {a : Int} (ha : U a) : mag a = a ↔ a < 9223372036854775808 := by unfold mag U at *; omega
theorem mag_pos {a : Int} : 0 ≤ mag a ∧ mag a < 9223372036854775808 := by unfold mag; omega
theorem plc_mag {a b : Int} : plc (mag a) ≤ plc (mag b) ↔ mag a ≤ mag b := by
  have h1 := mag_pos (a := a)
  have h2 := mag_pos (a := b)
  unfold plc
  rw [if_pos h1.2, if_pos h2.2]
  omega
theorem cl_mag (a : Int) : cl (mag a) = cl a := by
  have e1 : ex (mag a) = ex a := by unfold ex mag; omega
  have e2 : fr (mag a) = fr a := by unfold fr mag; omega
  unfold cl
  rw [e1, e2]
theorem mag_par (p : Int) : mag p = 4503599627370496 * ex p + fr p := by unfold mag ex fr; omega
theorem cl_sz (p : Int) : (3 < cl p ↔ 9218868437227405312 < mag p) ∧ (cl p = 3 ↔ mag p = 9218868437227405312) ∧ (cl p ≤ 2 ↔ mag p < 9218868437227405312) ∧ (cl p = 0 ↔ mag p = 0) ∧ (cl p = 4 ↔ 9221120237041090560 ≤ mag p) := by
  have h1 := mag_par p
  have h2 := ex_lt p
  have h3 := fr_lt p
  rw [h1]
  unfold cl
  split
  · split <;> omega
  · split
    · split
      · omega
      · split <;> omega
    · omega
/-- the complement -/
theorem not_eq {p : Int} (hp : U p) : IntKind.u64.wrap ((~~~(BitVec.ofInt 64 p)).toNat : Nat) = 18446744073709551615 - p := by
  obtain ⟨h0, h1⟩ := hp
  obtain ⟨Z, rfl⟩ := Int.eq_ofNat_of_zero_le h0
  rw [back, BitVec.toNat_not, ofU (by omega)]
  omega
/-! ### the less and the greater one -/
theorem ls_gr (a b : Int) : (lsP a b = a ∧ grP a b = b) ∨ (lsP a b = b ∧ grP a b = a) := by
  unfold lsP grP
  by_cases h : plc a ≤ plc b
  · rw [if_pos h, if_pos h]; exact .inl ⟨rfl, rfl⟩
  · rw [if_neg h, if_neg h]; exact .inr ⟨rfl, rfl⟩
theorem ls_comm {a b : Int} (ha : U a) (hb : U b) : lsP a b = lsP b a := by
  have h := plc_inj ha hb
  unfold lsP
  split <;> split <;> omega
theorem ldF_comm (a b : Int) : ldF a b = ldF b a := by
  unfold ldF
  simp only [or_comm]
theorem nn_comm (a b : Int) : (3 < cl a ∨ 3 < cl b) ↔ (3 < cl b ∨ 3 < cl a) := or_comm
theorem ldF_bd (a b : Int) : 0 ≤ ldF a b ∧ ldF a b ≤ 1 := by unfold ldF; split <;> omega
theorem coF_bd (a b : Int) : 0 ≤ coF a b ∧ coF a b ≤ 1 := by
  have := ldF_bd a b
  unfold coF; split <;> omega
theorem siF_bd (a b : Int) : 0 ≤ siF a b ∧ siF a b ≤ 1 := by unfold siF; split <;> omega
theorem coV_bd (a b : Int) : -1 ≤ coV a b ∧ coV a b ≤ 2 := by
  unfold coV
  split
  · omega
  · split
    · omega
    · split
      · omega
      · split <;> omega
theorem coV_nn {a b : Int} : coV a b = 2 ↔ (3 < cl a ∨ 3 < cl b) := by
  unfold coV
  split
  · simp [*]
  · split
    · simp [*]
    · split
      · simp [*]
      · split <;> simp [*]
/-- numbers: which is less -/
theorem co_num {a b : Int} (ha : U a) (hb : U b) (h : ¬ (3 < cl a ∨ 3 < cl b)) : (coV a b < 0 → plc a < plc b) ∧ (0 < coV a b → plc b < plc a) ∧ (coV a b = 0 ↔ (a = b ∨ (mag a = 0 ∧ mag b = 0))) := by
  have h1 := (cl_sz a).2.2.2.1
  have h2 := (cl_sz b).2.2.2.1
  have h3 := plc_inj ha hb
  unfold coV
  rw [if_neg h]
  by_cases hz : cl a = 0 ∧ cl b = 0
  · rw [if_pos hz]
    refine ⟨fun h => by omega, fun h => by omega, ⟨fun _ => .inr ⟨h1.1 hz.1, h2.1 hz.2⟩, fun _ => rfl⟩⟩
  · rw [if_neg hz]
    by_cases hl : plc a < plc b
    · rw [if_pos hl]
      refine ⟨fun _ => hl, fun h => by omega, ⟨fun h => by omega, fun h => ?_⟩⟩
      rcases h with h | h
      · rw [h] at hl; omega
      · exact absurd ⟨h1.2 h.1, h2.2 h.2⟩ hz
    · rw [if_neg hl]
      by_cases hg : plc b < plc a
      · rw [if_pos hg]
        refine ⟨fun h => by omega, fun _ => hg, ⟨fun h => by omega, fun h => ?_⟩⟩
        rcases h with h | h
        · rw [h] at hg; omega
        · exact absurd ⟨h1.2 h.1, h2.2 h.2⟩ hz
      · rw [if_neg hg]
        exact ⟨fun h => by omega, fun h => by omega, ⟨fun _ => .inl (h3.1 (by omega)), fun _ => rfl⟩⟩
theorem co_comm {a b : Int} (h : ¬ (3 < cl a ∨ 3 < cl b)) : coV a b = -coV b a := by
  unfold coV
  rw [if_neg h, if_neg (show ¬ (3 < cl b ∨ 3 < cl a) from fun h' => h h'.symm)]
  by_cases hz : cl a = 0 ∧ cl b = 0
  · rw [if_pos hz, if_pos hz.symm]; rfl
  · rw [if_neg hz, if_neg (show ¬ (cl b = 0 ∧ cl a = 0) from fun h' => hz h'.symm)]
    split <;> split <;> omega
/-! ### as the document picks -/
def pcV (a b : Int) (s : Bool) : Int := if s = true ∧ coV (mag a) (mag b) ≠ 0 then coV (mag a) (mag b) else coV a b
def pdV (a b : Int) (s : Bool) : Int := if pcV a b s = 0 ∧ 9223372036854775808 ≤ a ∧ b < 9223372036854775808 then -1 else if pcV a b s = 0 ∧ a < 9223372036854775808 ∧ 9223372036854775808 ≤ b then 1 else pcV a b s
def pkP (a b : Int) (l s n : Bool) : Int := if n = true ∧ ((3 < cl a ∧ ¬ 3 < cl b) ∨ (¬ 3 < cl a ∧ 3 < cl b)) then (if 3 < cl a then b else a) else if 3 < cl a ∨ 3 < cl b then 9221120237041090560 else if decide (pdV a b s < 0) = l then a else b
theorem pd_of {a b c : Int} {s : Bool} (ha : U a) (hb : U b) (hc : pcV a b s = c) (h1 : c < 0 → plc a < plc b) (h2 : 0 < c → plc b < plc a) (h3 : c = 0 → a = b ∨ (mag a = 0 ∧ mag b = 0)) : pdV a b s < 0 ↔ plc a < plc b := by
  unfold pdV
  rw [hc]
  have ea : mag a = a % 9223372036854775808 := rfl
  have eb : mag b = b % 9223372036854775808 := rfl
  rcases Int.lt_trichotomy c 0 with h | h | h
  · rw [if_neg (by omega), if_neg (by omega)]
    exact ⟨fun _ => h1 h, fun _ => h⟩
  · have h4 := h3 h
    subst h
    unfold plc U at *
    split
    · split <;> split <;> omega
    · split
      · split <;> split <;> omega
      · split <;> split <;> omega
  · have := h2 h
    rw [if_neg (by omega), if_neg (by omega)]
    omega
theorem pd_num {a b : Int} (ha : U a) (hb : U b) (h : ¬ (3 < cl a ∨ 3 < cl b)) : pdV a b false < 0 ↔ plc a < plc b := by
  obtain ⟨h1, h2, h3⟩ := co_num ha hb h
  exact pd_of (c := coV a b) ha hb (by unfold pcV; rw [if_neg (by simp)]) h1 h2 h3.1
theorem U_mag (a : Int) : U (mag a) := by
  have := mag_pos (a := a)
  exact ⟨by omega, by omega⟩
theorem mag_mag (a : Int) : mag (mag a) = mag a := by unfold mag; omega
theorem pd_size {a b : Int} (ha : U a) (hb : U b) (h : ¬ (3 < cl a ∨ 3 < cl b)) : (mag a = mag b → (pdV a b true < 0 ↔ plc a < plc b)) ∧ (mag a < mag b → pdV a b true < 0) ∧ (mag b < mag a → ¬ pdV a b true < 0) := by
  have hm : ¬ (3 < cl (mag a) ∨ 3 < cl (mag b)) := by rw [cl_mag, cl_mag]; exact h
  obtain ⟨m1, m2, m3⟩ := co_num (U_mag a) (U_mag b) hm
  have pm := plc_mag (a := a) (b := b)
  have pn := plc_mag (a := b) (b := a)
  rw [mag_mag, mag_mag] at m3
  refine ⟨fun e => ?_, fun e => ?_, fun e => ?_⟩
  · obtain ⟨h1, h2, h3⟩ := co_num ha hb h
    have hz : coV (mag a) (mag b) = 0 := m3.2 (.inl e)
    exact pd_of (c := coV a b) ha hb (by unfold pcV; rw [if_neg (by simp [hz])]) h1 h2 h3.1
  · have hn : coV (mag a) (mag b) ≠ 0 := fun hz => by have := m3.1 hz; omega
    have hl : coV (mag a) (mag b) < 0 := by
      rcases Int.lt_or_le (coV (mag a) (mag b)) 0 with h | h
      · exact h
      · have := m2 (by omega); omega
    have ec : pcV a b true = coV (mag a) (mag b) := by unfold pcV; rw [if_pos ⟨rfl, hn⟩]
    unfold pdV
    rw [ec, if_neg (by omega), if_neg (by omega)]
    exact hl
  · have hn : coV (mag a) (mag b) ≠ 0 := fun hz => by have := m3.1 hz; omega
    have hl : 0 < coV (mag a) (mag b) := by
      rcases Int.lt_or_le (coV (mag a) (mag b)) 0 with h | h
      · have := m1 h; omega
      · omega
    have ec : pcV a b true = coV (mag a) (mag b) := by unfold pcV; rw [if_pos ⟨rfl, hn⟩]
    unfold pdV
    rw [ec, if_neg (by omega), if_neg (by omega)]
    omega
theorem pk_ls {a b : Int} (ha : U a) (hb : U b) {s : Bool} (h : pdV a b s < 0 ↔ plc a < plc b) : (if decide (pdV a b s < 0) = true then a else b) = lsP a b ∧ (if decide (pdV a b s < 0) = false then a else b) = grP a b := by
  have hi := plc_inj ha hb
  unfold lsP grP
  by_cases hl : plc a < plc b
  · rw [decide_eq_true (h.2 hl)]
    simp only [if_true, Bool.true_eq_false, if_false]
    rw [if_pos (by omega), if_pos (by omega)]
    exact ⟨rfl, rfl⟩
  · rw [decide_eq_false (fun h' => hl (h.1 h'))]
    simp only [Bool.false_eq_true, if_false, if_true]
    by_cases he : plc a ≤ plc b
    · rw [if_pos he, if_pos he]
      have := hi.1 (by omega)
      exact ⟨this.symm, this⟩
    · rw [if_neg he, if_neg he]
      exact ⟨rfl, rfl⟩
theorem pk_no (a b : Int) (l s : Bool) : pkP a b l s false = if 3 < cl a ∨ 3 < cl b then 9221120237041090560 else if decide (pdV a b s < 0) = l then a else b := by
  unfold pkP
  rw [if_neg (fun h => Bool.noConfusion h.1)]
theorem pk_yes {a b : Int} (l s : Bool) (h : ¬ (3 < cl a ∨ 3 < cl b)) : pkP a b l s true = if decide (pdV a b s < 0) = l then a else b := by
  unfold pkP
  rw [if_neg (show ¬ (true = true ∧ ((3 < cl a ∧ ¬ 3 < cl b) ∨ (¬ 3 < cl a ∧ 3 < cl b))) from fun h' => h (h'.2.elim (fun x => .inl x.1) (fun x => .inr x.2))), if_neg h]
theorem pk_plain {a b : Int} (ha : U a) (hb : U b) : pkP a b true false false = miP a b ∧ pkP a b false false false = maP a b := by
  rw [pk_no, pk_no]
  unfold miP maP
  by_cases h : 3 < cl a ∨ 3 < cl b
  · simp only [if_pos h, and_self]
  · simp only [if_neg h]
    exact pk_ls ha hb (pd_num ha hb h)
theorem pk_number {a b : Int} (ha : U a) (hb : U b) : pkP a b true false true = mnP a b ∧ pkP a b false false true = mxP a b := by
  by_cases h : 3 < cl a ∨ 3 < cl b
  · unfold pkP mnP mxP onP
    simp only [if_pos h]
    by_cases h1 : 3 < cl a
    · by_cases h2 : 3 < cl b
      · simp [h1, h2]
      · simp [h1, h2]
    · have h2 : 3 < cl b := h.resolve_left h1
      simp [h1, h2]
  · rw [pk_yes _ _ h, pk_yes _ _ h]
    unfold mnP mxP
    rw [if_neg h, if_neg h]
    exact pk_ls ha hb (pd_num ha hb h)
theorem pk_size {a b : Int} (ha : U a) (hb : U b) : pkP a b true true false = msP a b ∧ pkP a b false true false = mtP a b := by
  rw [pk_no, pk_no]
  unfold msP mtP
  by_cases h : 3 < cl a ∨ 3 < cl b
  · simp only [if_pos h, and_self]
  · simp only [if_neg h]
    obtain ⟨h1, h2, h3⟩ := pd_size ha hb h
    rcases Int.lt_trichotomy (mag a) (mag b) with e | e | e
    · rw [decide_eq_true (h2 e), if_neg (show ¬ mag a = mag b by omega), if_pos (show mag a ≤ mag b by omega), if_neg (show ¬ mag a = mag b by omega), if_pos (show mag a ≤ mag b by omega)]
      exact ⟨if_pos rfl, if_neg (by decide)⟩
    · rw [if_pos e, if_pos e]
      exact pk_ls ha hb (h1 e)
    · rw [decide_eq_false (h3 e), if_neg (show ¬ mag a = mag b by omega), if_neg (show ¬ mag a ≤ mag b by omega), if_neg (show ¬ mag a = mag b by omega), if_neg (show ¬ mag a ≤ mag b by omega)]
      exact ⟨if_neg (by decide), if_pos rfl⟩
end Go.Pt
