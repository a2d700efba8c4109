/-
  NumRf, NumRg, NumRk, NumRl
-/
import Derived.Test.YtjlponbdflkbjaaGreatDoorG08
import Derived.Lib.Bytealg
namespace Go.Rd
open Go.Rn
def chD (d : Nat) : UInt8 := UInt8.ofNat (48 + d)
/-- the decimal letters of a number below 10^f -/
def decF : Nat → Nat → List UInt8
  | 0, _ => []
  | f + 1, n => if n < 10 then [chD n] else decF f (n / 10) ++ [chD (n % 10)]
def dcL (n : Nat) : List UInt8 := decF 20 n
theorem chD_num {d : Nat} (h : d < 10) : lq8 (chD d) = ((48 + d : Nat) : Int) := by
  unfold lq8 chD
  rw [UInt8.toNat_ofNat']
  omega
theorem chD_dg {d : Nat} (h : d < 10) (b : Int) : dgvR (lq8 (chD d)) b = (d : Int) := by
  rw [chD_num h]
  unfold dgvR
  rw [if_pos (by omega)]
  omega
theorem dec_part {d : Nat} (h : d < 10) : (([48, 49, 50, 51, 52, 53, 54, 55, 56, 57] : List UInt8).drop d).take 1 = [chD d] := by
  have key : ∀ x : Fin 10, (([48, 49, 50, 51, 52, 53, 54, 55, 56, 57] : List UInt8).drop x.1).take 1 = [chD x.1] := by decide
  exact key ⟨d, h⟩
theorem decF_all (f n : Nat) (b : Int) : allB b (decF f n) = true := by
  induction f generalizing n with
  | zero => rfl
  | succ f ih =>
    unfold decF
    split
    · rename_i h
      unfold allB
      rw [List.all_cons, chD_dg h, decide_eq_true (by omega)]
      rfl
    · unfold allB
      rw [List.all_append]
      have := ih (n / 10)
      unfold allB at this
      rw [this, List.all_cons, chD_dg (show n % 10 < 10 by omega), decide_eq_true (by omega)]
      rfl
theorem decF_num {f n : Nat} (h : n < 10 ^ f) : nmB 10 (decF f n) = n := by
  induction f generalizing n with
  | zero =>
    have : n = 0 := by simpa using h
    rw [this]
    rfl
  | succ f ih =>
    unfold decF
    split
    · rename_i h1
      show (0 * (10 : Int).toNat + (dgvR (lq8 (chD n)) 10).toNat) = n
      rw [chD_dg h1]
      omega
    · rw [nmB_snoc, ih (by rw [Nat.pow_succ] at h; omega), chD_dg (show n % 10 < 10 by omega), show (10 : Int).toNat = 10 from rfl]
      omega
theorem decF_len (f n : Nat) : (decF f n).length ≤ f := by
  induction f generalizing n with
  | zero => exact Nat.le_refl _
  | succ f ih =>
    unfold decF
    split
    · rw [List.length_singleton]; omega
    · rw [List.length_append, List.length_singleton]
      have := ih (n / 10)
      omega
theorem dcL_lt {n : Nat} (h : n < 18446744073709551616) : n < 10 ^ 20 := Nat.lt_trans h (by decide)
theorem dcL_ne (n : Nat) : dcL n ≠ [] := by
  unfold dcL decF
  split
  · simp
  · simp
theorem dg46 (b : Int) : dgvR 46 b = -1 := by
  unfold dgvR
  rw [if_neg (by omega), if_neg (by omega)]
theorem sc1_pt (b : Int) (r : List UInt8) : sc1 b false (46 :: r) = sc1 b true r := by
  rw [sc1, if_pos ⟨by rfl, rfl⟩]
theorem sc1_stop {b : Int} {p : Bool} {c : UInt8} {r : List UInt8} (h : lq8 c ≠ 46) (hd : dgvR (lq8 c) b < 0) : sc1 b p (c :: r) = ([], 0, c :: r) := by
  rw [sc1, if_neg (fun h' => h h'.1), if_neg (by omega)]
theorem sc1_app {b : Int} {A : List UInt8} (h : allB b A = true) (p : Bool) (r : List UInt8) : sc1 b p (A ++ r) = (A ++ (sc1 b p r).1, (if p = true then A.length else 0) + (sc1 b p r).2.1, (sc1 b p r).2.2) := by
  induction A with
  | nil => simp
  | cons c A ih =>
    unfold allB at h ih
    rw [List.all_cons, Bool.and_eq_true] at h
    have h1 := of_decide_eq_true h.1
    have h46 : lq8 c ≠ 46 := fun h' => by rw [h', dg46] at h1; omega
    rw [List.cons_append, sc1, if_neg (fun h' => h46 h'.1), if_pos h1, ih h.2]
    cases p <;> simp <;> omega
theorem pw1_app (a : Nat) (l r : List UInt8) (h : (pw1 a l).2 = true) : pw1 a (l ++ r) = pw1 (pw1 a l).1 r := by
  induction l generalizing a with
  | nil => rfl
  | cons c l ih =>
    rw [List.cons_append, pw1, pw1]
    by_cases hc : 0 ≤ dgvR (lq8 c) 10
    · rw [pw1, if_pos hc] at h
      rw [if_pos hc, if_pos hc]
      exact ih _ h
    · rw [pw1, if_neg hc] at h
      cases h
theorem pw1_ok {l : List UInt8} (h : allB 10 l = true) (hv : nmB 10 l ≤ 2000000) : pw1 0 l = (nmB 10 l, true) := by
  have key : ∀ (k : Nat) (l : List UInt8), l.length = k → allB 10 l = true → nmB 10 l ≤ 2000000 → pw1 0 l = (nmB 10 l, true) := by
    intro k
    induction k with
    | zero =>
      intro l hl _ _
      rw [List.eq_nil_of_length_eq_zero hl]
      rfl
    | succ k ih =>
      intro l hl ha hv
      have hne : l ≠ [] := fun h0 => by rw [h0] at hl; cases hl
      obtain ⟨l', c, rfl⟩ : ∃ l' c, l = l' ++ [c] := ⟨l.dropLast, l.getLast hne, (List.dropLast_concat_getLast hne).symm⟩
      unfold allB at ha ih
      rw [List.all_append, Bool.and_eq_true] at ha
      rw [nmB_snoc] at hv
      have e10 : (10 : Int).toNat = 10 := rfl
      rw [e10] at hv
      have h1 := ih l' (by simpa using hl) ha.1 (by omega)
      have hc : 0 ≤ dgvR (lq8 c) 10 := by
        have := ha.2
        simpa using this
      rw [pw1_app _ _ _ (by rw [h1]), h1, nmB_snoc, e10, pw1, if_pos hc, pw1]
      congr 1
      dsimp only
      omega
  exact key l.length l rfl h hv
theorem nmB_trZ (b : Int) (l : List UInt8) : nmB b (trZ l) = nmB b l := by
  induction l with
  | nil => rfl
  | cons c l ih =>
    rw [trZ_cons]
    by_cases h : lq8 c = 48
    · rw [if_pos h, ih]
      have : dgvR (lq8 c) b = 0 := by
        rw [h]
        unfold dgvR
        rw [if_pos (by omega)]
        rfl
      unfold nmB
      rw [List.foldl_cons, this]
      simp
    · rw [if_neg h]
theorem trZ_nil {b : Int} (hb : b = 10 ∨ b = 16) {l : List UInt8} (h : allB b l = true) : trZ l = [] ↔ nmB b l = 0 := by
  constructor
  · intro h0
    rw [← nmB_trZ, h0]
    rfl
  · intro h0
    cases h1 : trZ l with
    | nil => rfl
    | cons c r =>
      have := nmB_pos hb (r := r) (trZ_head h h1)
      rw [← h1, nmB_trZ] at this
      omega
/-- what is read of a whole number A times ten to the power of j -/
def rdN (m : Int) (n : Bool) (A : Nat) (j : Int) : Int × Int × Int :=
  if A = 0 then (if n = true then 9223372036854775808 else 0, 0, 0) else (if n = true then 9223372036854775808 + deP m n A j else deP m n A j, deF m n A j, 0)
theorem rdQ_dec {m : Int} {n : Bool} {v : List UInt8} (h : (scA 10 v).2 = true) : rdQ m n 10 v = rdN m n (nmB 10 (sc1 10 false v).1) ((scA 10 v).1 - ((sc1 10 false v).2.1 : Nat)) := by
  have ha := (sc1_bd 10 false v).2.2
  unfold rdQ rdN
  rw [if_neg (by rw [h]; decide)]
  by_cases hz : trZ (sc1 10 false v).1 = []
  · rw [if_pos hz, if_pos ((trZ_nil (.inl rfl) ha).1 hz)]
  · rw [if_neg hz, if_neg (fun h0 => hz ((trZ_nil (.inl rfl) ha).2 h0))]
    cases h1 : trZ (sc1 10 false v).1 with
    | nil => exact absurd h1 hz
    | cons c r =>
      obtain ⟨d1, d2⟩ := dn_de m n (r := r) (k := ((sc1 10 false v).2.1 : Nat)) (P := (scA 10 v).1) (trZ_head ha h1)
      rw [d1, d2, ← h1, nmB_trZ]
theorem rdN_shift (m : Int) (n : Bool) (A c : Nat) (j : Int) : rdN m n (A * 10 ^ c) (j - c) = rdN m n A j := by
  unfold rdN
  by_cases h : A = 0
  · rw [h, Nat.zero_mul, if_pos rfl, if_pos rfl]
  · obtain ⟨e1, e2⟩ := de_shift m n h c j
    rw [if_neg h, if_neg (mul_ne h (ten_ne c)), e1, e2]
theorem rdN_err (m : Int) (n : Bool) (A : Nat) (j : Int) : (rdN m n A j).2.2 = 0 := by
  unfold rdN
  split <;> rfl
theorem nmB_zeros (A : List UInt8) (k : Nat) : nmB 10 (A ++ List.replicate k 48) = nmB 10 A * 10 ^ k := by
  induction k with
  | zero => simp
  | succ k ih =>
    rw [List.replicate_succ', ← List.append_assoc, nmB_snoc, ih, Nat.pow_succ, Nat.mul_assoc]
    rfl
theorem nmB_ahead (b : Int) (A : List UInt8) (k : Nat) : nmB b (List.replicate k 48 ++ A) = nmB b A := by
  induction k with
  | zero => rfl
  | succ k ih =>
    rw [List.replicate_succ, List.cons_append]
    unfold nmB at *
    rw [List.foldl_cons]
    have : dgvR (lq8 48) b = 0 := by
      show dgvR 48 b = 0
      unfold dgvR
      rw [if_pos (by omega)]
      rfl
    rw [this]
    simpa using ih
theorem zeros_all (b : Int) (k : Nat) : allB b (List.replicate k 48) = true := by
  unfold allB
  rw [List.all_eq_true]
  intro x hx
  rw [List.eq_of_mem_replicate hx]
  exact decide_eq_true (show 0 ≤ dgvR 48 b by unfold dgvR; rw [if_pos (by omega)]; omega)
theorem allB_app {b : Int} {A B : List UInt8} (hA : allB b A = true) (hB : allB b B = true) : allB b (A ++ B) = true := by
  unfold allB at *
  rw [List.all_append, hA, hB]
  rfl
/-! ### letters that lead -/
theorem digit_letter {c : UInt8} (h : 0 ≤ dgvR (lq8 c) 10) : 48 ≤ lq8 c ∧ lq8 c ≤ 57 := by
  unfold dgvR at h
  split at h
  · assumption
  · rw [if_neg (by omega)] at h
    omega
theorem sgT_digit {c : UInt8} {r : List UInt8} (h : 48 ≤ lq8 c ∧ lq8 c ≤ 57) : sgT (c :: r) = (false, c :: r) := by
  unfold sgT
  dsimp only
  rw [if_neg (by omega), if_neg (by omega)]
theorem sgT_minus (r : List UInt8) : sgT (45 :: r) = (true, r) := by
  unfold sgT
  dsimp only
  rw [if_pos (by rfl)]
/-- decimal letters lead: no word, and base ten -/
theorem rdP_lead {m : Int} {n : Bool} {l : List UInt8} {c : UInt8} {r : List UInt8} (hl : l.length ≤ 65536) (hs : sgT l = (n, c :: r)) (hc : 48 ≤ lq8 c ∧ lq8 c ≤ 57) (hr : ∀ d ∈ r, d ≠ 120) : rdP m l = rdQ m n 10 (c :: r) := by
  unfold rdP
  rw [if_neg (by omega), hs]
  dsimp only
  rw [if_neg (fun h => by cases h; exact absurd hc.2 (by decide)), if_neg (fun h => by cases h; exact absurd hc.2 (by decide))]
  have e : rdB (c :: r) = (10, c :: r) := by
    unfold rdB
    rw [if_neg]
    rintro ⟨h1, h2⟩
    cases r with
    | nil => exact absurd h1 (by simp)
    | cons d t =>
      have : [c, d] = [48, 120] := h2
      cases this
      exact hr 120 List.mem_cons_self rfl
  rw [e]
/-! ### a power behind the digits -/
def expL (x : Int) : List UInt8 := if x < 0 then 45 :: dcL x.natAbs else dcL x.natAbs
theorem dcL_lead (n : Nat) : ∃ c r, dcL n = c :: r ∧ (48 ≤ lq8 c ∧ lq8 c ≤ 57) := by
  cases e : dcL n with
  | nil => exact absurd e (dcL_ne n)
  | cons c r =>
    have ha := decF_all 20 n 10
    unfold dcL at e
    rw [e] at ha
    unfold allB at ha
    rw [List.all_cons, Bool.and_eq_true] at ha
    exact ⟨c, r, rfl, digit_letter (of_decide_eq_true ha.1)⟩
theorem sgT_exp (x : Int) : sgT (expL x) = (decide (x < 0), dcL x.natAbs) := by
  unfold expL
  by_cases hx : x < 0
  · rw [if_pos hx, sgT_minus, decide_eq_true hx]
  · obtain ⟨c, r, e, hc⟩ := dcL_lead x.natAbs
    rw [if_neg hx, e, sgT_digit hc, decide_eq_false hx]
theorem scE_exp {b : Int} (hb : b = 10 ∨ b = 16) {c : UInt8} (hc : (b = 10 → lq8 c = 101) ∧ (b = 16 → lq8 c = 112)) {x : Int} (h : x.natAbs ≤ 2000000) : scE b (c :: expL x) = (x, true) := by
  have hp : pw1 0 (dcL x.natAbs) = (x.natAbs, true) := by
    have hn := decF_num (f := 20) (n := x.natAbs) (dcL_lt (by omega))
    have := pw1_ok (l := dcL x.natAbs) (decF_all 20 x.natAbs 10) (by unfold dcL; rw [hn]; exact h)
    rw [this]
    unfold dcL
    rw [hn]
  unfold scE
  dsimp only
  rw [if_neg (by rcases hb with hb | hb <;> simp [hb, hc.1, hc.2]), sgT_exp x]
  dsimp only
  rw [if_neg (dcL_ne _), hp]
  dsimp only
  rw [if_neg (by decide)]
  by_cases hx : x < 0
  · rw [if_pos (decide_eq_true hx)]
    congr 1
    omega
  · rw [if_neg (by simpa using hx)]
    congr 1
    omega
/-! ### letters -/
/-- a letter as a digit, 16 if it is none -/
def dvB (c : Int) : Int := if 48 ≤ c ∧ c ≤ 57 then c - 48 else if 97 ≤ c ∧ c ≤ 102 then c - 87 else 16
theorem dvB_bd (c : Int) : 0 ≤ dvB c ∧ dvB c ≤ 16 := by
  unfold dvB
  split
  · omega
  · split <;> omega
theorem dvB_lt {c b : Int} (hb : b = 10 ∨ b = 16) : dvB c < b ↔ 0 ≤ dgvR c b := by
  unfold dvB dgvR
  split
  · constructor <;> omega
  · split
    · rcases hb with rfl | rfl
      · rw [if_neg (by omega)]; omega
      · rw [if_pos (by omega)]; omega
    · rw [if_neg (by omega)]; omega
theorem dvB_eq {c b : Int} (h : 0 ≤ dgvR c b) : dgvR c b = dvB c := by
  unfold dvB
  unfold dgvR at *
  split
  · rfl
  · rename_i h1
    rw [if_neg h1] at h
    split
    · rename_i h2
      rw [if_pos ⟨h2.2.1, h2.2.2⟩]
    · rename_i h2
      rw [if_neg h2] at h
      omega
theorem lq8_eq {c d : UInt8} : lq8 c = lq8 d ↔ c = d := by
  unfold lq8
  constructor
  · intro h
    exact UInt8.toNat_inj.1 (by omega)
  · intro h; rw [h]
/-- whether a text begins so -/
def hasP (p l : List UInt8) : Bool := decide (p.length ≤ l.length ∧ l.take p.length = p)
theorem hasP_one (d : UInt8) (l : List UInt8) : hasP [d] l = true ↔ ∃ r, l = d :: r := by
  unfold hasP
  rw [decide_eq_true_eq]
  constructor
  · rintro ⟨h1, h2⟩
    cases l with
    | nil => simp at h1
    | cons c r =>
      simp at h2
      exact ⟨r, by rw [h2]⟩
  · rintro ⟨r, rfl⟩
    simp
theorem hasP_one_not (d : UInt8) {c : UInt8} {r : List UInt8} (h : c ≠ d) : hasP [d] (c :: r) = false := by
  rw [Bool.eq_false_iff]
  intro h'
  obtain ⟨r', e⟩ := (hasP_one d (c :: r)).1 h'
  injection e with e1 e2
  exact h e1
theorem sgT_has (l : List UInt8) : sgT l = if hasP [45] l = true then (true, l.drop 1) else if hasP [43] l = true then (false, l.drop 1) else (false, l) := by
  cases l with
  | nil => rfl
  | cons c r =>
    have e45 : lq8 c = 45 ↔ c = 45 := lq8_eq (d := 45)
    have e43 : lq8 c = 43 ↔ c = 43 := lq8_eq (d := 43)
    rw [sgT]
    by_cases h1 : c = 45
    · rw [if_pos (e45.2 h1), if_pos ((hasP_one 45 _).2 ⟨r, by rw [h1]⟩)]; rfl
    · rw [if_neg (fun h => h1 (e45.1 h)), hasP_one_not 45 h1, if_neg (show ¬ (false = true) by decide)]
      by_cases h2 : c = 43
      · rw [if_pos (e43.2 h2), if_pos ((hasP_one 43 _).2 ⟨r, by rw [h2]⟩)]; rfl
      · rw [if_neg (fun h => h2 (e43.1 h)), hasP_one_not 43 h2, if_neg (show ¬ (false = true) by decide)]
theorem rdB_has (u : List UInt8) : rdB u = if hasP [48, 120] u = true then (16, u.drop 2) else (10, u) := by
  unfold rdB hasP
  by_cases h : 1 < u.length ∧ u.take 2 = [48, 120]
  · rw [if_pos h, if_pos (decide_eq_true ⟨by simp; omega, h.2⟩)]
  · rw [if_neg h, if_neg (fun h' => h (by
      have := of_decide_eq_true h'
      exact ⟨by have := this.1; simp at this; omega, this.2⟩))]
theorem sgT_len (l : List UInt8) : (sgT l).2.length ≤ l.length := by
  rw [sgT_has]
  split
  · rw [List.length_drop]; omega
  · split
    · rw [List.length_drop]; omega
    · exact Nat.le_refl _
/-! ### digits with a point -/
/-- how many letters are digits, or the first point -/
def en1 (b : Int) : Bool → List UInt8 → Nat
  | _, [] => 0
  | p, c :: l => if dvB (lq8 c) < b then en1 b p l + 1 else if lq8 c = 46 ∧ p = false then en1 b true l + 1 else 0
theorem en1_le (b : Int) (p : Bool) (l : List UInt8) : en1 b p l ≤ l.length := by
  induction l generalizing p with
  | nil => exact Nat.le_refl _
  | cons c l ih =>
    rw [List.length_cons]
    unfold en1
    have h1 := ih p
    have h2 := ih true
    split
    · omega
    · split <;> omega
/-- a text at its first point -/
def ctA (l : List UInt8) : List UInt8 := if 0 ≤ Lib.indexByte l 46 then l.take (Lib.indexByte l 46).toNat else l
def ctB (l : List UInt8) : List UInt8 := if 0 ≤ Lib.indexByte l 46 then l.drop ((Lib.indexByte l 46).toNat + 1) else []
theorem ct_pt (l : List UInt8) : ctA (46 :: l) = [] ∧ ctB (46 :: l) = l := by
  have e : Lib.indexByte (46 :: l) 46 = 0 := by unfold Lib.indexByte; rfl
  unfold ctA ctB
  rw [e]
  exact ⟨rfl, rfl⟩
theorem ct_cons {c : UInt8} (h : c ≠ 46) (l : List UInt8) : ctA (c :: l) = c :: ctA l ∧ ctB (c :: l) = ctB l := by
  have e : Lib.indexByte (c :: l) 46 = if Lib.indexByte l 46 == -1 then -1 else Lib.indexByte l 46 + 1 := by
    rw [Lib.indexByte, if_neg (by simpa using h)]
  have hg := Lib.indexByte_ge l 46
  unfold ctA ctB
  by_cases hm : Lib.indexByte l 46 = -1
  · have e' : Lib.indexByte (c :: l) 46 = -1 := by rw [e, hm]; rfl
    rw [e', hm, if_neg (by decide), if_neg (by decide), if_neg (by decide), if_neg (by decide)]
    exact ⟨rfl, rfl⟩
  · have e' : Lib.indexByte (c :: l) 46 = Lib.indexByte l 46 + 1 := by rw [e, if_neg (by simpa using hm)]
    have e2 : (Lib.indexByte l 46 + 1).toNat = (Lib.indexByte l 46).toNat + 1 := by omega
    rw [e', if_pos (show 0 ≤ Lib.indexByte l 46 + 1 by omega), if_pos (show 0 ≤ Lib.indexByte l 46 + 1 by omega), if_pos (show 0 ≤ Lib.indexByte l 46 by omega), if_pos (show 0 ≤ Lib.indexByte l 46 by omega), e2]
    exact ⟨rfl, rfl⟩
theorem sc1_true {b : Int} (hb : b = 10 ∨ b = 16) (l : List UInt8) : sc1 b true l = (l.take (en1 b true l), en1 b true l, l.drop (en1 b true l)) ∧ ctA (l.take (en1 b true l)) = l.take (en1 b true l) ∧ ctB (l.take (en1 b true l)) = [] := by
  induction l with
  | nil => exact ⟨rfl, rfl, rfl⟩
  | cons c l ih =>
    obtain ⟨i1, i2, i3⟩ := ih
    unfold sc1 en1
    rw [if_neg (by intro h; exact absurd h.2 (by decide))]
    by_cases hd : dvB (lq8 c) < b
    · have hd' := (dvB_lt hb).1 hd
      have hc : c ≠ 46 := fun h => by
        rw [h] at hd'
        exact absurd hd' (by rw [show lq8 46 = 46 from rfl, dg46]; decide)
      rw [if_pos hd', if_pos hd, i1]
      obtain ⟨c1, c2⟩ := ct_cons hc (l.take (en1 b true l))
      refine ⟨?_, ?_, ?_⟩
      · rw [if_pos rfl, List.take_succ_cons, List.drop_succ_cons, Nat.add_comm]
      · rw [List.take_succ_cons, c1, i2]
      · rw [List.take_succ_cons, c2, i3]
    · rw [if_neg (fun h => hd ((dvB_lt hb).2 h)), if_neg hd, if_neg (by intro h; exact absurd h.2 (by decide))]
      exact ⟨rfl, rfl, rfl⟩
theorem sc1_false {b : Int} (hb : b = 10 ∨ b = 16) (l : List UInt8) : sc1 b false l = (ctA (l.take (en1 b false l)) ++ ctB (l.take (en1 b false l)), (ctB (l.take (en1 b false l))).length, l.drop (en1 b false l)) := by
  induction l with
  | nil => rfl
  | cons c l ih =>
    unfold sc1 en1
    by_cases h46 : lq8 c = 46
    · have hc : c = 46 := (lq8_eq (d := 46)).1 h46
      have hd : ¬ dvB (lq8 c) < b := fun h => by
        have := (dvB_lt hb).1 h
        rw [h46, dg46] at this
        exact absurd this (by decide)
      obtain ⟨t1, t2, t3⟩ := sc1_true hb l
      rw [if_pos ⟨h46, rfl⟩, if_neg hd, if_pos ⟨h46, rfl⟩, t1, List.take_succ_cons, List.drop_succ_cons, hc, (ct_pt _).1, (ct_pt _).2, List.nil_append, List.length_take, Nat.min_eq_left (en1_le b true l)]
    · have hc : c ≠ 46 := fun h => h46 (by rw [h]; rfl)
      rw [if_neg (fun h => h46 h.1)]
      by_cases hd : dvB (lq8 c) < b
      · rw [if_pos ((dvB_lt hb).1 hd), if_pos hd, ih, List.take_succ_cons, List.drop_succ_cons, (ct_cons hc _).1, (ct_cons hc _).2, if_neg (by decide), Nat.zero_add, List.cons_append]
      · rw [if_neg (fun h => hd ((dvB_lt hb).2 h)), if_neg hd, if_neg (fun h => h46 h.1)]
        rfl
/-! ### powers, cut -/
theorem foldl_cap (M : Nat) (f : UInt8 → Nat) (l : List UInt8) (a : Nat) : l.foldl (fun a c => min (a * 10 + f c) M) (min a M) = min (l.foldl (fun a c => a * 10 + f c) a) M := by
  induction l generalizing a with
  | nil => rfl
  | cons c l ih =>
    rw [List.foldl_cons, List.foldl_cons, ← ih (a * 10 + f c)]
    congr 1
    omega
/-- the digits of a power, cut at M, and whether all are digits -/
def pwM (M : Nat) : Nat → List UInt8 → Nat × Bool
  | a, [] => (a, true)
  | a, c :: l => if dvB (lq8 c) < 10 then pwM M (min (a * 10 + (dvB (lq8 c)).toNat) M) l else (0, false)
theorem allB_cons (b : Int) (c : UInt8) (l : List UInt8) : allB b (c :: l) = (decide (0 ≤ dgvR (lq8 c) b) && allB b l) := rfl
theorem pwM_all (M a : Nat) (l : List UInt8) : (pwM M a l).2 = allB 10 l := by
  induction l generalizing a with
  | nil => rfl
  | cons c l ih =>
    unfold pwM
    rw [allB_cons]
    by_cases h : dvB (lq8 c) < 10
    · rw [if_pos h, ih, decide_eq_true ((dvB_lt (.inl rfl)).1 h), Bool.true_and]
    · rw [if_neg h, decide_eq_false (fun h' => h ((dvB_lt (.inl rfl)).2 h')), Bool.false_and]
theorem pw1_all (a : Nat) (l : List UInt8) : (pw1 a l).2 = allB 10 l := by
  induction l generalizing a with
  | nil => rfl
  | cons c l ih =>
    unfold pw1
    rw [allB_cons]
    by_cases h : 0 ≤ dgvR (lq8 c) 10
    · rw [if_pos h, ih, decide_eq_true h, Bool.true_and]
    · rw [if_neg h, decide_eq_false h, Bool.false_and]
theorem pwM_fold {M a : Nat} {l : List UInt8} (h : allB 10 l = true) : (pwM M a l).1 = l.foldl (fun a c => min (a * 10 + (dgvR (lq8 c) 10).toNat) M) a := by
  induction l generalizing a with
  | nil => rfl
  | cons c l ih =>
    rw [allB_cons, Bool.and_eq_true, decide_eq_true_eq] at h
    unfold pwM
    rw [if_pos ((dvB_lt (.inl rfl)).2 h.1), ih h.2, List.foldl_cons, dvB_eq h.1]
theorem pw1_fold {a : Nat} {l : List UInt8} (h : allB 10 l = true) : (pw1 a l).1 = l.foldl (fun a c => min (a * 10 + (dgvR (lq8 c) 10).toNat) 2000000) a := by
  induction l generalizing a with
  | nil => rfl
  | cons c l ih =>
    rw [allB_cons, Bool.and_eq_true, decide_eq_true_eq] at h
    unfold pw1
    rw [if_pos h.1, ih h.2, List.foldl_cons, Nat.mul_comm 10 a]
theorem pwM_min {M : Nat} {l : List UInt8} (h : allB 10 l = true) : (pwM M 0 l).1 = min (nmB 10 l) M := by
  have := foldl_cap M (fun c => (dgvR (lq8 c) 10).toNat) l 0
  rw [Nat.zero_min] at this
  rw [pwM_fold h, this]
  rfl
theorem pw1_min {l : List UInt8} (h : allB 10 l = true) : (pw1 0 l).1 = min (nmB 10 l) 2000000 := by
  have := foldl_cap 2000000 (fun c => (dgvR (lq8 c) 10).toNat) l 0
  rw [Nat.zero_min] at this
  rw [pw1_fold h, this]
  rfl
theorem pwM_bd {M a : Nat} (h : a ≤ M) (l : List UInt8) : (pwM M a l).1 ≤ M := by
  induction l generalizing a with
  | nil => exact h
  | cons c l ih =>
    unfold pwM
    split
    · exact ih (Nat.min_le_right _ _)
    · exact Nat.zero_le _
/-- a whole number as the program reads it -/
def wnP (l : List UInt8) : Int := if (sgT l).1 = true then -((pwM 10000000 0 (sgT l).2).1 : Nat) else ((pwM 10000000 0 (sgT l).2).1 : Nat)
def wnK (l : List UInt8) : Bool := allB 10 (sgT l).2 && decide ((sgT l).2 ≠ [])
theorem wnP_bd (l : List UInt8) : -10000000 ≤ wnP l ∧ wnP l ≤ 10000000 := by
  have := pwM_bd (M := 10000000) (a := 0) (Nat.zero_le _) (sgT l).2
  unfold wnP
  split <;> omega
/-- two powers that are alike: the same, or both far -/
def alike (x y : Int) : Prop := x = y ∨ (2000000 ≤ x ∧ 2000000 ≤ y) ∨ (x ≤ -2000000 ∧ y ≤ -2000000)
/-- a numeral's power behind its digits, and whether it is one -/
def pwK (b : Int) (r : List UInt8) : Bool := if r = [] then decide (b = 10) else hasP [if b = 16 then 112 else 101] r && wnK (r.drop 1)
def pwP (r : List UInt8) : Int := if r = [] then 0 else wnP (r.drop 1)
theorem pw_alike {b : Int} (hb : b = 10 ∨ b = 16) (r : List UInt8) : pwK b r = (scE b r).2 ∧ (pwK b r = true → alike (pwP r) (scE b r).1) := by
  cases r with
  | nil =>
    unfold pwK pwP scE
    rw [if_pos rfl, if_pos rfl]
    exact ⟨rfl, fun _ => .inl rfl⟩
  | cons c r =>
    have hne : ¬ (c :: r = []) := by simp
    unfold pwK pwP
    rw [scE, if_neg hne, if_neg hne, List.drop_succ_cons, List.drop_zero]
    by_cases hc : (b = 10 ∧ lq8 c ≠ 101) ∨ (b = 16 ∧ lq8 c ≠ 112)
    · have : hasP [if b = 16 then 112 else 101] (c :: r) = false := by
        refine hasP_one_not _ fun h => ?_
        rcases hc with ⟨h1, h2⟩ | ⟨h1, h2⟩
        · rw [if_neg (by omega)] at h
          exact h2 (by rw [h]; rfl)
        · rw [if_pos h1] at h
          exact h2 (by rw [h]; rfl)
      rw [if_pos hc, this]
      exact ⟨rfl, fun h => by cases h⟩
    · have hP : hasP [if b = 16 then 112 else 101] (c :: r) = true := by
        refine (hasP_one _ _).2 ⟨r, ?_⟩
        rcases hb with rfl | rfl
        · rw [if_neg (by decide)]
          have : lq8 c = lq8 101 := by
            rcases Classical.em (lq8 c = 101) with h | h
            · exact h
            · exact absurd (.inl ⟨rfl, h⟩) hc
          rw [lq8_eq.1 this]
        · rw [if_pos rfl]
          have : lq8 c = lq8 112 := by
            rcases Classical.em (lq8 c = 112) with h | h
            · exact h
            · exact absurd (.inr ⟨rfl, h⟩) hc
          rw [lq8_eq.1 this]
      rw [if_neg hc, hP, Bool.true_and]
      unfold wnK wnP
      by_cases he : (sgT r).2 = []
      · rw [if_pos he, he]
        exact ⟨rfl, fun h => by cases h⟩
      · rw [if_neg he, decide_eq_true he, Bool.and_true]
        cases ha : allB 10 (sgT r).2 with
        | false =>
          rw [if_pos (by rw [pw1_all, ha])]
          exact ⟨rfl, fun h => by cases h⟩
        | true =>
          rw [if_neg (by rw [pw1_all, ha]; decide)]
          refine ⟨rfl, fun _ => ?_⟩
          rw [pwM_min ha, pw1_min ha]
          unfold alike
          dsimp only
          split <;> omega
/-! ### noughts behind -/
def trR (l : List UInt8) : List UInt8 := (l.reverse.dropWhile fun c => lq8 c == 48).reverse
theorem trR_nil : trR [] = [] := rfl
theorem trR_snoc (l : List UInt8) (c : UInt8) : trR (l ++ [c]) = if lq8 c = 48 then trR l else l ++ [c] := by
  unfold trR
  rw [List.reverse_append, List.reverse_singleton, List.singleton_append, List.dropWhile_cons]
  by_cases h : lq8 c = 48
  · rw [if_pos (by simpa using h), if_pos h]
  · rw [if_neg (by simpa using h), if_neg h, List.reverse_cons, List.reverse_reverse]
theorem snoc_ind {P : List UInt8 → Prop} (h0 : P []) (h1 : ∀ l c, P l → P (l ++ [c])) (l : List UInt8) : P l := by
  have key : ∀ k (l : List UInt8), l.length = k → P l := by
    intro k
    induction k with
    | zero => intro l hl; rw [List.eq_nil_of_length_eq_zero hl]; exact h0
    | succ k ih =>
      intro l hl
      have hne : l ≠ [] := fun h => by rw [h] at hl; cases hl
      rw [← List.dropLast_concat_getLast hne]
      exact h1 _ _ (ih _ (by rw [List.length_dropLast]; omega))
  exact key _ l rfl
theorem trR_len (l : List UInt8) : (trR l).length ≤ l.length := by
  unfold trR
  rw [List.length_reverse]
  have := (List.dropWhile_sublist (l := l.reverse) fun c => lq8 c == 48).length_le
  rw [List.length_reverse] at this
  exact this
theorem nmB_trR {b : Int} (l : List UInt8) : nmB b l = nmB b (trR l) * b.toNat ^ (l.length - (trR l).length) := by
  refine snoc_ind (P := fun l => nmB b l = nmB b (trR l) * b.toNat ^ (l.length - (trR l).length)) ?_ ?_ l
  · rfl
  · intro l c ih
    rw [trR_snoc]
    by_cases h : lq8 c = 48
    · have hd : (dgvR 48 b).toNat = 0 := by unfold dgvR; rw [if_pos (by omega)]; rfl
      have := trR_len l
      rw [if_pos h, nmB_snoc, h, hd, Nat.add_zero, ih, Nat.mul_assoc, ← Nat.pow_succ, List.length_append, List.length_singleton]
      congr 2
      omega
    · rw [if_neg h, Nat.sub_self, Nat.pow_zero, Nat.mul_one]
theorem trR_all {b : Int} {l : List UInt8} (h : allB b l = true) : allB b (trR l) = true := by
  unfold allB at *
  rw [List.all_eq_true] at *
  intro x hx
  unfold trR at hx
  have := (List.dropWhile_sublist _).subset (List.mem_reverse.1 hx)
  exact h x (List.mem_reverse.1 this)
/-- the last digit is not 0 -/
theorem trR_last {l r : List UInt8} {c : UInt8} (h : trR l = r ++ [c]) : lq8 c ≠ 48 := by
  have key : ∀ l : List UInt8, ∀ r c, trR l = r ++ [c] → lq8 c ≠ 48 := by
    intro l
    refine snoc_ind (P := fun l => ∀ r c, trR l = r ++ [c] → lq8 c ≠ 48) ?_ ?_ l
    · intro r c h
      rw [trR_nil] at h
      exact absurd h (by simp)
    · intro l d ih r c h
      rw [trR_snoc] at h
      by_cases h1 : lq8 d = 48
      · rw [if_pos h1] at h
        exact ih r c h
      · rw [if_neg h1] at h
        have := (List.append_inj' h rfl).2
        injection this with e
        rw [← e]
        exact h1
  exact key l r c h
theorem trR_head {b : Int} {c : UInt8} {r : List UInt8} (h : 0 < dgvR (lq8 c) b) : ∃ r', trR (c :: r) = c :: r' := by
  have key : ∀ r : List UInt8, ∃ r', trR (c :: r) = c :: r' := by
    intro r
    refine snoc_ind (P := fun r => ∃ r', trR (c :: r) = c :: r') ?_ ?_ r
    · have h48 : lq8 c ≠ 48 := fun h0 => by
        rw [h0] at h
        unfold dgvR at h
        rw [if_pos (by omega)] at h
        omega
      refine ⟨[], ?_⟩
      have := trR_snoc [] c
      rw [if_neg h48] at this
      exact this
    · intro l d ih
      have := trR_snoc (c :: l) d
      rw [List.cons_append] at this
      rw [this]
      split
      · exact ih
      · exact ⟨_, rfl⟩
  exact key r
/-! ### digits cut -/
/-- so many digits, and a 1 for all behind them -/
def shR (k : Nat) (l : List UInt8) : List UInt8 := if l.length ≤ k then l else l.take k ++ [49]
theorem nmB_app (b : Int) (x y : List UInt8) : nmB b (x ++ y) = nmB b x * b.toNat ^ y.length + nmB b y := by
  refine snoc_ind (P := fun y => nmB b (x ++ y) = nmB b x * b.toNat ^ y.length + nmB b y) ?_ ?_ y
  · rw [List.append_nil]
    show nmB b x = nmB b x * 1 + 0
    omega
  · intro l c ih
    rw [← List.append_assoc, nmB_snoc, nmB_snoc, ih, List.length_append, List.length_singleton, Nat.pow_succ, Nat.add_mul, Nat.mul_assoc, Nat.add_assoc]
theorem nmB_last {b : Int} {l : List UInt8} {c : UInt8} (h : allB b (l ++ [c]) = true) (h48 : lq8 c ≠ 48) : 0 < nmB b (l ++ [c]) := by
  have h1 : 0 ≤ dgvR (lq8 c) b := by
    unfold allB at h
    exact of_decide_eq_true (List.all_eq_true.1 h c (List.mem_append.2 (.inr (List.mem_singleton.2 rfl))))
  have h2 : 0 < dgvR (lq8 c) b := by
    have := dvB_eq h1
    unfold dgvR at *
    split
    · omega
    · rename_i h3
      rw [if_neg h3] at h1
      split
      · omega
      · rename_i h4
        rw [if_neg h4] at h1
        omega
  rw [nmB_snoc]
  omega
/-- what is cut off a row of digits whose last one is not 0 -/
theorem cut_parts {b : Int} (hb : b = 10 ∨ b = 16) {l : List UInt8} {k : Nat} (hk : k < l.length) (ha : allB b l = true) (hl : ∀ r c, l = r ++ [c] → lq8 c ≠ 48) : nmB b l = nmB b (l.take k) * b.toNat ^ (l.length - k) + nmB b (l.drop k) ∧ 0 < nmB b (l.drop k) ∧ nmB b (l.drop k) < b.toNat ^ (l.length - k) := by
  have e := nmB_app b (l.take k) (l.drop k)
  rw [List.take_append_drop, List.length_drop] at e
  refine ⟨e, ?_, ?_⟩
  · have hne : l.drop k ≠ [] := fun h => by
      have := congrArg List.length h
      rw [List.length_drop] at this
      simp at this
      omega
    have e2 := (List.dropLast_concat_getLast hne).symm
    rw [e2]
    refine nmB_last ?_ ?_
    · rw [← e2]
      unfold allB at *
      rw [List.all_eq_true] at *
      exact fun x hx => ha x (List.mem_of_mem_drop hx)
    · exact hl (l.take k ++ (l.drop k).dropLast) _ (by rw [List.append_assoc, ← e2, List.take_append_drop])
  · have := nmB_lt hb (l.drop k)
    rw [List.length_drop] at this
    exact this
theorem one_dg (b : Int) : (dgvR (lq8 49) b).toNat = 1 := by unfold dgvR; rw [if_pos (by decide)]; rfl
/-- a numeral's digits: those from the first that is not 0 to the last such one -/
def nuD (l : List UInt8) : List UInt8 := trR (trZ l)
/-- of base 16: sixty digits and a bit for the rest -/
theorem hex_cut {m : Int} {n : Bool} {D : List UInt8} {E : Int} (ha : allB 16 D = true) (hl : ∀ r c, D = r ++ [c] → lq8 c ≠ 48) {c : UInt8} {r : List UInt8} (hD : D = c :: r) (hc : 0 < dgvR (lq8 c) 16) :
    rnP m n (nmB 16 (shR 60 D)) (E - 4 * ((shR 60 D).length : Nat)) = rnP m n (nmB 16 D) (E - 4 * (D.length : Nat)) ∧ rnF m n (nmB 16 (shR 60 D)) (E - 4 * ((shR 60 D).length : Nat)) = rnF m n (nmB 16 D) (E - 4 * (D.length : Nat)) := by
  unfold shR
  by_cases hk : D.length ≤ 60
  · rw [if_pos hk]; exact ⟨rfl, rfl⟩
  rw [if_neg hk]
  obtain ⟨p1, p2, p3⟩ := cut_parts (.inr rfl) (k := 60) (by omega) ha hl
  have hq : 2 ^ 53 ≤ nmB 16 (D.take 60) := by
    have e : D.take 60 = c :: r.take 59 := by rw [hD]; rfl
    have := nmB_ge (b := 16) (r := r.take 59) hc
    have hlen : (r.take 59).length = 59 := by
      rw [List.length_take]
      rw [hD, List.length_cons] at hk
      omega
    rw [hlen] at this
    rw [e]
    exact Nat.le_trans (by decide) this
  have hb := le_len hq
  obtain ⟨q, hqe⟩ : ∃ q, q = nmB 16 (D.take 60) := ⟨_, rfl⟩
  obtain ⟨s, hse⟩ : ∃ s, s = nmB 16 (D.drop 60) := ⟨_, rfl⟩
  obtain ⟨L, hL⟩ : ∃ L, L = D.length := ⟨_, rfl⟩
  rw [← hqe] at p1 hb
  rw [← hse] at p1 p2 p3
  rw [← hL] at p1 p3
  have e16 : (16 : Int).toNat ^ (L - 60) = 2 ^ (4 * (L - 60)) := by rw [Nat.pow_mul]; rfl
  rw [e16] at p1 p3
  have hp : 0 < 2 ^ (4 * (L - 60)) := Nat.pow_pos (by omega)
  have d1 : nmB 16 D / 2 ^ (4 * (L - 60)) = q := by rw [p1, Nat.mul_comm, Nat.mul_add_div hp, Nat.div_eq_of_lt p3, Nat.add_zero]
  have d2 : nmB 16 D % 2 ^ (4 * (L - 60)) = s := by rw [p1, Nat.mul_comm, Nat.mul_add_mod, Nat.mod_eq_of_lt p3]
  have a1 := stk_round (m := m) (neg := n) (A := nmB 16 D) (d := 4 * (L - 60)) (F := E - 4 * (L : Nat)) (.inr (by rw [d1]; omega))
  have s1 : stk (nmB 16 D) (4 * (L - 60)) = 2 * q + 1 := by unfold stk; rw [d1, d2, if_neg (by omega)]
  have e2 : nmB 16 (D.take 60 ++ [49]) = q * 16 + 1 := by rw [nmB_snoc, one_dg, hqe]; rfl
  have hlen : (D.take 60 ++ [49]).length = 61 := by rw [List.length_append, List.length_take, List.length_singleton]; omega
  have d3 : (q * 16 + 1) / 2 ^ 4 = q := by omega
  have d4 : (q * 16 + 1) % 2 ^ 4 = 1 := by omega
  have a2 := stk_round (m := m) (neg := n) (A := q * 16 + 1) (d := 4) (F := E - 4 * 61) (.inr (by rw [d3]; omega))
  have s2 : stk (q * 16 + 1) 4 = 2 * q + 1 := by unfold stk; rw [d3, d4, if_neg (by omega)]
  rw [s1, show E - 4 * (L : Nat) + ((4 * (L - 60) : Nat) : Int) - 1 = E - 241 by omega] at a1
  rw [s2, show E - 4 * 61 + ((4 : Nat) : Int) - 1 = E - 241 by omega] at a2
  rw [e2, hlen, ← hL]
  exact ⟨a2.1.symm.trans a1.1, a2.2.symm.trans a1.2⟩
theorem nm_len {b : Int} (hb : b = 10 ∨ b = 16) (l : List UInt8) : bitLen (nmB b l) ≤ 4 * l.length := len_le (nm_bits hb l)
/-- powers that are alike -/
theorem hex_far {m : Int} {n : Bool} {A k : Nat} {x y z : Int} (hA : A ≠ 0) (hk : bitLen A ≤ k) (hz : -100000 ≤ z ∧ z + k ≤ 100000) (h : alike x y) : rnP m n A (x + z) = rnP m n A (y + z) ∧ rnF m n A (x + z) = rnF m n A (y + z) := by
  have h1 := len_pos hA
  rcases h with h | ⟨h2, h3⟩ | ⟨h2, h3⟩
  · rw [h]; exact ⟨rfl, rfl⟩
  · obtain ⟨a1, a2⟩ := big_eq (m := m) (neg := n) (E := x + z) hA (by unfold lgN; omega)
    obtain ⟨b1, b2⟩ := big_eq (m := m) (neg := n) (E := y + z) hA (by unfold lgN; omega)
    exact ⟨a1.trans b1.symm, a2.trans b2.symm⟩
  · obtain ⟨a1, a2⟩ := low_eq (m := m) (neg := n) (E := x + z) hA (by unfold lgN; omega)
    obtain ⟨b1, b2⟩ := low_eq (m := m) (neg := n) (E := y + z) hA (by unfold lgN; omega)
    exact ⟨a1.trans b1.symm, a2.trans b2.symm⟩
/-- a numeral of base 16 -/
theorem hex_same {m : Int} {n : Bool} {l : List UInt8} (hl : l.length ≤ 10000) (ha : allB 16 l = true) (hz : trZ l ≠ []) {k : Nat} (hk : k ≤ l.length) {P Q : Int} (hP : alike Q P) :
    rnP m n (nmB 16 (shR 60 (nuD l))) (Q + 4 * (((trZ l).length : Nat) - (k : Int) - ((shR 60 (nuD l)).length : Nat))) = rnP m n (dnA 16 (trZ l) k P).1 (dnA 16 (trZ l) k P).2 ∧ rnF m n (nmB 16 (shR 60 (nuD l))) (Q + 4 * (((trZ l).length : Nat) - (k : Int) - ((shR 60 (nuD l)).length : Nat))) = rnF m n (dnA 16 (trZ l) k P).1 (dnA 16 (trZ l) k P).2 := by
  obtain ⟨c, r, hT⟩ : ∃ c r, trZ l = c :: r := by
    cases h : trZ l with
    | nil => exact absurd h hz
    | cons c r => exact ⟨c, r, rfl⟩
  have hc := trZ_head ha hT
  have haT := allB_trZ ha
  obtain ⟨r', hr'⟩ := trR_head (b := 16) (r := r) hc
  have haD : allB 16 (nuD l) = true := trR_all haT
  have hlast : ∀ r c, nuD l = r ++ [c] → lq8 c ≠ 48 := fun r c h => trR_last h
  have eD : nuD l = c :: r' := by unfold nuD; rw [hT, hr']
  have lT := trZ_len l
  have lD := trR_len (trZ l)
  have hcut := hex_cut (m := m) (n := n) (E := Q + 4 * (((trZ l).length : Nat) - (k : Int))) haD hlast eD hc
  have eE : Q + 4 * (((trZ l).length : Nat) - (k : Int) - ((shR 60 (nuD l)).length : Nat)) = Q + 4 * (((trZ l).length : Nat) - (k : Int)) - 4 * ((shR 60 (nuD l)).length : Nat) := by omega
  rw [eE, hcut.1, hcut.2]
  have hA : nmB 16 (nuD l) ≠ 0 := by
    have := nmB_pos (b := 16) (.inr rfl) (r := r') hc
    rw [eD]; omega
  have eL : (nuD l).length ≤ (trZ l).length := lD
  have hfar := hex_far (m := m) (n := n) (k := 40000) (z := 4 * (((trZ l).length : Nat) - (k : Int)) - 4 * ((nuD l).length : Nat)) hA (by
    have := nm_len (b := 16) (.inr rfl) (nuD l)
    omega) (by omega) hP
  rw [show Q + 4 * (((trZ l).length : Nat) - (k : Int)) - 4 * ((nuD l).length : Nat) = Q + (4 * (((trZ l).length : Nat) - (k : Int)) - 4 * ((nuD l).length : Nat)) by omega, hfar.1, hfar.2]
  have e1 := nmB_trR (b := 16) (trZ l)
  have e2 : (16 : Int).toNat ^ ((trZ l).length - (trR (trZ l)).length) = 2 ^ (4 * ((trZ l).length - (nuD l).length)) := by rw [Nat.pow_mul]; rfl
  rw [e2] at e1
  have p := rnP_scale m n (nmB 16 (nuD l)) (4 * ((trZ l).length - (nuD l).length)) (P + (4 * (((trZ l).length : Nat) - (k : Int)) - 4 * ((nuD l).length : Nat)))
  have f := rnF_scale m n (nmB 16 (nuD l)) (4 * ((trZ l).length - (nuD l).length)) (P + (4 * (((trZ l).length : Nat) - (k : Int)) - 4 * ((nuD l).length : Nat)))
  rw [show P + (4 * (((trZ l).length : Nat) - (k : Int)) - 4 * ((nuD l).length : Nat)) - ((4 * ((trZ l).length - (nuD l).length) : Nat) : Int) = P - 4 * k by omega] at p f
  unfold dnA
  rw [if_pos rfl]
  dsimp only
  rw [e1]
  exact ⟨p.symm, f.symm⟩
/-- a decimal one: eight hundred digits, the power cut -/
def clF (x : Int) : Int := min (max x (-400)) 400
theorem dec_cut {m : Int} {n : Bool} {D : List UInt8} {a a' : Int} (ha : allB 10 D = true) (hl : ∀ r c, D = r ++ [c] → lq8 c ≠ 48) {c : UInt8} {r : List UInt8} (hD : D = c :: r) (hc : 0 < dgvR (lq8 c) 10) (h : a' = a ∨ (1000 ≤ a ∧ 1000 ≤ a') ∨ (a ≤ -1000 ∧ a' ≤ -1000)) :
    deP m n (nmB 10 (shR 800 D)) (clF a' - ((shR 800 D).length : Nat)) = deP m n (nmB 10 D) (a - (D.length : Nat)) ∧ deF m n (nmB 10 (shR 800 D)) (clF a' - ((shR 800 D).length : Nat)) = deF m n (nmB 10 D) (a - (D.length : Nat)) := by
  have e10 : (10 : Int).toNat = 10 := rfl
  obtain ⟨r2, hr2⟩ : ∃ r2, shR 800 D = c :: r2 := by
    unfold shR
    split
    · exact ⟨r, hD⟩
    · exact ⟨_, by rw [hD]; rfl⟩
  have g1 := nmB_ge (b := 10) (r := r) hc
  have g2 := nmB_ge (b := 10) (r := r2) hc
  have u1 := nmB_lt (b := 10) (.inl rfl) D
  have u2 := nmB_lt (b := 10) (.inl rfl) (shR 800 D)
  rw [e10] at g1 g2 u1 u2
  rw [← hD] at g1
  rw [← hr2] at g2
  have n1 : nmB 10 D ≠ 0 := by have := nmB_pos (b := 10) (.inl rfl) (r := r) hc; rw [hD]; omega
  have n2 : nmB 10 (shR 800 D) ≠ 0 := by have := nmB_pos (b := 10) (.inl rfl) (r := r2) hc; rw [hr2]; omega
  have l1 : D.length = r.length + 1 := by rw [hD]; rfl
  have l2 : (shR 800 D).length = r2.length + 1 := by rw [hr2]; rfl
  by_cases hbig : 400 < a
  · have hc4 : clF a' = 400 := by unfold clF; omega
    obtain ⟨a1, a2⟩ := de_big m n (j := clF a' - ((shR 800 D).length : Nat)) g2 (by omega)
    obtain ⟨b1, b2⟩ := de_big m n (j := a - (D.length : Nat)) g1 (by omega)
    exact ⟨a1.trans b1.symm, a2.trans b2.symm⟩
  by_cases hlow : a < -400
  · have hc4 : clF a' = -400 := by unfold clF; omega
    obtain ⟨a1, a2⟩ := de_low m n (j := clF a' - ((shR 800 D).length : Nat)) n2 u2 (by omega)
    obtain ⟨b1, b2⟩ := de_low m n (j := a - (D.length : Nat)) n1 u1 (by omega)
    exact ⟨a1.trans b1.symm, a2.trans b2.symm⟩
  have hca : clF a' = a := by unfold clF; omega
  rw [hca]
  unfold shR
  by_cases hk : D.length ≤ 800
  · rw [if_pos hk]; exact ⟨rfl, rfl⟩
  rw [if_neg hk]
  obtain ⟨p1, p2, p3⟩ := cut_parts (.inl rfl) (k := 800) (by omega) ha hl
  rw [e10] at p1 p3
  obtain ⟨M, hM⟩ : ∃ M, M = 799 := ⟨_, rfl⟩
  have hlt : (D.take 800).length = M + 1 := by rw [List.length_take]; omega
  have hq : 10 ^ M ≤ nmB 10 (D.take 800) := by
    have e : D.take 800 = c :: r.take 799 := by rw [hD]; rfl
    have := nmB_ge (b := 10) (r := r.take 799) hc
    have hlen : (r.take 799).length = M := by
      rw [List.length_take]
      omega
    rw [hlen, e10] at this
    rw [e]
    exact this
  have hq' : nmB 10 (D.take 800) < 10 ^ (M + 1) := by
    have := nmB_lt (b := 10) (.inl rfl) (D.take 800)
    rw [hlt, e10] at this
    exact this
  obtain ⟨G, hG⟩ : ∃ G : Nat, (G : Int) = 800 - a := ⟨(800 - a).toNat, by omega⟩
  obtain ⟨q, hqe⟩ : ∃ q, q = nmB 10 (D.take 800) := ⟨_, rfl⟩
  have e2 : nmB 10 (D.take 800 ++ [49]) = q * 10 + 1 := by rw [nmB_snoc, one_dg, hqe]; rfl
  have hlen : (D.take 800 ++ [49]).length = 801 := by rw [List.length_append, hlt, List.length_singleton]; omega
  rw [← hqe] at hq hq' p1
  have key := cut_text (m := m) (n := n) (C := 10 ^ 1) (r := 1) (C' := 10 ^ (D.length - 800)) (r' := nmB 10 (D.drop 800)) hM hG (by omega) hq hq' (by omega) (by decide) p2 p3
  rw [← Nat.pow_add, ← Nat.pow_add] at key
  unfold deP deF
  rw [e2, hlen, p1, show (a - ((801 : Nat) : Int)).toNat = 0 by omega, show (-(a - ((801 : Nat) : Int))).toNat = G + 1 by omega, show (a - (D.length : Nat)).toNat = 0 by omega, show (-(a - ((D.length : Nat) : Int))).toNat = G + (D.length - 800) by omega, Nat.pow_zero, Nat.mul_one, Nat.mul_one]
  exact key
theorem dec_same {m : Int} {n : Bool} {l : List UInt8} (hl : l.length ≤ 10000) (ha : allB 10 l = true) (hz : trZ l ≠ []) {k : Nat} (hk : k ≤ l.length) {P Q : Int} (hP : alike Q P) :
    deP m n (nmB 10 (shR 800 (nuD l))) (clF (((trZ l).length : Nat) - (k : Int) + Q) - ((shR 800 (nuD l)).length : Nat)) = rnP m n (dnA 10 (trZ l) k P).1 (dnA 10 (trZ l) k P).2 ∧ deF m n (nmB 10 (shR 800 (nuD l))) (clF (((trZ l).length : Nat) - (k : Int) + Q) - ((shR 800 (nuD l)).length : Nat)) = rnF m n (dnA 10 (trZ l) k P).1 (dnA 10 (trZ l) k P).2 := by
  obtain ⟨c, r, hT⟩ : ∃ c r, trZ l = c :: r := by
    cases h : trZ l with
    | nil => exact absurd h hz
    | cons c r => exact ⟨c, r, rfl⟩
  have hc := trZ_head ha hT
  have haT := allB_trZ ha
  obtain ⟨r', hr'⟩ := trR_head (b := 10) (r := r) hc
  have haD : allB 10 (nuD l) = true := trR_all haT
  have hlast : ∀ r c, nuD l = r ++ [c] → lq8 c ≠ 48 := fun r c h => trR_last h
  have eD : nuD l = c :: r' := by unfold nuD; rw [hT, hr']
  have lT := trZ_len l
  have lD : (nuD l).length ≤ (trZ l).length := trR_len (trZ l)
  have hA : nmB 10 (nuD l) ≠ 0 := by
    have := nmB_pos (b := 10) (.inl rfl) (r := r') hc
    rw [eD]; omega
  have key := dec_cut (m := m) (n := n) (a := ((trZ l).length : Nat) - (k : Int) + P) (a' := ((trZ l).length : Nat) - (k : Int) + Q) haD hlast eD hc (by unfold alike at hP; omega)
  have hdn := dn_de m n (c := c) (r := r) (k := k) (P := P) hc
  rw [← hT] at hdn
  have e1 := nmB_trR (b := 10) (trZ l)
  have hs := de_shift m n (A := nmB 10 (nuD l)) hA ((trZ l).length - (nuD l).length) (((trZ l).length : Nat) - (k : Int) + P - ((nuD l).length : Nat))
  rw [show ((trZ l).length : Nat) - (k : Int) + P - ((nuD l).length : Nat) - (((trZ l).length - (nuD l).length : Nat) : Int) = P - k by omega] at hs
  have e2 : nmB 10 (nuD l) * 10 ^ ((trZ l).length - (nuD l).length) = nmB 10 (trZ l) := e1.symm
  rw [e2] at hs
  exact ⟨key.1.trans (hs.1.symm.trans hdn.1.symm), key.2.trans (hs.2.symm.trans hdn.2.symm)⟩
end Go.Rd
