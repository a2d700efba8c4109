/-
  NumRe, NumRf, NumRg, NumRk, NumRm, RpG, TxF, TxG
-/
import Derived.Test.YtgefjidphfdhdabGreatDoorG15
import Derived.Lib.Bytealg
import Derived.Laws.RangeAny
namespace Go.Rd
open Go.Rn
/-- a quotient with more bits is rounded the same -/
theorem dvK_more {m E : Int} {n : Bool} {A B k : Nat} (j : Nat) (h : 54 ≤ bitLen (A * 2 ^ k / B)) : rnP m n (dvK A B k) (E + j) = rnP m n (dvK A B (k + j)) E ∧ rnF m n (dvK A B k) (E + j) = rnF m n (dvK A B (k + j)) E := by
  have r := stk_round (m := m) (neg := n) (A := dvK A B (k + j)) (d := j + 1) (F := E) (.inr (by rw [dvK_div]; exact h))
  rw [dvK_stk, show E + ((j + 1 : Nat) : Int) - 1 = E + (j : Int) by omega] at r
  exact r
/-- any two with bits enough -/
theorem dvK_any {m : Int} {n : Bool} {A B k j : Nat} (h : 54 ≤ bitLen (A * 2 ^ k / B)) (h' : 54 ≤ bitLen (A * 2 ^ j / B)) : rnP m n (dvK A B k) (-(k : Int) - 1) = rnP m n (dvK A B j) (-(j : Int) - 1) ∧ rnF m n (dvK A B k) (-(k : Int) - 1) = rnF m n (dvK A B j) (-(j : Int) - 1) := by
  rcases Nat.le_total k j with hk | hk
  · have r := dvK_more (m := m) (n := n) (E := -(j : Int) - 1) (j - k) h
    rw [show k + (j - k) = j by omega, show -(j : Int) - 1 + ((j - k : Nat) : Int) = -(k : Int) - 1 by omega] at r
    exact r
  · have r := dvK_more (m := m) (n := n) (E := -(k : Int) - 1) (k - j) h'
    rw [show j + (k - j) = k by omega, show -(k : Int) - 1 + ((k - j : Nat) : Int) = -(j : Int) - 1 by omega] at r
    exact ⟨r.1.symm, r.2.symm⟩
theorem upN_bits {A B : Nat} (hA : A ≠ 0) (hB : B ≠ 0) : 80 ≤ bitLen (A * 2 ^ upN A B / B) := by
  refine le_len (k := 79) ?_
  rw [Nat.le_div_iff_mul_le (by omega)]
  exact up_big hA
/-- A / B, rounded: the pattern, the flags -/
def rqP (m : Int) (n : Bool) (A B : Nat) : Int := rnP m n (dvK A B (upN A B)) (-((upN A B : Nat) : Int) - 1)
def rqF (m : Int) (n : Bool) (A B : Nat) : Int := rnF m n (dvK A B (upN A B)) (-((upN A B : Nat) : Int) - 1)
/-- any quotient with bits enough is rounded so -/
theorem rq_any {m : Int} {n : Bool} {A B k : Nat} (hA : A ≠ 0) (hB : B ≠ 0) (h : 54 ≤ bitLen (A * 2 ^ k / B)) : rnP m n (dvK A B k) (-(k : Int) - 1) = rqP m n A B ∧ rnF m n (dvK A B k) (-(k : Int) - 1) = rqF m n A B :=
  dvK_any h (Nat.le_trans (by omega) (upN_bits hA hB))
theorem dvK_scale {A B c : Nat} (hc : 0 < c) (k : Nat) : dvK (A * c) (B * c) k = dvK A B k := by
  unfold dvK
  have e : A * c * 2 ^ k = A * 2 ^ k * c := by rw [Nat.mul_assoc, Nat.mul_comm c, ← Nat.mul_assoc]
  rw [e, Nat.mul_div_mul_right _ _ hc, Nat.mul_mod_mul_right]
  by_cases h : A * 2 ^ k % B = 0
  · rw [if_pos h, if_pos (by rw [h, Nat.zero_mul])]
  · rw [if_neg h, if_neg (fun h' => h ((Nat.mul_eq_zero.1 h').resolve_right (by omega)))]
theorem rqd_scale {m : Int} {n : Bool} {A B c : Nat} (hA : A ≠ 0) (hB : B ≠ 0) (hc : 0 < c) : rqP m n (A * c) (B * c) = rqP m n A B ∧ rqF m n (A * c) (B * c) = rqF m n A B := by
  have hA' : A * c ≠ 0 := fun h => (Nat.mul_eq_zero.1 h).elim hA (by omega)
  have hB' : B * c ≠ 0 := fun h => (Nat.mul_eq_zero.1 h).elim hB (by omega)
  have h := upN_bits hA hB
  have e : A * c * 2 ^ upN A B / (B * c) = A * 2 ^ upN A B / B := by rw [Nat.mul_assoc, Nat.mul_comm c, ← Nat.mul_assoc, Nat.mul_div_mul_right _ _ hc]
  obtain ⟨r1, r2⟩ := rq_any (m := m) (n := n) (k := upN A B) hA' hB' (by rw [e]; omega)
  rw [dvK_scale hc] at r1 r2
  exact ⟨r1.symm, r2.symm⟩
/-! ### decimal -/
theorem ten_two {e J i : Nat} (h1 : 28 * i ≤ e) (h2 : J ≤ 93 * i) : 2 ^ J ≤ 10 ^ e := by
  have h : (2 : Nat) ^ 93 ≤ 10 ^ 28 := by decide
  have h3 : ((2 : Nat) ^ 93) ^ i ≤ (10 ^ 28) ^ i := Nat.pow_le_pow_left h i
  rw [← Nat.pow_mul, ← Nat.pow_mul] at h3
  exact Nat.le_trans (Nat.pow_le_pow_right (by omega) h2) (Nat.le_trans h3 (Nat.pow_le_pow_right (by omega) h1))
/-- A times ten to the power of j, rounded -/
def deP (m : Int) (n : Bool) (A : Nat) (j : Int) : Int := rqP m n (A * 10 ^ j.toNat) (10 ^ (-j).toNat)
def deF (m : Int) (n : Bool) (A : Nat) (j : Int) : Int := rqF m n (A * 10 ^ j.toNat) (10 ^ (-j).toNat)
theorem ten_ne (j : Nat) : 10 ^ j ≠ 0 := fun h => by have := Nat.pow_pos (n := j) (show 0 < 10 by omega); omega
theorem mul_ne {A B : Nat} (hA : A ≠ 0) (hB : B ≠ 0) : A * B ≠ 0 := fun h => (Nat.mul_eq_zero.1 h).elim hA hB
/-- noughts behind, and the point moved -/
theorem de_shift (m : Int) (n : Bool) {A : Nat} (hA : A ≠ 0) (c : Nat) (j : Int) : deP m n (A * 10 ^ c) (j - c) = deP m n A j ∧ deF m n (A * 10 ^ c) (j - c) = deF m n A j := by
  obtain ⟨d, hd⟩ : ∃ d : Nat, (-(j - c)).toNat = (-j).toNat + d ∧ c + (j - c).toNat = j.toNat + d := ⟨(-(j - c)).toNat - (-j).toNat, by omega, by omega⟩
  have e1 : A * 10 ^ c * 10 ^ (j - c).toNat = A * 10 ^ j.toNat * 10 ^ d := by rw [Nat.mul_assoc, ← Nat.pow_add, hd.2, Nat.pow_add, Nat.mul_assoc]
  unfold deP deF
  rw [e1, hd.1, Nat.pow_add]
  exact rqd_scale (mul_ne hA (ten_ne _)) (ten_ne _) (Nat.pow_pos (by omega))
/-- with the other sign -/
theorem de_swM (m : Int) (n : Bool) (A : Nat) (j : Int) : deP (swM m) (!n) A j = deP m n A j ∧ deF (swM m) (!n) A j = deF m n A j := by
  unfold deP deF rqP rqF
  rw [rnP_swM, rnF_swM]
  exact ⟨rfl, rfl⟩
def chD (d : Nat) : UInt8 := UInt8.ofNat (48 + d)
/-- the decimal letters of a number below 10^f -/
def decF : Nat → Nat → List UInt8
  | 0, _ => []
  | f + 1, n => if n < 10 then [chD n] else decF f (n / 10) ++ [chD (n % 10)]
def dcL (n : Nat) : List UInt8 := decF 20 n
theorem chD_num {d : Nat} (h : d < 10) : lq8 (chD d) = ((48 + d : Nat) : Int) := by
  unfold lq8 chD
  rw [UInt8.toNat_ofNat']
  omega
theorem chD_dg {d : Nat} (h : d < 10) (b : Int) : dgvR (lq8 (chD d)) b = (d : Int) := by
  rw [chD_num h]
  unfold dgvR
  rw [if_pos (by omega)]
  omega
theorem decF_all (f n : Nat) (b : Int) : allB b (decF f n) = true := by
  induction f generalizing n with
  | zero => rfl
  | succ f ih =>
    unfold decF
    split
    · rename_i h
      unfold allB
      rw [List.all_cons, chD_dg h, decide_eq_true (by omega)]
      rfl
    · unfold allB
      rw [List.all_append]
      have := ih (n / 10)
      unfold allB at this
      rw [this, List.all_cons, chD_dg (show n % 10 < 10 by omega), decide_eq_true (by omega)]
      rfl
theorem decF_num {f n : Nat} (h : n < 10 ^ f) : nmB 10 (decF f n) = n := by
  induction f generalizing n with
  | zero =>
    have : n = 0 := by simpa using h
    rw [this]
    rfl
  | succ f ih =>
    unfold decF
    split
    · rename_i h1
      show (0 * (10 : Int).toNat + (dgvR (lq8 (chD n)) 10).toNat) = n
      rw [chD_dg h1]
      omega
    · rw [nmB_snoc, ih (by rw [Nat.pow_succ] at h; omega), chD_dg (show n % 10 < 10 by omega), show (10 : Int).toNat = 10 from rfl]
      omega
theorem decF_len (f n : Nat) : (decF f n).length ≤ f := by
  induction f generalizing n with
  | zero => exact Nat.le_refl _
  | succ f ih =>
    unfold decF
    split
    · rw [List.length_singleton]; omega
    · rw [List.length_append, List.length_singleton]
      have := ih (n / 10)
      omega
theorem dcL_lt {n : Nat} (h : n < 18446744073709551616) : n < 10 ^ 20 := Nat.lt_trans h (by decide)
theorem dg46 (b : Int) : dgvR 46 b = -1 := by
  unfold dgvR
  rw [if_neg (by omega), if_neg (by omega)]
theorem sc1_app {b : Int} {A : List UInt8} (h : allB b A = true) (p : Bool) (r : List UInt8) : sc1 b p (A ++ r) = (A ++ (sc1 b p r).1, (if p = true then A.length else 0) + (sc1 b p r).2.1, (sc1 b p r).2.2) := by
  induction A with
  | nil => simp
  | cons c A ih =>
    unfold allB at h ih
    rw [List.all_cons, Bool.and_eq_true] at h
    have h1 := of_decide_eq_true h.1
    have h46 : lq8 c ≠ 46 := fun h' => by rw [h', dg46] at h1; omega
    rw [List.cons_append, sc1, if_neg (fun h' => h46 h'.1), if_pos h1, ih h.2]
    cases p <;> simp <;> omega
/-! ### letters that lead -/
theorem digit_letter {c : UInt8} (h : 0 ≤ dgvR (lq8 c) 10) : 48 ≤ lq8 c ∧ lq8 c ≤ 57 := by
  unfold dgvR at h
  split at h
  · assumption
  · rw [if_neg (by omega)] at h
    omega
/-! ### a power behind the digits -/
def expL (x : Int) : List UInt8 := if x < 0 then 45 :: dcL x.natAbs else dcL x.natAbs
/-! ### letters -/
/-! ### digits with a point -/
/-! ### powers, cut -/
/-! ### noughts behind -/
def trR (l : List UInt8) : List UInt8 := (l.reverse.dropWhile fun c => lq8 c == 48).reverse
theorem trR_nil : trR [] = [] := rfl
theorem trR_snoc (l : List UInt8) (c : UInt8) : trR (l ++ [c]) = if lq8 c = 48 then trR l else l ++ [c] := by
  unfold trR
  rw [List.reverse_append, List.reverse_singleton, List.singleton_append, List.dropWhile_cons]
  by_cases h : lq8 c = 48
  · rw [if_pos (by simpa using h), if_pos h]
  · rw [if_neg (by simpa using h), if_neg h, List.reverse_cons, List.reverse_reverse]
theorem snoc_ind {P : List UInt8 → Prop} (h0 : P []) (h1 : ∀ l c, P l → P (l ++ [c])) (l : List UInt8) : P l := by
  have key : ∀ k (l : List UInt8), l.length = k → P l := by
    intro k
    induction k with
    | zero => intro l hl; rw [List.eq_nil_of_length_eq_zero hl]; exact h0
    | succ k ih =>
      intro l hl
      have hne : l ≠ [] := fun h => by rw [h] at hl; cases hl
      rw [← List.dropLast_concat_getLast hne]
      exact h1 _ _ (ih _ (by rw [List.length_dropLast]; omega))
  exact key _ l rfl
theorem trR_len (l : List UInt8) : (trR l).length ≤ l.length := by
  unfold trR
  rw [List.length_reverse]
  have := (List.dropWhile_sublist (l := l.reverse) fun c => lq8 c == 48).length_le
  rw [List.length_reverse] at this
  exact this
theorem nmB_trR {b : Int} (l : List UInt8) : nmB b l = nmB b (trR l) * b.toNat ^ (l.length - (trR l).length) := by
  refine snoc_ind (P := fun l => nmB b l = nmB b (trR l) * b.toNat ^ (l.length - (trR l).length)) ?_ ?_ l
  · rfl
  · intro l c ih
    rw [trR_snoc]
    by_cases h : lq8 c = 48
    · have hd : (dgvR 48 b).toNat = 0 := by unfold dgvR; rw [if_pos (by omega)]; rfl
      have := trR_len l
      rw [if_pos h, nmB_snoc, h, hd, Nat.add_zero, ih, Nat.mul_assoc, ← Nat.pow_succ, List.length_append, List.length_singleton]
      congr 2
      omega
    · rw [if_neg h, Nat.sub_self, Nat.pow_zero, Nat.mul_one]
/-! ### digits cut -/
end Go.Rd
namespace Go.Rd
open Go.Rn Go.Nt
theorem words_pow (k : Nat) : (4294967296 : Nat) ^ k = 2 ^ (32 * k) := by rw [Nat.pow_mul]
/-! ### a numeral as a number -/
end Go.Rd
namespace Go.Proofs.YtgefjidphfdhdabGreatDoor.Na
open Go.KRun Go.Nt Go.Rd
set_option maxRecDepth 100000
theorem lt_w32 (V : Nat) : V < 4294967296 ^ (d32 V).length := by
  have := vb_lt (b := 4294967296) (by omega) (d32 V) (d32_wds V)
  rw [show vb 4294967296 (d32 V) = V from vb_db (by omega) V] at this
  exact this
theorem low_w32 {V : Nat} (h : 0 < (d32 V).length) : 4294967296 ^ ((d32 V).length - 1) ≤ V := by
  rcases Nat.lt_or_ge V (4294967296 ^ ((d32 V).length - 1)) with h1 | h1
  · have : (d32 V).length ≤ (d32 V).length - 1 := db_len (b := 4294967296) (by omega) _ _ h1
    omega
  · exact h1
theorem pos_w32 {V : Nat} (h : V ≠ 0) : 0 < (d32 V).length := (db_pos_len (b := 4294967296) (by omega)).2 (by omega)
theorem lenN_bits {V : Nat} (h0 : V ≠ 0) (h : (d32 V).length ≤ 8192) : lenN (d32 V) = ((bitLen V : Nat) : Int) := by
  have hp := pos_w32 h0
  have hc := d32_canon V
  obtain ⟨L, hL⟩ : ∃ L, L = d32 V := ⟨_, rfl⟩
  have eV : vb 4294967296 L = V := by rw [hL]; exact vb_db (by omega) V
  rw [← hL] at hp hc h ⊢
  have hb : badL L = false := by
    unfold badL
    rw [decide_eq_false (by omega), Bool.false_or]
    rcases hc.2 with h0 | h0
    · omega
    · rw [beq_eq_false_iff_ne.2 h0, Bool.and_false]
  have e1 : lenN L = 32 * ((L.length - 1 : Nat) : Int) + (bitLen (L.getD (L.length - 1) 0).toNat : Nat) := by
    unfold lenN
    rw [hb, beq_eq_false_iff_ne.2 (show L.length ≠ 0 by omega)]
    rfl
  have ht := vb_take 4294967296 L (L.length - 1)
  rw [show L.length - 1 + 1 = L.length by omega, List.take_length, eV] at ht
  have lo : vb 4294967296 (L.take (L.length - 1)) < 4294967296 ^ (L.length - 1) := by
    have h1 := vb_lt (b := 4294967296) (by omega) (L.take (L.length - 1)) (fun x hx => hc.1 x (List.mem_of_mem_take hx))
    rw [List.length_take, Nat.min_eq_left (by omega)] at h1
    exact h1
  have hpw : 0 < 4294967296 ^ (L.length - 1) := Nat.pow_pos (by omega)
  have htop : (L.getD (L.length - 1) 0).toNat ≠ 0 := by
    have hlt : L.length - 1 < L.length := by omega
    have hw := hc.1 (L.getD (L.length - 1) 0) (by simp [List.getD, List.getElem?_eq_getElem hlt])
    rcases hc.2 with h1 | h1
    · omega
    · have : L.getD (L.length - 1) 0 ≠ 0 := h1
      omega
  have hdiv : V / 2 ^ (32 * (L.length - 1)) = (L.getD (L.length - 1) 0).toNat := by
    rw [← words_pow, ht, Nat.add_comm, Nat.mul_add_div hpw, Nat.div_eq_of_lt lo, Nat.add_zero]
  have hs := bitLen_shift V (32 * (L.length - 1)) (by rw [hdiv]; exact htop)
  rw [hdiv] at hs
  rw [e1, hs]
  omega
section
variable {H : Hp} {p q : Option Addr} {n c n' c' V W : Nat}
theorem rShl (h : IsR H p n c V) (k : Nat) : decide (shlR (rowOf H p n) ((k : Nat) : Int).toNat = dg (sM n (k : Nat)) ((V * 2 ^ k : Nat) : Int)) = true := by
  refine decide_eq_true ?_
  unfold shlR sM
  rw [h.2.2.1, ← h.2.2.2.1, vN_d32, Int.toNat_natCast, Int.natCast_mul, Go.Wd.cast_pow]
theorem rBadK (h : IsR H p n c V) (k : Nat) : (badL (rowOf H p n) || decide (((k : Nat) : Int) < 0)) = false := by
  rw [h.good, decide_eq_false (by omega)]
  rfl
theorem rFew (h : IsR H p n c V) (h0 : V ≠ 0) {k : Nat} (hk : k ≤ 200000) : decide (((k : Nat) : Int) > 262144 - lenN (rowOf H p n)) = false := by
  have hn := h.2.2.2.2
  have hl := h.2.2.2.1
  rw [h.2.2.1, lenN_bits h0 (by omega)]
  have : bitLen V ≤ 32 * n := Go.Rn.len_le (by rw [← words_pow]; rw [hl]; exact lt_w32 V)
  exact decide_eq_false (by omega)
theorem rNe (h : IsR H p n c V) (h0 : V ≠ 0) : decide (n = 0) = false := by
  have := pos_w32 h0
  have := h.2.2.2.1
  exact decide_eq_false (by omega)
end
theorem shl_lt {V k n : Nat} (h : V < 4294967296 ^ n) : V * 2 ^ k < 4294967296 ^ sM n (k : Nat) := by
  unfold sM
  rw [Int.toNat_natCast, Nat.add_comm (k / 32), words_pow]
  rw [words_pow] at h
  have h2 : (2 : Nat) ^ k < 2 ^ (32 * (k / 32 + 1)) := Nat.pow_lt_pow_right (by omega) (by omega)
  have := Nat.mul_lt_mul'' h h2
  rw [← Nat.pow_add] at this
  rw [show 32 * (n + 1 + k / 32) = 32 * n + 32 * (k / 32 + 1) by omega]
  exact this
theorem quo_lt {S P : Nat} (hP : P ≠ 0) (hS : (d32 P).length ≤ (d32 S).length) : S / P < 4294967296 ^ ((d32 S).length - (d32 P).length + 1) := by
  have h1 := lt_w32 S
  have h2 := low_w32 (pos_w32 hP)
  have h3 := pos_w32 hP
  rw [Nat.div_lt_iff_lt_mul (by omega)]
  refine Nat.lt_of_lt_of_le h1 ?_
  refine Nat.le_trans ?_ (Nat.mul_le_mul_left _ h2)
  rw [← Nat.pow_add]
  exact Nat.pow_le_pow_right (by omega) (by omega)
theorem le_w32 {S P : Nat} (h : P ≤ S) : (d32 P).length ≤ (d32 S).length := db_len (b := 4294967296) (by omega) _ _ (Nat.lt_of_le_of_lt h (lt_w32 S))
theorem ten_w32 (k : Nat) : (10 : Nat) ^ k < 4294967296 ^ (k / 9 + 1) := by
  refine Nat.lt_of_le_of_lt (Nat.pow_le_pow_right (by omega) (show k ≤ 9 * (k / 9 + 1) by omega)) ?_
  rw [Nat.pow_mul]
  exact Nat.pow_lt_pow_left (by decide) (by omega)
end Go.Proofs.YtgefjidphfdhdabGreatDoor.Na
namespace Go.Proofs.YtgefjidphfdhdabGreatDoor.Na
open Go.KRun Go.Nt
set_option maxRecDepth 100000
def dOut (a : Value) (la : List Value) (V : Nat) (y : Lf) : Prop := ∃ (D : List Int) (r w : Value) (Y : List Value × TypeId) (g : Nat → Value), y.1 = dF a r (.slice (some ⟨2, 0, none⟩) D.length grown) w ++ tl 38 g ∧ y.2.1 = hB2 (wB (D.map asc)) Y la ∧ D.length < 100000 ∧ (∀ x ∈ D, Dg 10 x) ∧ vb 10 D = V ∧ (Y.1.all still) = true
theorem d_round {o n c : Nat} {la : List Value} {N V : Nat} (hla : la.all still = true) (hN : N ≤ 8192) (hV0 : 0 < V) {e : Nat} (he : e = 262144) (hV : V < 2 ^ e) (r : Nat) (y : Lf) (h : dInv (sl 0 o n c) la N V r y) :
    RunsW (tabH Tryz.prog extY conDc hcDc) (dL Tryz.f32) y fun e z => match e with | none => ∃ r', r' < r ∧ dInv (sl 0 o n c) la N V r' z | some none => False | some (some id') => id' = 0 ∧ dOut (sl 0 o n c) la V z := by
  obtain ⟨k, D, W, Z, w, g, ht, hh, hD, hDg, hwz, hW, hlen, hv, hr, hk9⟩ := h
  obtain ⟨t, h', sc⟩ := y
  simp only at ht hh
  subst ht hh
  have hWw : wds W := fun x hx => hwz x (List.mem_append_left _ hx)
  have hWl : W.length ≤ N := by rw [← hlen, List.length_append]; omega
  have hpos := vb_pos10 hWw hW
  have hsm : smallC N = true := blt_iff.2 (by unfold dead; omega)
  by_cases h0 : 0 < W.length
  · have lc : decide (((W.length : Nat) : Int) > 0) = true := decide_eq_true (by omega)
    have hR := hpos.2 h0
    have hk : k < 9040 := pw_29 (k := k) (V := V) (by
      have := Nat.mul_le_mul_left (10 ^ (9 * k)) (show 1 ≤ vb 4294967296 W by omega)
      omega) he hV
    obtain ⟨q1, Z', q2, q3, q4, q5⟩ := tp_words hwz
    have hp : vb 4294967296 W % 1000000000 < 4294967296 := by omega
    have l1 : rowOk tU (wU (W ++ Z)) 0 W.length N = true := wU_rowAt hwz (by rw [List.length_append]; omega) hWl hsm
    have l2 : rowOk tU (tpS (wU (W ++ Z)) W.length) 0 W.length N = true := by
      rw [q2]
      exact wU_rowAt q4 (by rw [q5, List.length_append]; omega) hWl hsm
    have stS : ∀ v ∈ (tpS (wU (W ++ Z)) W.length), still v = true := by
      rw [q2]
      exact List.all_eq_true.1 (wU_allS _)
    have ep : ∀ (D : List Int) (j : Nat), apB (wB (D.map asc)) (tpP (wU (W ++ Z)) W.length) j = wB ((D ++ ld j (vb 4294967296 W % 1000000000)).map asc) := fun D j => by rw [q1]; exact apB_eq hp D j
    have dec : vb 4294967296 W / 1000000000 < vb 4294967296 W := Nat.div_lt_self hR (by omega)
    have next : ∀ (D : List Int), D.length = 9 * k → vb 10 D + 10 ^ (9 * k) * vb 4294967296 W = V → (∀ x ∈ D, Dg 10 x) → ∀ (z : Lf) (w' : Value), (∃ g, z.1 = dF (sl 0 o n c) (sl 1 0 (trS (wU (W ++ Z)) W.length) N) (.slice (some ⟨2, 0, none⟩) (D.length + 9) grown) w' ++ tl 38 g) → z.2.1 = ⟨3, [(wB ((D ++ ld 9 (vb 4294967296 W % 1000000000)).map asc), tBy), (tpS (wU (W ++ Z)) W.length, tU), (la, tR)]⟩ → ∃ r', r' < r ∧ dInv (sl 0 o n c) la N V r' z := fun D hD hv hDg z w' hz1 hz2 => by
      obtain ⟨g', hz1⟩ := hz1
      refine ⟨_, by rw [hr]; exact dec, k + 1, D ++ ld 9 (vb 4294967296 W % 1000000000), db 4294967296 (vb 4294967296 W / 1000000000), Z', w', g', ?_, ?_, ?_, ?_, q4, ?_, by rw [q5]; exact hlen, ?_, ?_⟩
      · rw [hz1, q3]
        unfold dS
        rw [if_neg (by omega), List.length_append, ld_len]
      · rw [hz2, q2]
        unfold dX
        rw [if_neg (by omega)]
        rfl
      · rw [List.length_append, ld_len, hD]; omega
      · intro x hx
        rcases List.mem_append.1 hx with hx | hx
        · exact hDg x hx
        · exact ld_dg _ _ x hx
      · exact (can_db (by omega) _).2
      · rw [vb_db (by omega)]
        exact piece_step hD hv
      · exact ⟨by rw [vb_db (by omega)], by omega⟩
    by_cases hk0 : k = 0
    · have hDn : D = [] := List.length_eq_zero_iff.1 (by omega)
      have ap : ∀ (m j : Nat), m = j → m < 1073741824 → (apL [] (tpP (wU (W ++ Z)) W.length) m j).1 = (apL [] (tpP (wU (W ++ Z)) W.length) m j).2 := fun m j hm hb => by
        rw [q1]
        exact apL_ok hp [] (m := m) (j := j) (by simpa using hm) hb
      have e0 : dS k D = nilS := by unfold dS; rw [if_pos hk0]
      have e1 : dX k D = [] := by unfold dX; rw [if_pos hk0]
      rw [e0, e1]
      have stY : ∀ v ∈ ((apB [] (tpP (wU (W ++ Z)) W.length) 9, tBy) : List Value × TypeId).1, still v = true := by
        have := ep [] 9
        rw [show wB (List.map asc []) = [] from rfl] at this
        simp only [this]
        exact List.all_eq_true.1 (wB_still _)
      refine ((goesT_runsW (s0 := sc) tabDc (dc_go0 W.length N (sl 0 o n c) w (wU (W ++ Z)) la g) (okCons l2 (okCons rfl (okCons (ap 8 8 (by simp) (by omega)) (okCons rfl (okCons (ap 7 7 (by simp) (by omega)) (okCons rfl (okCons (ap 6 6 (by simp) (by omega)) (okCons rfl (okCons (ap 5 5 (by simp) (by omega)) (okCons rfl (okCons (ap 4 4 (by simp) (by omega)) (okCons rfl (okCons (ap 3 3 (by simp) (by omega)) (okCons rfl (okCons (ap 2 2 (by simp) (by omega)) (okCons rfl (okCons (ap 1 1 (by simp) (by omega)) (okCons rfl (okCons rfl (okCons rfl (okCons rfl (okCons rfl (okCons l1 (okCons hla (okCons rfl (okL1 lc))))))))))))))))))))))))))).kept (k := 2) (b := 19) (base := [(tpS (wU (W ++ Z)) W.length, tU), (la, tR)]) (y := (apB [] (tpP (wU (W ++ Z)) W.length) 9, tBy)) (front' := dF (sl 0 o n c) (sl 1 0 (trS (wU (W ++ Z)) W.length) N) (.slice (some ⟨2, 0, none⟩) 9 grown) (uu (pNx (tpP (wU (W ++ Z)) W.length) 9))) rfl (by kernel_rfl) (fun i x hi => by
        have hi2 : i < 2 := Hp.blk_lt hi
        have h01 : i = 0 ∨ i = 1 := by omega
        rcases h01 with rfl | rfl
        · obtain rfl := (Option.some.inj hi).symm
          exact ⟨rfl, List.all_eq_true.1 hla⟩
        · obtain rfl := (Option.some.inj hi).symm
          exact ⟨rfl, stS⟩) rfl (by omega) stY (by
        intro v hv
        simp only [dF, List.mem_cons, List.not_mem_nil, or_false] at hv
        rcases hv with rfl | rfl | rfl | rfl | rfl | rfl | rfl | rfl <;> rfl)).mono fun e z hz => ?_
      obtain ⟨rfl, hz1, hz2⟩ := hz
      have e9 := ep [] 9
      rw [show wB (List.map asc []) = [] from rfl] at e9
      rw [e9] at hz2
      refine next [] (by rw [hk0]; rfl) (by rw [← hDn]; exact hv) (fun x hx => by cases hx) z (uu (pNx (tpP (wU (W ++ Z)) W.length) 9)) hz1 hz2
    · have e0 : dS k D = .slice (some ⟨2, 0, none⟩) D.length grown := by unfold dS; rw [if_neg hk0]
      have e1 : dX k D = [(wB (D.map asc), tBy)] := by unfold dX; rw [if_neg hk0]
      rw [e0, e1]
      have ap : ∀ (m j : Nat), m = D.length + j → m < 1073741824 → (apL (wB (D.map asc)) (tpP (wU (W ++ Z)) W.length) m j).1 = (apL (wB (D.map asc)) (tpP (wU (W ++ Z)) W.length) m j).2 := fun m j hm hb => by
        rw [q1]
        exact apL_ok hp D hm hb
      have lX : (([(wB (D.map asc), tBy)] : List (List Value × TypeId)).all fun x => x.1.all still) = true := by
        rw [List.all_cons, wB_still]
        rfl
      have stY : ∀ v ∈ ((apB (wB (D.map asc)) (tpP (wU (W ++ Z)) W.length) 9, tBy) : List Value × TypeId).1, still v = true := by
        simp only [ep D 9]
        exact List.all_eq_true.1 (wB_still _)
      refine ((goesT_runsW (s0 := sc) tabDc (dc_go1 W.length N D.length (sl 0 o n c) w (wB (D.map asc)) (wU (W ++ Z)) la g) (okCons l2 (okCons rfl (okCons (ap (D.length + 8) 8 rfl (by omega)) (okCons rfl (okCons (ap (D.length + 7) 7 rfl (by omega)) (okCons rfl (okCons (ap (D.length + 6) 6 rfl (by omega)) (okCons rfl (okCons (ap (D.length + 5) 5 rfl (by omega)) (okCons rfl (okCons (ap (D.length + 4) 4 rfl (by omega)) (okCons rfl (okCons (ap (D.length + 3) 3 rfl (by omega)) (okCons rfl (okCons (ap (D.length + 2) 2 rfl (by omega)) (okCons rfl (okCons (ap (D.length + 1) 1 rfl (by omega)) (okCons rfl (okCons (ap D.length 0 rfl (by omega)) (okCons rfl (okCons rfl (okCons rfl (okCons l1 (okCons hla (okCons lX (okL1 lc))))))))))))))))))))))))))).kept (k := 2) (b := 20) (base := [(tpS (wU (W ++ Z)) W.length, tU), (la, tR)]) (y := (apB (wB (D.map asc)) (tpP (wU (W ++ Z)) W.length) 9, tBy)) (front' := dF (sl 0 o n c) (sl 1 0 (trS (wU (W ++ Z)) W.length) N) (.slice (some ⟨2, 0, none⟩) (D.length + 9) grown) (uu (pNx (tpP (wU (W ++ Z)) W.length) 9))) rfl (by kernel_rfl) (fun i x hi => by
        have hi2 : i < 2 := Hp.blk_lt hi
        have h01 : i = 0 ∨ i = 1 := by omega
        rcases h01 with rfl | rfl
        · obtain rfl := (Option.some.inj hi).symm
          exact ⟨rfl, List.all_eq_true.1 hla⟩
        · obtain rfl := (Option.some.inj hi).symm
          exact ⟨rfl, stS⟩) rfl (by omega) stY (by
        intro v hv
        simp only [dF, List.mem_cons, List.not_mem_nil, or_false] at hv
        rcases hv with rfl | rfl | rfl | rfl | rfl | rfl | rfl | rfl <;> rfl)).mono fun e z hz => ?_
      obtain ⟨rfl, hz1, hz2⟩ := hz
      rw [ep D 9] at hz2
      exact next D hD hv hDg z _ hz1 hz2
  · have hR : vb 4294967296 W = 0 := by
      rcases Nat.eq_zero_or_pos (vb 4294967296 W) with h1 | h1
      · exact h1
      · exact absurd (hpos.1 h1) h0
    rw [hR, Nat.mul_zero, Nat.add_zero] at hv
    have hk0 : k ≠ 0 := fun hk => by
      have : D = [] := List.length_eq_zero_iff.1 (by omega)
      rw [this] at hv
      simp [vb] at hv
      omega
    refine (goesT_runsW (s0 := sc) tabDc (dc_out W.length N (sl 0 o n c) (dS k D) w _ g) (okL1 (decide_eq_false (by omega)))).mono fun e z hz => ?_
    obtain ⟨rfl, ⟨g', hz1⟩, hz2⟩ := hz
    have e0 : dS k D = .slice (some ⟨2, 0, none⟩) D.length grown := by unfold dS; rw [if_neg hk0]
    have e1 : dX k D = [(wB (D.map asc), tBy)] := by unfold dX; rw [if_neg hk0]
    rw [e0] at hz1
    rw [e1] at hz2
    exact ⟨rfl, D, _, w, (wU (W ++ Z), tU), g', hz1, hz2, by omega, hDg, hv, wU_allS _⟩
/-- the letters, the highest first, without noughts ahead -/
theorem dec_text {D : List Int} {V : Nat} (hV : 0 < V) (hD : ∀ x ∈ D, Dg 10 x) (hv : vb 10 D = V) : trL 48 ((D.map asc).reverse.map fun n => UInt8.ofNat n.toNat) = decS V := by
  have h1 := dropZ_rev hD
  rw [hv] at h1
  unfold decS decL
  rw [if_neg (by omega), ← h1]
  have key : ∀ L : List Int, (∀ x ∈ L, Dg 10 x) → trL 48 ((L.map asc).map fun n => UInt8.ofNat n.toNat) = (dropZ L).map fun x => UInt8.ofNat (asc x).toNat := by
    intro L
    induction L with
    | nil => intro _; rfl
    | cons x L ih =>
      intro hL
      have hx := hL x List.mem_cons_self
      have ih := ih fun y hy => hL y (List.mem_cons_of_mem _ hy)
      have hx0 := hx.1
      have hx1 : x < 10 := by have := hx.2; omega
      have ev : (((UInt8.ofNat (asc x).toNat).toNat : Nat) : Int) = 48 + x := by
        unfold asc
        simp
        omega
      by_cases h0 : x = 0
      · subst h0
        unfold trL dropZ at *
        rw [List.map_cons, List.map_cons, List.dropWhile_cons_of_pos (by rfl), List.dropWhile_cons_of_pos (by rfl)]
        exact ih
      · unfold trL dropZ at *
        rw [List.map_cons, List.map_cons, List.dropWhile_cons_of_neg (by rw [ev]; simp; omega), List.dropWhile_cons_of_neg (by simpa using h0)]
        simp
  rw [← List.map_reverse]
  exact key D.reverse fun x hx => hD x (List.mem_reverse.1 hx)
theorem bytesL_wB : ∀ L : List Int, bytesL (wB L) = some L
  | [] => rfl
  | x :: L => by
    show bytesL (ub x :: wB L) = _
    simp [bytesL, ub, bytesL_wB L]
theorem d_end {a r w : Value} {D : List Int} {Y : List Value × TypeId} {la : List Value} {V : Nat} (hla : la.all still = true) (hV : 0 < V) (hl : D.length < 100000) (hD : ∀ x ∈ D, Dg 10 x) (hv : vb 10 D = V) (hY : Y.1.all still = true) (g : Nat → Value) (sc : List Dec) :
    RunsW (tabH Tryz.prog extY conDc hcDc) (dE Tryz.f32) (dF a r (.slice (some ⟨2, 0, none⟩) D.length grown) w ++ tl 38 g, hB2 (wB (D.map asc)) Y la, sc) fun e z => (e = none ∨ e = some none) ∧ resS Tryz.prog Tryz.f32 z.1 z.2.1 = some (.tuple #[bS (decS V), .nilIface]) := by
  have l1 : txtChk ((wB (D.map asc)).reverse, tBy) 0 D.length ⟨⟨(D.map asc).reverse.map fun n => UInt8.ofNat n.toNat⟩⟩ = true := by
    unfold txtChk
    have e : (wB (D.map asc)).reverse = wB (D.map asc).reverse := by simp [wB]
    have e2 : ((wB (D.map asc).reverse).drop 0).take D.length = wB (D.map asc).reverse := by
      rw [List.drop_zero]
      exact List.take_of_length_le (by simp [wB])
    simp only [e, e2, bytesL_wB]
    rw [show tomb tBy = false from by kernel_rfl, Nat.ble_eq_true_of_le (by simp [wB])]
    simp
  refine (goesT_runsW (s0 := sc) tabDc (dc_end D.length a r w ⟨⟨(D.map asc).reverse.map fun n => UInt8.ofNat n.toNat⟩⟩ (wB (D.map asc)) Y la g) (okCons rfl (okCons l1 (okCons hY (okCons rfl (okCons rfl (okCons (by rw [wB_len, List.length_map]; exact Nat.beq_refl _) (okCons (isB_wB _) (okCons rfl (okCons hla (okL1 (blt_iff.2 (by omega))))))))))))).mono fun e z hz => ?_
  obtain ⟨rfl, ⟨g', hz1⟩, hz2⟩ := hz
  refine ⟨.inr rfl, ?_⟩
  have et := dec_text hV hD hv
  have : bS (trL 48 (⟨⟨(D.map asc).reverse.map fun n => UInt8.ofNat n.toNat⟩⟩ : ByteArray).data.toList) = bS (decS V) := by rw [← et]
  rw [this] at hz1
  rw [hz1, hz2]
  rfl
theorem dc_body1 : Tryz.f32.body = some (cBody Tryz.f32) := by kernel_rfl
theorem cpD_eq {l : List Value} {o : Nat} {L : List Int} (h : Row l o L) : cpD l o L.length = wU L ∧ cpC l o L.length = true := by
  have e : L.length.min L.length = L.length := Nat.min_self _
  have h1 := h.cut
  have h2 := h.len
  unfold cutV at h1
  unfold cpD cpC
  rw [e, h1]
  refine ⟨by simp, ?_⟩
  rw [show tomb tR = false from by kernel_rfl, show ro tU = false from by kernel_rfl, Nat.ble_eq_true_of_le h2, Nat.ble_eq_true_of_le (by simp), wU_one]
  rfl
theorem canon_trim {L : List Int} (h : canon L) : trimN L = L.length := by
  apply trimN_uniq
  · intro i hi
    simp [List.getD, List.getElem?_eq_none hi]
  · exact h.2
theorem dec_runs {l : List Value} {o n c : Nat} (ha : rowOk tR l o n c = true) (hb : badL (cutI l o n) = false) (h0 : 0 < n) :
    RunsW (tabH Tryz.prog extY conDc hcDc) (seqs (dP Tryz.f32) (.seq (.block 0 (.loop (dL Tryz.f32))) (dE Tryz.f32))) ([sl 0 o n c] ++ List.replicate 45 undef, h1R l, []) fun e z => (e = none ∨ e = some none) ∧ resS Tryz.prog Tryz.f32 z.1 z.2.1 = some (.tuple #[bS (decS (vb 4294967296 (cutI l o n))), .nilIface]) := by
  obtain ⟨a1, a2, a3, a4, a5, a6, a7⟩ := row_of ha
  obtain ⟨L, hL⟩ : ∃ L, L = cutI l o n := ⟨_, rfl⟩
  rw [← hL] at a1 a2 hb ⊢
  have h8 := badL_len hb
  have hc := badL_canon a1.rng hb
  have hla : l.all still = true := List.all_eq_true.2 a7
  have ht := canon_trim hc
  have hw : wds L := a1.rng
  have hV : 0 < vb 4294967296 L := (vb_pos10 hw ht).2 (by omega)
  obtain ⟨k, hk⟩ : ∃ k : Nat, k = 8192 := ⟨_, rfl⟩
  have hlt := vb_lt32 (m := k) hw (by omega)
  obtain ⟨e, he⟩ : ∃ e : Nat, e = 262144 := ⟨_, rfl⟩
  have hlt2 : vb 4294967296 L < 2 ^ e := by
    rw [show (4294967296 : Nat) = 2 ^ 32 from rfl, ← Nat.pow_mul] at hlt
    rw [show e = 32 * k by omega]
    exact hlt
  obtain ⟨c1, c2⟩ := cpD_eq a1
  rw [a2] at c1 c2
  have rX : rowX (h1R l) (some ⟨0, o, none⟩) n c = true := by
    show rowOk tR l o n c = true
    exact ha
  have rO : rowOf (h1R l) (some ⟨0, o, none⟩) n = L := by rw [hL]; rfl
  have lm : okMakeB 4 n n = true := by unfold okMakeB; exact decide_eq_true ⟨by omega, by omega, by omega, by omega⟩
  refine goesT_listW tabDc (dc_pre o n c l) (okCons c2 (okCons lm (okCons (by simp; omega) (okCons rX (okL1 (by rw [rO]; exact hb)))))) fun g => ?_
  refine RunsW.seq (P1 := fun e y => e = none ∧ dOut (sl 0 o n c) l (vb 4294967296 L) y) ?_ ?_ (fun e y he => by cases he.1)
  · refine (RunsW.forLoop (R := fun _ => False) (P := dOut (sl 0 o n c) l (vb 4294967296 L)) (dInv (sl 0 o n c) l n (vb 4294967296 L)) (d_round hla (by omega) hV he hlt2) (n := vb 4294967296 L) ⟨0, [], L, [], undef, g, ?_, ?_, rfl, (fun x hx => by cases hx), (by simpa using hw), ht, by simpa using a2, by simp [vb], rfl, by omega⟩).mono fun e z hz => ?_
    · rw [a2]; rfl
    · show hX [] (cpD l o n) l = hX (dX 0 []) (wU (L ++ [])) l
      rw [c1, List.append_nil]
      rfl
    · match e, hz with
      | none, hz => exact ⟨rfl, hz⟩
  · rintro ⟨t, hh, s⟩ ⟨_, D, r, w, Y, g', e1, e2, e3, e4, e5, e6⟩
    simp only at e1 e2
    subst e1 e2
    exact d_end hla hV e3 e4 e5 e6 g' s
/-- the digits of a number: told ahead whether words are no number, and the text -/
def gDc : AnsH := fun vals h s =>
  match vals, s with
  | [.slice p n c], .inr (.inr (.inr (.inl true))) :: s' => some (.tuple #[bS [], errV 1], h, s', [(rowX h p n c, true), (badL (rowOf h p n), true)])
  | [.slice p n c], .inr (.inr (.inr (.inl false))) :: .inr (.inr (.inr (.inr (.inr (.string b))))) :: s' => some (.tuple #[.string b, .nilIface], h, s', [(rowX h p n c, true), (badL (rowOf h p n), false), (decide (decS (v32O h p n) = b.data.toList), true)])
  | _, _ => none
theorem gDc_ok : AnsHOk 32 gDc := by
  intro vals h s v h' s' lg hg hl m B w E hv
  unfold gDc at hg
  split at hg
  · rename_i p n c s2
    cases hg
    obtain ⟨l1, q⟩ := logB hl
    obtain ⟨l2, _⟩ := logB q
    rcases rowX_cases l1 with ⟨rfl, rfl, rfl, e0⟩ | ⟨b, o, x, rfl, hx, r1, e0⟩
    · rw [e0, badL_nil] at l2
      cases l2
    · rw [e0] at l2
      obtain ⟨a1, a2, a3, a4, a5, a6, a7⟩ := row_of r1
      have hr : Runs (tabH Tryz.prog extY conDc hcDc) (cBody Tryz.f32) ([sl 0 o n c] ++ List.replicate 45 undef, h1R x.1, []) fun e z => (e = none ∨ e = some none) ∧ resS Tryz.prog Tryz.f32 z.1 z.2.1 = some (.tuple #[bS [], errV 1]) := by
        refine (goesT_runs tabDc (dc_bad (some ⟨0, o, none⟩) n c (h1R x.1)) (okCons (rowOk_R r1) (okL1 l2))).mono fun e z he => ?_
        obtain ⟨rfl, ⟨g, z1⟩, z2⟩ := he
        exact ⟨.inr rfl, by rw [z1, z2]; rfl⟩
      exact row_calls0 (T := tabH Tryz.prog extY conDc hcDc) Tryz.func32 dc_body1 (rows1 a7) (vals := [sl 0 o n c]) (fun v hv => by rw [List.mem_singleton.1 hv]; rfl) (by rfl) hr.w E (s := fun _ => b) (fitsR1 hx a5 a6 rfl)
  · rename_i p n c t s2
    cases hg
    obtain ⟨l1, q⟩ := logB hl
    obtain ⟨l2, q⟩ := logB q
    obtain ⟨l3, _⟩ := logB q
    have l3 := of_decide_eq_true l3
    have et : Value.string t = bS t.data.toList := rfl
    rw [et, ← l3]
    rcases rowX_cases l1 with ⟨rfl, rfl, rfl, e0⟩ | ⟨b, o, x, rfl, hx, r1, e0⟩
    · have ev : v32O h none 0 = 0 := by unfold v32O; rw [e0]; rfl
      rw [ev]
      have hr : Runs (tabH Tryz.prog extY conDc hcDc) (cBody Tryz.f32) ([.slice none 0 0] ++ List.replicate 45 undef, ⟨0, []⟩, []) fun e z => (e = none ∨ e = some none) ∧ resS Tryz.prog Tryz.f32 z.1 z.2.1 = some (.tuple #[bS (decS 0), .nilIface]) := by
        refine (goesT_runs tabDc (dc_zero none 0 0 ⟨0, []⟩) (okCons rfl (okCons rfl (okL1 rfl)))).mono fun e z he => ?_
        obtain ⟨rfl, ⟨g, z1⟩, z2⟩ := he
        exact ⟨.inr rfl, by rw [z1, z2]; rfl⟩
      exact row_calls0 (T := tabH Tryz.prog extY conDc hcDc) Tryz.func32 dc_body1 (h0 := ⟨0, []⟩) ⟨rfl, fun b x hx => by have : b < 0 := Hp.blk_lt hx; omega⟩ (vals := [.slice none 0 0]) (fun v hv => by rw [List.mem_singleton.1 hv]; rfl) (by rfl) hr.w E (s := fun i => i) (fun i x hx => by have : i < 0 := Hp.blk_lt hx; omega)
    · have ev : v32O h (some ⟨b, o, none⟩) n = vb 4294967296 (cutI x.1 o n) := by unfold v32O; rw [e0]
      rw [e0] at l2
      obtain ⟨a1, a2, a3, a4, a5, a6, a7⟩ := row_of r1
      rw [ev]
      by_cases hn : n = 0
      · subst hn
        have e1 : cutI x.1 o 0 = [] := List.length_eq_zero_iff.1 a2
        have hr : Runs (tabH Tryz.prog extY conDc hcDc) (cBody Tryz.f32) ([sl 0 o 0 c] ++ List.replicate 45 undef, h1R x.1, []) fun e z => (e = none ∨ e = some none) ∧ resS Tryz.prog Tryz.f32 z.1 z.2.1 = some (.tuple #[bS (decS 0), .nilIface]) := by
          refine (goesT_runs tabDc (dc_zero (some ⟨0, o, none⟩) 0 c (h1R x.1)) (okCons rfl (okCons (rowOk_R r1) (okL1 l2)))).mono fun e z he => ?_
          obtain ⟨rfl, ⟨g, z1⟩, z2⟩ := he
          exact ⟨.inr rfl, by rw [z1, z2]; rfl⟩
        rw [e1]
        exact row_calls0 (T := tabH Tryz.prog extY conDc hcDc) Tryz.func32 dc_body1 (rows1 a7) (vals := [sl 0 o 0 c]) (fun v hv => by rw [List.mem_singleton.1 hv]; rfl) (by rfl) hr.w E (s := fun _ => b) (fitsR1 hx a5 a6 rfl)
      · exact row_calls0 (T := tabH Tryz.prog extY conDc hcDc) Tryz.func32 dc_body (rows1 a7) (vals := [sl 0 o n c]) (fun v hv => by rw [List.mem_singleton.1 hv]; rfl) (by rfl) (dec_runs (rowOk_R r1) l2 (by omega)) E (s := fun _ => b) (fitsR1 hx a5 a6 rfl)
  · cases hg
end Go.Proofs.YtgefjidphfdhdabGreatDoor.Na
