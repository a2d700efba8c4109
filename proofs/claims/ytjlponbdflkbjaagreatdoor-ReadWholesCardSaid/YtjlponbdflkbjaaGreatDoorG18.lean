/-
  NumRl, NumRm, RpG
-/
import Derived.Test.YtjlponbdflkbjaaGreatDoorG17
import Derived.Test.YtjlponbdflkbjaaGreatDoorG08
import Derived.Test.YtjlponbdflkbjaaGreatDoorG14
import Derived.Test.YtjlponbdflkbjaaGreatDoorG15
import Derived.Test.YtjlponbdflkbjaaGreatDoorG12
namespace Go.Rd
open Go.Rn
/-- a numeral's digits: those from the first that is not 0 to the last such one -/
def nuD (l : List UInt8) : List UInt8 := trR (trZ l)
/-- of base 16: sixty digits and a bit for the rest -/
theorem hex_cut {m : Int} {n : Bool} {D : List UInt8} {E : Int} (ha : allB 16 D = true) (hl : ∀ r c, D = r ++ [c] → lq8 c ≠ 48) {c : UInt8} {r : List UInt8} (hD : D = c :: r) (hc : 0 < dgvR (lq8 c) 16) :
    rnP m n (nmB 16 (shR 60 D)) (E - 4 * ((shR 60 D).length : Nat)) = rnP m n (nmB 16 D) (E - 4 * (D.length : Nat)) ∧ rnF m n (nmB 16 (shR 60 D)) (E - 4 * ((shR 60 D).length : Nat)) = rnF m n (nmB 16 D) (E - 4 * (D.length : Nat)) := by
  unfold shR
  by_cases hk : D.length ≤ 60
  · rw [if_pos hk]; exact ⟨rfl, rfl⟩
  rw [if_neg hk]
  obtain ⟨p1, p2, p3⟩ := cut_parts (.inr rfl) (k := 60) (by omega) ha hl
  have hq : 2 ^ 53 ≤ nmB 16 (D.take 60) := by
    have e : D.take 60 = c :: r.take 59 := by rw [hD]; rfl
    have := nmB_ge (b := 16) (r := r.take 59) hc
    have hlen : (r.take 59).length = 59 := by
      rw [List.length_take]
      rw [hD, List.length_cons] at hk
      omega
    rw [hlen] at this
    rw [e]
    exact Nat.le_trans (by decide) this
  have hb := le_len hq
  obtain ⟨q, hqe⟩ : ∃ q, q = nmB 16 (D.take 60) := ⟨_, rfl⟩
  obtain ⟨s, hse⟩ : ∃ s, s = nmB 16 (D.drop 60) := ⟨_, rfl⟩
  obtain ⟨L, hL⟩ : ∃ L, L = D.length := ⟨_, rfl⟩
  rw [← hqe] at p1 hb
  rw [← hse] at p1 p2 p3
  rw [← hL] at p1 p3
  have e16 : (16 : Int).toNat ^ (L - 60) = 2 ^ (4 * (L - 60)) := by rw [Nat.pow_mul]; rfl
  rw [e16] at p1 p3
  have hp : 0 < 2 ^ (4 * (L - 60)) := Nat.pow_pos (by omega)
  have d1 : nmB 16 D / 2 ^ (4 * (L - 60)) = q := by rw [p1, Nat.mul_comm, Nat.mul_add_div hp, Nat.div_eq_of_lt p3, Nat.add_zero]
  have d2 : nmB 16 D % 2 ^ (4 * (L - 60)) = s := by rw [p1, Nat.mul_comm, Nat.mul_add_mod, Nat.mod_eq_of_lt p3]
  have a1 := stk_round (m := m) (neg := n) (A := nmB 16 D) (d := 4 * (L - 60)) (F := E - 4 * (L : Nat)) (.inr (by rw [d1]; omega))
  have s1 : stk (nmB 16 D) (4 * (L - 60)) = 2 * q + 1 := by unfold stk; rw [d1, d2, if_neg (by omega)]
  have e2 : nmB 16 (D.take 60 ++ [49]) = q * 16 + 1 := by rw [nmB_snoc, one_dg, hqe]; rfl
  have hlen : (D.take 60 ++ [49]).length = 61 := by rw [List.length_append, List.length_take, List.length_singleton]; omega
  have d3 : (q * 16 + 1) / 2 ^ 4 = q := by omega
  have d4 : (q * 16 + 1) % 2 ^ 4 = 1 := by omega
  have a2 := stk_round (m := m) (neg := n) (A := q * 16 + 1) (d := 4) (F := E - 4 * 61) (.inr (by rw [d3]; omega))
  have s2 : stk (q * 16 + 1) 4 = 2 * q + 1 := by unfold stk; rw [d3, d4, if_neg (by omega)]
  rw [s1, show E - 4 * (L : Nat) + ((4 * (L - 60) : Nat) : Int) - 1 = E - 241 by omega] at a1
  rw [s2, show E - 4 * 61 + ((4 : Nat) : Int) - 1 = E - 241 by omega] at a2
  rw [e2, hlen, ← hL]
  exact ⟨a2.1.symm.trans a1.1, a2.2.symm.trans a1.2⟩
theorem nm_len {b : Int} (hb : b = 10 ∨ b = 16) (l : List UInt8) : bitLen (nmB b l) ≤ 4 * l.length := len_le (nm_bits hb l)
/-- powers that are alike -/
theorem hex_far {m : Int} {n : Bool} {A k : Nat} {x y z : Int} (hA : A ≠ 0) (hk : bitLen A ≤ k) (hz : -100000 ≤ z ∧ z + k ≤ 100000) (h : alike x y) : rnP m n A (x + z) = rnP m n A (y + z) ∧ rnF m n A (x + z) = rnF m n A (y + z) := by
  have h1 := len_pos hA
  rcases h with h | ⟨h2, h3⟩ | ⟨h2, h3⟩
  · rw [h]; exact ⟨rfl, rfl⟩
  · obtain ⟨a1, a2⟩ := big_eq (m := m) (neg := n) (E := x + z) hA (by unfold lgN; omega)
    obtain ⟨b1, b2⟩ := big_eq (m := m) (neg := n) (E := y + z) hA (by unfold lgN; omega)
    exact ⟨a1.trans b1.symm, a2.trans b2.symm⟩
  · obtain ⟨a1, a2⟩ := low_eq (m := m) (neg := n) (E := x + z) hA (by unfold lgN; omega)
    obtain ⟨b1, b2⟩ := low_eq (m := m) (neg := n) (E := y + z) hA (by unfold lgN; omega)
    exact ⟨a1.trans b1.symm, a2.trans b2.symm⟩
/-- a numeral of base 16 -/
theorem hex_same {m : Int} {n : Bool} {l : List UInt8} (hl : l.length ≤ 10000) (ha : allB 16 l = true) (hz : trZ l ≠ []) {k : Nat} (hk : k ≤ l.length) {P Q : Int} (hP : alike Q P) :
    rnP m n (nmB 16 (shR 60 (nuD l))) (Q + 4 * (((trZ l).length : Nat) - (k : Int) - ((shR 60 (nuD l)).length : Nat))) = rnP m n (dnA 16 (trZ l) k P).1 (dnA 16 (trZ l) k P).2 ∧ rnF m n (nmB 16 (shR 60 (nuD l))) (Q + 4 * (((trZ l).length : Nat) - (k : Int) - ((shR 60 (nuD l)).length : Nat))) = rnF m n (dnA 16 (trZ l) k P).1 (dnA 16 (trZ l) k P).2 := by
  obtain ⟨c, r, hT⟩ : ∃ c r, trZ l = c :: r := by
    cases h : trZ l with
    | nil => exact absurd h hz
    | cons c r => exact ⟨c, r, rfl⟩
  have hc := trZ_head ha hT
  have haT := allB_trZ ha
  obtain ⟨r', hr'⟩ := trR_head (b := 16) (r := r) hc
  have haD : allB 16 (nuD l) = true := trR_all haT
  have hlast : ∀ r c, nuD l = r ++ [c] → lq8 c ≠ 48 := fun r c h => trR_last h
  have eD : nuD l = c :: r' := by unfold nuD; rw [hT, hr']
  have lT := trZ_len l
  have lD := trR_len (trZ l)
  have hcut := hex_cut (m := m) (n := n) (E := Q + 4 * (((trZ l).length : Nat) - (k : Int))) haD hlast eD hc
  have eE : Q + 4 * (((trZ l).length : Nat) - (k : Int) - ((shR 60 (nuD l)).length : Nat)) = Q + 4 * (((trZ l).length : Nat) - (k : Int)) - 4 * ((shR 60 (nuD l)).length : Nat) := by omega
  rw [eE, hcut.1, hcut.2]
  have hA : nmB 16 (nuD l) ≠ 0 := by
    have := nmB_pos (b := 16) (.inr rfl) (r := r') hc
    rw [eD]; omega
  have eL : (nuD l).length ≤ (trZ l).length := lD
  have hfar := hex_far (m := m) (n := n) (k := 40000) (z := 4 * (((trZ l).length : Nat) - (k : Int)) - 4 * ((nuD l).length : Nat)) hA (by
    have := nm_len (b := 16) (.inr rfl) (nuD l)
    omega) (by omega) hP
  rw [show Q + 4 * (((trZ l).length : Nat) - (k : Int)) - 4 * ((nuD l).length : Nat) = Q + (4 * (((trZ l).length : Nat) - (k : Int)) - 4 * ((nuD l).length : Nat)) by omega, hfar.1, hfar.2]
  have e1 := nmB_trR (b := 16) (trZ l)
  have e2 : (16 : Int).toNat ^ ((trZ l).length - (trR (trZ l)).length) = 2 ^ (4 * ((trZ l).length - (nuD l).length)) := by rw [Nat.pow_mul]; rfl
  rw [e2] at e1
  have p := rnP_scale m n (nmB 16 (nuD l)) (4 * ((trZ l).length - (nuD l).length)) (P + (4 * (((trZ l).length : Nat) - (k : Int)) - 4 * ((nuD l).length : Nat)))
  have f := rnF_scale m n (nmB 16 (nuD l)) (4 * ((trZ l).length - (nuD l).length)) (P + (4 * (((trZ l).length : Nat) - (k : Int)) - 4 * ((nuD l).length : Nat)))
  rw [show P + (4 * (((trZ l).length : Nat) - (k : Int)) - 4 * ((nuD l).length : Nat)) - ((4 * ((trZ l).length - (nuD l).length) : Nat) : Int) = P - 4 * k by omega] at p f
  unfold dnA
  rw [if_pos rfl]
  dsimp only
  rw [e1]
  exact ⟨p.symm, f.symm⟩
/-- a decimal one: eight hundred digits, the power cut -/
def clF (x : Int) : Int := min (max x (-400)) 400
theorem dec_cut {m : Int} {n : Bool} {D : List UInt8} {a a' : Int} (ha : allB 10 D = true) (hl : ∀ r c, D = r ++ [c] → lq8 c ≠ 48) {c : UInt8} {r : List UInt8} (hD : D = c :: r) (hc : 0 < dgvR (lq8 c) 10) (h : a' = a ∨ (1000 ≤ a ∧ 1000 ≤ a') ∨ (a ≤ -1000 ∧ a' ≤ -1000)) :
    deP m n (nmB 10 (shR 800 D)) (clF a' - ((shR 800 D).length : Nat)) = deP m n (nmB 10 D) (a - (D.length : Nat)) ∧ deF m n (nmB 10 (shR 800 D)) (clF a' - ((shR 800 D).length : Nat)) = deF m n (nmB 10 D) (a - (D.length : Nat)) := by
  have e10 : (10 : Int).toNat = 10 := rfl
  obtain ⟨r2, hr2⟩ : ∃ r2, shR 800 D = c :: r2 := by
    unfold shR
    split
    · exact ⟨r, hD⟩
    · exact ⟨_, by rw [hD]; rfl⟩
  have g1 := nmB_ge (b := 10) (r := r) hc
  have g2 := nmB_ge (b := 10) (r := r2) hc
  have u1 := nmB_lt (b := 10) (.inl rfl) D
  have u2 := nmB_lt (b := 10) (.inl rfl) (shR 800 D)
  rw [e10] at g1 g2 u1 u2
  rw [← hD] at g1
  rw [← hr2] at g2
  have n1 : nmB 10 D ≠ 0 := by have := nmB_pos (b := 10) (.inl rfl) (r := r) hc; rw [hD]; omega
  have n2 : nmB 10 (shR 800 D) ≠ 0 := by have := nmB_pos (b := 10) (.inl rfl) (r := r2) hc; rw [hr2]; omega
  have l1 : D.length = r.length + 1 := by rw [hD]; rfl
  have l2 : (shR 800 D).length = r2.length + 1 := by rw [hr2]; rfl
  by_cases hbig : 400 < a
  · have hc4 : clF a' = 400 := by unfold clF; omega
    obtain ⟨a1, a2⟩ := de_big m n (j := clF a' - ((shR 800 D).length : Nat)) g2 (by omega)
    obtain ⟨b1, b2⟩ := de_big m n (j := a - (D.length : Nat)) g1 (by omega)
    exact ⟨a1.trans b1.symm, a2.trans b2.symm⟩
  by_cases hlow : a < -400
  · have hc4 : clF a' = -400 := by unfold clF; omega
    obtain ⟨a1, a2⟩ := de_low m n (j := clF a' - ((shR 800 D).length : Nat)) n2 u2 (by omega)
    obtain ⟨b1, b2⟩ := de_low m n (j := a - (D.length : Nat)) n1 u1 (by omega)
    exact ⟨a1.trans b1.symm, a2.trans b2.symm⟩
  have hca : clF a' = a := by unfold clF; omega
  rw [hca]
  unfold shR
  by_cases hk : D.length ≤ 800
  · rw [if_pos hk]; exact ⟨rfl, rfl⟩
  rw [if_neg hk]
  obtain ⟨p1, p2, p3⟩ := cut_parts (.inl rfl) (k := 800) (by omega) ha hl
  rw [e10] at p1 p3
  obtain ⟨M, hM⟩ : ∃ M, M = 799 := ⟨_, rfl⟩
  have hlt : (D.take 800).length = M + 1 := by rw [List.length_take]; omega
  have hq : 10 ^ M ≤ nmB 10 (D.take 800) := by
    have e : D.take 800 = c :: r.take 799 := by rw [hD]; rfl
    have := nmB_ge (b := 10) (r := r.take 799) hc
    have hlen : (r.take 799).length = M := by
      rw [List.length_take]
      omega
    rw [hlen, e10] at this
    rw [e]
    exact this
  have hq' : nmB 10 (D.take 800) < 10 ^ (M + 1) := by
    have := nmB_lt (b := 10) (.inl rfl) (D.take 800)
    rw [hlt, e10] at this
    exact this
  obtain ⟨G, hG⟩ : ∃ G : Nat, (G : Int) = 800 - a := ⟨(800 - a).toNat, by omega⟩
  obtain ⟨q, hqe⟩ : ∃ q, q = nmB 10 (D.take 800) := ⟨_, rfl⟩
  have e2 : nmB 10 (D.take 800 ++ [49]) = q * 10 + 1 := by rw [nmB_snoc, one_dg, hqe]; rfl
  have hlen : (D.take 800 ++ [49]).length = 801 := by rw [List.length_append, hlt, List.length_singleton]; omega
  rw [← hqe] at hq hq' p1
  have key := cut_text (m := m) (n := n) (C := 10 ^ 1) (r := 1) (C' := 10 ^ (D.length - 800)) (r' := nmB 10 (D.drop 800)) hM hG (by omega) hq hq' (by omega) (by decide) p2 p3
  rw [← Nat.pow_add, ← Nat.pow_add] at key
  unfold deP deF
  rw [e2, hlen, p1, show (a - ((801 : Nat) : Int)).toNat = 0 by omega, show (-(a - ((801 : Nat) : Int))).toNat = G + 1 by omega, show (a - (D.length : Nat)).toNat = 0 by omega, show (-(a - ((D.length : Nat) : Int))).toNat = G + (D.length - 800) by omega, Nat.pow_zero, Nat.mul_one, Nat.mul_one]
  exact key
theorem dec_same {m : Int} {n : Bool} {l : List UInt8} (hl : l.length ≤ 10000) (ha : allB 10 l = true) (hz : trZ l ≠ []) {k : Nat} (hk : k ≤ l.length) {P Q : Int} (hP : alike Q P) :
    deP m n (nmB 10 (shR 800 (nuD l))) (clF (((trZ l).length : Nat) - (k : Int) + Q) - ((shR 800 (nuD l)).length : Nat)) = rnP m n (dnA 10 (trZ l) k P).1 (dnA 10 (trZ l) k P).2 ∧ deF m n (nmB 10 (shR 800 (nuD l))) (clF (((trZ l).length : Nat) - (k : Int) + Q) - ((shR 800 (nuD l)).length : Nat)) = rnF m n (dnA 10 (trZ l) k P).1 (dnA 10 (trZ l) k P).2 := by
  obtain ⟨c, r, hT⟩ : ∃ c r, trZ l = c :: r := by
    cases h : trZ l with
    | nil => exact absurd h hz
    | cons c r => exact ⟨c, r, rfl⟩
  have hc := trZ_head ha hT
  have haT := allB_trZ ha
  obtain ⟨r', hr'⟩ := trR_head (b := 10) (r := r) hc
  have haD : allB 10 (nuD l) = true := trR_all haT
  have hlast : ∀ r c, nuD l = r ++ [c] → lq8 c ≠ 48 := fun r c h => trR_last h
  have eD : nuD l = c :: r' := by unfold nuD; rw [hT, hr']
  have lT := trZ_len l
  have lD : (nuD l).length ≤ (trZ l).length := trR_len (trZ l)
  have hA : nmB 10 (nuD l) ≠ 0 := by
    have := nmB_pos (b := 10) (.inl rfl) (r := r') hc
    rw [eD]; omega
  have key := dec_cut (m := m) (n := n) (a := ((trZ l).length : Nat) - (k : Int) + P) (a' := ((trZ l).length : Nat) - (k : Int) + Q) haD hlast eD hc (by unfold alike at hP; omega)
  have hdn := dn_de m n (c := c) (r := r) (k := k) (P := P) hc
  rw [← hT] at hdn
  have e1 := nmB_trR (b := 10) (trZ l)
  have hs := de_shift m n (A := nmB 10 (nuD l)) hA ((trZ l).length - (nuD l).length) (((trZ l).length : Nat) - (k : Int) + P - ((nuD l).length : Nat))
  rw [show ((trZ l).length : Nat) - (k : Int) + P - ((nuD l).length : Nat) - (((trZ l).length - (nuD l).length : Nat) : Int) = P - k by omega] at hs
  have e2 : nmB 10 (nuD l) * 10 ^ ((trZ l).length - (nuD l).length) = nmB 10 (trZ l) := e1.symm
  rw [e2] at hs
  exact ⟨key.1.trans (hs.1.symm.trans hdn.1.symm), key.2.trans (hs.2.symm.trans hdn.2.symm)⟩
end Go.Rd
namespace Go.Rd
open Go.Rn Go.Nt
def bt (b : Bool) : Nat := match b with | true => 1 | false => 0
/-- how many words are below the highest eight -/
def loW (T : Nat) : Nat := (db 4294967296 T).length - 8
def hiS (T : Nat) : Nat := T / 2 ^ (32 * loW T)
def hiM (T : Nat) (m : Bool) : Bool := m || decide (T % 2 ^ (32 * loW T) ≠ 0)
def hiE (T : Nat) (e : Int) : Int := e + 32 * (loW T : Nat)
theorem words_pow (k : Nat) : (4294967296 : Nat) ^ k = 2 ^ (32 * k) := by rw [Nat.pow_mul]
theorem hi_lt (T : Nat) : hiS T < 2 ^ 256 := by
  unfold hiS
  rw [Nat.div_lt_iff_lt_mul (Nat.pow_pos (by omega)), ← Nat.pow_add]
  have h1 := vb_lt (b := 4294967296) (by omega) (db 4294967296 T) (db_dg (by omega) T)
  rw [vb_db (by omega) T, words_pow] at h1
  exact Nat.lt_of_lt_of_le h1 (Nat.pow_le_pow_right (by omega) (by unfold loW; omega))
theorem hi_big {T : Nat} (h : loW T ≠ 0) : 2 ^ 53 ≤ hiS T := by
  unfold hiS
  rw [Nat.le_div_iff_mul_le (Nat.pow_pos (by omega)), ← Nat.pow_add]
  rcases Nat.lt_or_ge T (2 ^ (53 + 32 * loW T)) with h1 | h1
  · exfalso
    have h2 : T < 4294967296 ^ (loW T + 7) := by
      rw [words_pow]
      exact Nat.lt_of_lt_of_le h1 (Nat.pow_le_pow_right (by omega) (by omega))
    have := db_len (b := 4294967296) (by omega) _ _ h2
    unfold loW at *
    omega
  · exact h1
theorem hi_round {m : Int} {n : Bool} {T : Nat} {b : Bool} {e : Int} : rnP m n (2 * hiS T + bt (hiM T b)) (hiE T e - 1) = rnP m n (2 * T + bt b) (e - 1) ∧ rnF m n (2 * hiS T + bt (hiM T b)) (hiE T e - 1) = rnF m n (2 * T + bt b) (e - 1) := by
  by_cases h0 : loW T = 0
  · have e1 : hiS T = T := by unfold hiS; rw [h0, Nat.mul_zero, Nat.pow_zero, Nat.div_one]
    have e2 : hiM T b = b := by unfold hiM; rw [h0, Nat.mul_zero, Nat.pow_zero, Nat.mod_one]; cases b <;> rfl
    have e3 : hiE T e = e := by unfold hiE; rw [h0]; omega
    rw [e1, e2, e3]
    exact ⟨rfl, rfl⟩
  · have hp : 0 < 2 ^ (32 * loW T) := Nat.pow_pos (by omega)
    have hbt : bt b ≤ 1 := by cases b <;> decide
    have d1 : (2 * T + bt b) / 2 ^ (32 * loW T + 1) = hiS T := by
      unfold hiS
      rw [Nat.pow_succ, Nat.mul_comm (2 ^ (32 * loW T)) 2, ← Nat.div_div_eq_div_mul]
      congr 1
      omega
    have d2 : (2 * T + bt b) % 2 ^ (32 * loW T + 1) = 2 * (T % 2 ^ (32 * loW T)) + bt b := by
      rw [Nat.pow_succ, Nat.mul_comm (2 ^ (32 * loW T)) 2, Nat.mod_mul, show (2 * T + bt b) / 2 = T by omega]
      omega
    have st : stk (2 * T + bt b) (32 * loW T + 1) = 2 * hiS T + bt (hiM T b) := by
      unfold stk
      rw [d1, d2]
      congr 1
      unfold hiM
      cases b with
      | true => rw [if_neg (by simp [bt])]; rfl
      | false =>
        by_cases hz : T % 2 ^ (32 * loW T) = 0
        · rw [if_pos (by rw [hz]; rfl), decide_eq_false (fun h => h hz)]; rfl
        · rw [if_neg (by simp [bt]; omega), decide_eq_true hz]; rfl
    have hb := le_len (hi_big h0)
    have r := stk_round (m := m) (neg := n) (A := 2 * T + bt b) (d := 32 * loW T + 1) (F := e - 1) (.inr (by rw [d1]; omega))
    rw [st, show e - 1 + ((32 * loW T + 1 : Nat) : Int) - 1 = hiE T e - 1 by unfold hiE; omega] at r
    exact r
/-- how far the number is moved up ahead of the division -/
def upT (A B : Nat) : Nat := ((bitLen B : Int) + 128 - (bitLen A : Int)).toNat
theorem upT_bits {A B : Nat} (hA : A ≠ 0) (hB : B ≠ 0) : 54 ≤ bitLen (A * 2 ^ upT A B / B) := by
  refine le_len (k := 53) ?_
  rw [Nat.le_div_iff_mul_le (by omega)]
  have h1 := (bitLen_spec A).2 hA
  have h2 := (bitLen_spec B).1
  have h3 := len_pos hA
  have h4 : bitLen B + 128 ≤ upT A B + bitLen A := by unfold upT; omega
  refine Nat.le_trans (Nat.mul_le_mul_left _ (Nat.le_of_lt h2)) ?_
  rw [← Nat.pow_add]
  refine Nat.le_trans (Nat.pow_le_pow_right (by omega) (show 53 + bitLen B ≤ (bitLen A - 1) + upT A B by omega)) ?_
  rw [Nat.pow_add]
  exact Nat.mul_le_mul_right _ h1
/-- a number times ten to the power of j, by its highest words -/
def teT (A : Nat) (j : Int) : Nat := if 0 ≤ j then A * 10 ^ j.toNat else A * 2 ^ upT A (10 ^ (-j).toNat) / 10 ^ (-j).toNat
def teM (A : Nat) (j : Int) : Bool := if 0 ≤ j then false else decide (A * 2 ^ upT A (10 ^ (-j).toNat) % 10 ^ (-j).toNat ≠ 0)
def teE (A : Nat) (j : Int) : Int := if 0 ≤ j then 0 else -((upT A (10 ^ (-j).toNat) : Nat) : Int)
theorem te_round {m : Int} {n : Bool} {A : Nat} {j : Int} (hA : A ≠ 0) : rnP m n (2 * hiS (teT A j) + bt (hiM (teT A j) (teM A j))) (hiE (teT A j) (teE A j) - 1) = deP m n A j ∧ rnF m n (2 * hiS (teT A j) + bt (hiM (teT A j) (teM A j))) (hiE (teT A j) (teE A j) - 1) = deF m n A j := by
  obtain ⟨h1, h2⟩ := hi_round (m := m) (n := n) (T := teT A j) (b := teM A j) (e := teE A j)
  rw [h1, h2]
  unfold teT teM teE
  by_cases hj : 0 ≤ j
  · rw [if_pos hj, if_pos hj, if_pos hj]
    have p := rnP_scale m n (A * 10 ^ j.toNat) 1 0
    have f := rnF_scale m n (A * 10 ^ j.toNat) 1 0
    obtain ⟨q1, q2⟩ := rq_one m n (A * 10 ^ j.toNat)
    rw [show 2 * (A * 10 ^ j.toNat) + bt false = A * 10 ^ j.toNat * 2 ^ 1 by simp only [bt]; omega]
    unfold deP deF
    rw [show (-j).toNat = 0 by omega, Nat.pow_zero, q1, q2]
    exact ⟨p, f⟩
  · rw [if_neg hj, if_neg hj, if_neg hj]
    have hB := ten_ne (-j).toNat
    have r := rq_any (m := m) (n := n) hA hB (upT_bits hA hB)
    have e : 2 * (A * 2 ^ upT A (10 ^ (-j).toNat) / 10 ^ (-j).toNat) + bt (decide (A * 2 ^ upT A (10 ^ (-j).toNat) % 10 ^ (-j).toNat ≠ 0)) = dvK A (10 ^ (-j).toNat) (upT A (10 ^ (-j).toNat)) := by
      unfold dvK
      congr 1
      by_cases hz : A * 2 ^ upT A (10 ^ (-j).toNat) % 10 ^ (-j).toNat = 0
      · rw [if_pos hz, decide_eq_false (fun h => h hz)]; rfl
      · rw [if_neg hz, decide_eq_true hz]; rfl
    rw [e]
    unfold deP deF
    rw [show j.toNat = 0 by omega, Nat.pow_zero, Nat.mul_one]
    exact r
/-! ### a numeral as a number -/
def noS (b : Int) (D : List UInt8) (k P : Int) : Nat := if b = 16 then nmB 16 (shR 60 D) else hiS (teT (nmB 10 (shR 800 D)) (clF (k + P) - ((shR 800 D).length : Nat)))
def noM (b : Int) (D : List UInt8) (k P : Int) : Bool := if b = 16 then false else hiM (teT (nmB 10 (shR 800 D)) (clF (k + P) - ((shR 800 D).length : Nat))) (teM (nmB 10 (shR 800 D)) (clF (k + P) - ((shR 800 D).length : Nat)))
def noE (b : Int) (D : List UInt8) (k P : Int) : Int := if b = 16 then P + 4 * (k - ((shR 60 D).length : Nat)) else hiE (teT (nmB 10 (shR 800 D)) (clF (k + P) - ((shR 800 D).length : Nat))) (teE (nmB 10 (shR 800 D)) (clF (k + P) - ((shR 800 D).length : Nat)))
theorem sh_len (k : Nat) (D : List UInt8) : (shR k D).length ≤ k + 1 := by
  unfold shR
  split
  · omega
  · rw [List.length_append, List.length_take, List.length_singleton]; omega
theorem noS_lt (b : Int) (D : List UInt8) (k P : Int) : noS b D k P < 2 ^ 256 := by
  unfold noS
  split
  · refine Nat.lt_of_lt_of_le (nm_bits (.inr rfl) _) (Nat.pow_le_pow_right (by omega) ?_)
    have := sh_len 60 D
    omega
  · exact hi_lt _
/-- a numeral's number is rounded as what the text denotes -/
theorem no_round {m : Int} {n : Bool} {b : Int} (hb : b = 10 ∨ b = 16) {l : List UInt8} (hl : l.length ≤ 10000) (ha : allB b l = true) (hz : trZ l ≠ []) {k : Nat} (hk : k ≤ l.length) {P Q : Int} (hP : alike Q P) :
    rnP m n (2 * noS b (nuD l) (((trZ l).length : Nat) - (k : Int)) Q + bt (noM b (nuD l) (((trZ l).length : Nat) - (k : Int)) Q)) (noE b (nuD l) (((trZ l).length : Nat) - (k : Int)) Q - 1) = rnP m n (dnA b (trZ l) k P).1 (dnA b (trZ l) k P).2 ∧ rnF m n (2 * noS b (nuD l) (((trZ l).length : Nat) - (k : Int)) Q + bt (noM b (nuD l) (((trZ l).length : Nat) - (k : Int)) Q)) (noE b (nuD l) (((trZ l).length : Nat) - (k : Int)) Q - 1) = rnF m n (dnA b (trZ l) k P).1 (dnA b (trZ l) k P).2 := by
  unfold noS noM noE
  rcases hb with rfl | rfl
  · rw [if_neg (by decide), if_neg (by decide), if_neg (by decide)]
    have hA : nmB 10 (shR 800 (nuD l)) ≠ 0 := by
      obtain ⟨c, r, hT⟩ : ∃ c r, trZ l = c :: r := by
        cases h : trZ l with
        | nil => exact absurd h hz
        | cons c r => exact ⟨c, r, rfl⟩
      have hc := trZ_head ha hT
      obtain ⟨r', hr'⟩ := trR_head (b := 10) (r := r) hc
      obtain ⟨r2, hr2⟩ : ∃ r2, shR 800 (nuD l) = c :: r2 := by
        unfold nuD shR
        rw [hT, hr']
        split
        · exact ⟨_, rfl⟩
        · exact ⟨_, rfl⟩
      have := nmB_pos (b := 10) (.inl rfl) (r := r2) hc
      rw [hr2]; omega
    obtain ⟨t1, t2⟩ := te_round (m := m) (n := n) (j := clF (((trZ l).length : Nat) - (k : Int) + Q) - ((shR 800 (nuD l)).length : Nat)) hA
    obtain ⟨d1, d2⟩ := dec_same (m := m) (n := n) hl ha hz hk hP
    exact ⟨t1.trans d1, t2.trans d2⟩
  · rw [if_pos rfl, if_pos rfl, if_pos rfl]
    have h := hex_same (m := m) (n := n) hl ha hz hk hP
    obtain ⟨A, hA⟩ : ∃ A, A = nmB 16 (shR 60 (nuD l)) := ⟨_, rfl⟩
    obtain ⟨E, hE⟩ : ∃ E, E = Q + 4 * (((trZ l).length : Nat) - (k : Int) - ((shR 60 (nuD l)).length : Nat)) := ⟨_, rfl⟩
    rw [← hA, ← hE] at h
    rw [← hA, ← hE]
    have p := rnP_scale m n A 1 E
    have f := rnF_scale m n A 1 E
    rw [show 2 * A + bt false = A * 2 ^ 1 by simp only [bt]; omega]
    exact ⟨p.trans h.1, f.trans h.2⟩
end Go.Rd
namespace Go.Proofs.YtjlponbdflkbjaaGreatDoor.Na
open Go.KRun Go.Nt Go.Rd
set_option maxRecDepth 100000
theorem lt_w32 (V : Nat) : V < 4294967296 ^ (d32 V).length := by
  have := vb_lt (b := 4294967296) (by omega) (d32 V) (d32_wds V)
  rw [show vb 4294967296 (d32 V) = V from vb_db (by omega) V] at this
  exact this
theorem low_w32 {V : Nat} (h : 0 < (d32 V).length) : 4294967296 ^ ((d32 V).length - 1) ≤ V := by
  rcases Nat.lt_or_ge V (4294967296 ^ ((d32 V).length - 1)) with h1 | h1
  · have : (d32 V).length ≤ (d32 V).length - 1 := db_len (b := 4294967296) (by omega) _ _ h1
    omega
  · exact h1
theorem pos_w32 {V : Nat} (h : V ≠ 0) : 0 < (d32 V).length := (db_pos_len (b := 4294967296) (by omega)).2 (by omega)
theorem lenN_bits {V : Nat} (h0 : V ≠ 0) (h : (d32 V).length ≤ 8192) : lenN (d32 V) = ((bitLen V : Nat) : Int) := by
  have hp := pos_w32 h0
  have hc := d32_canon V
  obtain ⟨L, hL⟩ : ∃ L, L = d32 V := ⟨_, rfl⟩
  have eV : vb 4294967296 L = V := by rw [hL]; exact vb_db (by omega) V
  rw [← hL] at hp hc h ⊢
  have hb : badL L = false := by
    unfold badL
    rw [decide_eq_false (by omega), Bool.false_or]
    rcases hc.2 with h0 | h0
    · omega
    · rw [beq_eq_false_iff_ne.2 h0, Bool.and_false]
  have e1 : lenN L = 32 * ((L.length - 1 : Nat) : Int) + (bitLen (L.getD (L.length - 1) 0).toNat : Nat) := by
    unfold lenN
    rw [hb, beq_eq_false_iff_ne.2 (show L.length ≠ 0 by omega)]
    rfl
  have ht := vb_take 4294967296 L (L.length - 1)
  rw [show L.length - 1 + 1 = L.length by omega, List.take_length, eV] at ht
  have lo : vb 4294967296 (L.take (L.length - 1)) < 4294967296 ^ (L.length - 1) := by
    have h1 := vb_lt (b := 4294967296) (by omega) (L.take (L.length - 1)) (fun x hx => hc.1 x (List.mem_of_mem_take hx))
    rw [List.length_take, Nat.min_eq_left (by omega)] at h1
    exact h1
  have hpw : 0 < 4294967296 ^ (L.length - 1) := Nat.pow_pos (by omega)
  have htop : (L.getD (L.length - 1) 0).toNat ≠ 0 := by
    have hlt : L.length - 1 < L.length := by omega
    have hw := hc.1 (L.getD (L.length - 1) 0) (by simp [List.getD, List.getElem?_eq_getElem hlt])
    rcases hc.2 with h1 | h1
    · omega
    · have : L.getD (L.length - 1) 0 ≠ 0 := h1
      omega
  have hdiv : V / 2 ^ (32 * (L.length - 1)) = (L.getD (L.length - 1) 0).toNat := by
    rw [← words_pow, ht, Nat.add_comm, Nat.mul_add_div hpw, Nat.div_eq_of_lt lo, Nat.add_zero]
  have hs := bitLen_shift V (32 * (L.length - 1)) (by rw [hdiv]; exact htop)
  rw [hdiv] at hs
  rw [e1, hs]
  omega
section
variable {H : Hp} {p q : Option Addr} {n c n' c' V W : Nat}
theorem rLen (h : IsR H p n c V) (h0 : V ≠ 0) : decide (lenN (rowOf H p n) = ((bitLen V : Nat) : Int)) = true := by
  rw [h.2.2.1]
  exact decide_eq_true (lenN_bits h0 (by have := h.2.2.2.2; have := h.2.2.2.1; omega))
theorem rShl (h : IsR H p n c V) (k : Nat) : decide (shlR (rowOf H p n) ((k : Nat) : Int).toNat = dg (sM n (k : Nat)) ((V * 2 ^ k : Nat) : Int)) = true := by
  refine decide_eq_true ?_
  unfold shlR sM
  rw [h.2.2.1, ← h.2.2.2.1, vN_d32, Int.toNat_natCast, Int.natCast_mul, Go.Wd.cast_pow]
theorem rBadK (h : IsR H p n c V) (k : Nat) : (badL (rowOf H p n) || decide (((k : Nat) : Int) < 0)) = false := by
  rw [h.good, decide_eq_false (by omega)]
  rfl
theorem rFew (h : IsR H p n c V) (h0 : V ≠ 0) {k : Nat} (hk : k ≤ 200000) : decide (((k : Nat) : Int) > 262144 - lenN (rowOf H p n)) = false := by
  have hn := h.2.2.2.2
  have hl := h.2.2.2.1
  rw [h.2.2.1, lenN_bits h0 (by omega)]
  have : bitLen V ≤ 32 * n := Go.Rn.len_le (by rw [← words_pow]; rw [hl]; exact lt_w32 V)
  exact decide_eq_false (by omega)
theorem rNe (h : IsR H p n c V) (h0 : V ≠ 0) : decide (n = 0) = false := by
  have := pos_w32 h0
  have := h.2.2.2.1
  exact decide_eq_false (by omega)
end
theorem shl_lt {V k n : Nat} (h : V < 4294967296 ^ n) : V * 2 ^ k < 4294967296 ^ sM n (k : Nat) := by
  unfold sM
  rw [Int.toNat_natCast, Nat.add_comm (k / 32), words_pow]
  rw [words_pow] at h
  have h2 : (2 : Nat) ^ k < 2 ^ (32 * (k / 32 + 1)) := Nat.pow_lt_pow_right (by omega) (by omega)
  have := Nat.mul_lt_mul'' h h2
  rw [← Nat.pow_add] at this
  rw [show 32 * (n + 1 + k / 32) = 32 * n + 32 * (k / 32 + 1) by omega]
  exact this
theorem quo_lt {S P : Nat} (hP : P ≠ 0) (hS : (d32 P).length ≤ (d32 S).length) : S / P < 4294967296 ^ ((d32 S).length - (d32 P).length + 1) := by
  have h1 := lt_w32 S
  have h2 := low_w32 (pos_w32 hP)
  have h3 := pos_w32 hP
  rw [Nat.div_lt_iff_lt_mul (by omega)]
  refine Nat.lt_of_lt_of_le h1 ?_
  refine Nat.le_trans ?_ (Nat.mul_le_mul_left _ h2)
  rw [← Nat.pow_add]
  exact Nat.pow_le_pow_right (by omega) (by omega)
theorem le_w32 {S P : Nat} (h : P ≤ S) : (d32 P).length ≤ (d32 S).length := db_len (b := 4294967296) (by omega) _ _ (Nat.lt_of_le_of_lt h (lt_w32 S))
/-- the number of decimal letters, as nat reads it -/
theorem psV_nm {D : List UInt8} (h : allB 10 D = true) : psV ⟨⟨D⟩⟩ = nmB 10 D := by
  have key : ∀ k, k ≤ D.length → rdV10 (dgF ⟨⟨D⟩⟩) k = nmB 10 (D.take k) := by
    intro k
    induction k with
    | zero => intro _; rfl
    | succ k ih =>
      intro hk
      have hd : 0 ≤ dgvR (lq8 (D.getD k 0)) 10 := by
        unfold allB at h
        refine of_decide_eq_true (List.all_eq_true.1 h _ ?_)
        rw [List.getD_eq_getElem?_getD, List.getElem?_eq_getElem (by omega), Option.getD_some]
        exact List.getElem_mem (by omega)
      have e : dgF ⟨⟨D⟩⟩ k = dgvR (lq8 (D.getD k 0)) 10 := by
        have := digit_letter hd
        unfold dgvR
        rw [if_pos this]
        rfl
      rw [rdV10, ih (by omega), nmB_take 10 D (by omega), e, Nat.mul_comm]
      rfl
  have := key D.length (Nat.le_refl _)
  rw [List.take_length] at this
  exact this
theorem okP_all {D : List UInt8} (h : allB 10 D = true) (h0 : D ≠ []) : okP ⟨⟨D⟩⟩ = true := by
  refine (okP_iff _).2 ⟨List.length_pos_iff.2 h0, fun j hj => ?_⟩
  have hj : j < D.length := hj
  have hd : 0 ≤ dgvR (lq8 (D.getD j 0)) 10 := by
    unfold allB at h
    refine of_decide_eq_true (List.all_eq_true.1 h _ ?_)
    rw [List.getD_eq_getElem?_getD, List.getElem?_eq_getElem hj, Option.getD_some]
    exact List.getElem_mem hj
  have := digit_letter hd
  show (decide (lq8 (D.getD j 0) < 48) || decide (lq8 (D.getD j 0) > 57)) = false
  rw [decide_eq_false (by omega), decide_eq_false (by omega)]
  rfl
theorem ten_w32 (k : Nat) : (10 : Nat) ^ k < 4294967296 ^ (k / 9 + 1) := by
  refine Nat.lt_of_le_of_lt (Nat.pow_le_pow_right (by omega) (show k ≤ 9 * (k / 9 + 1) by omega)) ?_
  rw [Nat.pow_mul]
  exact Nat.pow_lt_pow_left (by decide) (by omega)
/-- ten to a power, as nat makes it -/
theorem pow_isR {H : Hp} {b k : Nat} {j : Int} (hj : j = (k : Nat)) (hk : k ≤ 2000) (hb : H.blk? b = some (wU (dg (pMi 10 j) ((10 ^ k : Nat) : Int)), tU)) : IsR H (some ⟨b, 0, none⟩) (trimN (dg (pMi 10 j) ((10 ^ k : Nat) : Int))) (pMi 10 j) (10 ^ k) ∧ (d32 (10 ^ k)).length ≤ k / 9 + 1 := by
  have e : pMi 10 j = pM 10 k := by unfold pMi; rw [hj, Int.toNat_natCast]; rfl
  have h : 10 ^ k < 4294967296 ^ pM 10 k ∧ pM 10 k ≤ 1000 := by
    by_cases h0 : k = 0
    · subst h0
      exact ⟨by show 1 < 4294967296 ^ 2; decide, by show 2 ≤ 1000; decide⟩
    · exact pM_ok (wd_ten hk) (by omega) (Nat.le_refl _) (by omega)
  rw [e] at hb ⊢
  exact ⟨isRd hb h.1 h.2, nw_le (ten_w32 k)⟩
end Go.Proofs.YtjlponbdflkbjaaGreatDoor.Na
