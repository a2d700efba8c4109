/-
  PLAIN ARITHMETIC: what is left beyond a multiple, by its first bit and whether there is more; how many bits, told in two ways; far away all is the same.
-/
import Derived.Test.YteglhjkpcljpmaaG07
import Derived.Test.YteglhjkpcljpmaaG11
namespace Go.Rn
open Go.Nt

theorem bl_bitLen (V : Nat) : bl V = bitLen V := by
  by_cases h : V = 0
  · subst h; rw [bl_zero]; rfl
  · have h1 := (bitLen_spec V).1
    have h2 := (bitLen_spec V).2 h
    have h3 := len_pos h
    obtain ⟨k, hk⟩ : ∃ k, bitLen V = k + 1 := ⟨bitLen V - 1, by omega⟩
    rw [hk] at h1 h2 ⊢
    exact bl_uniq h2 h1
theorem half_iff (T k : Nat) : (T / 2 ^ k % 2 = 1) ↔ 2 ^ k ≤ T % 2 ^ (k + 1) := by
  have hp : 0 < 2 ^ k := Nat.pow_pos (by omega)
  have e : T % 2 ^ (k + 1) = T % 2 ^ k + 2 ^ k * (T / 2 ^ k % 2) := by rw [Nat.pow_succ, Nat.mod_mul]
  have hl := Nat.mod_lt T hp
  have h2 : T / 2 ^ k % 2 = 0 ∨ T / 2 ^ k % 2 = 1 := by omega
  rw [e]
  clear e
  generalize T % 2 ^ k = r at hl
  generalize T / 2 ^ k % 2 = b at h2
  generalize 2 ^ k = P at hl hp
  rcases h2 with h | h
  · subst h
    simp only [Nat.mul_zero, Nat.add_zero]
    omega
  · subst h
    rw [Nat.mul_one]
    exact ⟨fun _ => Nat.le_add_left _ _, fun _ => rfl⟩
/-- the document's way to round: half, and just half -/
theorem up_doc {r k : Nat} (hr : r ≠ 0) (M : Int) (neg o : Bool) :
    upR M neg o (restC r (2 ^ (k + 1))) = (if M = 2 then false else if M = 3 then !neg else if M = 4 then neg else if M = 1 then decide (2 ^ k ≤ r) else (decide (2 ^ k ≤ r) && (!decide (r = 2 ^ k) || o))) := by
  have hc : ¬ restC r (2 ^ (k + 1)) = 0 := by rw [restC_iff]; exact hr
  unfold upR
  rw [if_neg hc]
  by_cases h2 : M = 2
  · rw [if_pos h2, if_pos h2]
  · rw [if_neg h2, if_neg h2]
    by_cases h3 : M = 3
    · rw [if_pos h3, if_pos h3]
    · rw [if_neg h3, if_neg h3]
      by_cases h4 : M = 4
      · rw [if_pos h4, if_pos h4]
      · rw [if_neg h4, if_neg h4]
        have e : 2 ^ (k + 1) = 2 * 2 ^ k := by rw [Nat.pow_succ, Nat.mul_comm]
        unfold restC
        rw [if_neg hr, e]
        generalize 2 ^ k = P
        by_cases a : 2 * r < 2 * P
        · rw [if_pos a]
          have : decide (P ≤ r) = false := decide_eq_false (by omega)
          rw [this]
          split <;> simp
        · rw [if_neg a]
          by_cases b : 2 * r = 2 * P
          · rw [if_pos b]
            have h1 : decide (P ≤ r) = true := decide_eq_true (by omega)
            have h5 : decide (r = P) = true := decide_eq_true (by omega)
            rw [h1, h5]
            split <;> simp
          · rw [if_neg b]
            have h1 : decide (P ≤ r) = true := decide_eq_true (by omega)
            have h5 : decide (r = P) = false := decide_eq_false (by omega)
            rw [h1, h5]
            split <;> simp
end Go.Rn

/-
  PLAIN ARITHMETIC: far below, and by modes that are none; the size told by the document.
-/
namespace Go.Rn
open Go.Nt Go.Wd

theorem far_pow {k : Nat} (hk : 300 ≤ k) : 4 * 2 ^ 256 ≤ 2 ^ k := by
  obtain ⟨j, rfl⟩ : ∃ j, k = 256 + (2 + j) := ⟨k - 258, by omega⟩
  have hj : 0 < 2 ^ j := Nat.pow_pos (by omega)
  rw [Nat.pow_add, Nat.pow_add, Nat.mul_comm 4]
  refine Nat.mul_le_mul_left _ ?_
  show 4 ≤ 4 * 2 ^ j
  omega
theorem far_rq {m : Int} {neg : Bool} {T k : Nat} (hT : T < 2 * 2 ^ 256) (hk : 300 ≤ k) : rq m neg T k = (if upR m neg false (if T = 0 then 0 else 1) = true then 1 else 0) := by
  have hp := far_pow hk
  generalize (2 : Nat) ^ 256 = P at hT hp
  have hd : T / 2 ^ k = 0 := Nat.div_eq_of_lt (by omega)
  have hm : T % 2 ^ k = T := Nat.mod_eq_of_lt (by omega)
  unfold rq
  rw [hd, hm]
  have ho : odd 0 = false := rfl
  have hr : restC T (2 ^ k) = if T = 0 then 0 else 1 := by
    unfold restC
    split
    · rfl
    · rw [if_pos (by omega)]
  rw [ho, hr]
  simp
theorem far_toQ {m : Int} {neg : Bool} {T : Nat} (hT : T < 2 * 2 ^ 256) {E F : Int} (hE : E ≤ -300) (hF : F ≤ -300) : toQ m neg T E 0 = toQ m neg T F 0 := by
  unfold toQ
  rw [if_neg (by omega), if_neg (by omega), far_rq hT (by omega), far_rq hT (by omega)]
theorem far_toL {T : Nat} (hT : T < 2 * 2 ^ 256) {E F : Int} (hE : E ≤ -300) (hF : F ≤ -300) : toL T E 0 = toL T F 0 := by
  have key : ∀ k, 300 ≤ k → T % 2 ^ k = T := fun k hk => by
    have hp := far_pow hk
    exact Nat.mod_eq_of_lt (by omega)
  unfold toL
  rw [if_neg (by omega), if_neg (by omega), key _ (by omega), key _ (by omega)]
/-- a mode, or Even -/
def mN (m : Int) : Int := if m < 0 then 0 else if m > 4 then 0 else m
theorem upR_mN (m : Int) (neg o : Bool) (c : Int) : upR (mN m) neg o c = upR m neg o c := by
  unfold mN
  by_cases h0 : m < 0
  · rw [if_pos h0]
    unfold upR
    rw [if_neg (show ¬ m = 2 by omega), if_neg (show ¬ m = 3 by omega), if_neg (show ¬ m = 4 by omega), if_neg (show ¬ m = 1 by omega)]
    simp
  · rw [if_neg h0]
    by_cases h4 : m > 4
    · rw [if_pos h4]
      unfold upR
      rw [if_neg (show ¬ m = 2 by omega), if_neg (show ¬ m = 3 by omega), if_neg (show ¬ m = 4 by omega), if_neg (show ¬ m = 1 by omega)]
      simp
    · rw [if_neg h4]
theorem toQ_mN (m : Int) (neg : Bool) (T : Nat) (E e : Int) : toQ (mN m) neg T E e = toQ m neg T E e := by
  unfold toQ rq
  simp only [upR_mN]
/-- the document's size -/
def rT (x : W4) (b : Bool) : Nat := match b with | true => 2 * x.nat + 1 | false => x.nat
def jB (b : Bool) : Int := match b with | true => 1 | false => 0
theorem rT_lt {x : W4} (hx : x.ok) (b : Bool) : rT x b < 2 * 2 ^ 256 := by
  have := W4.nat_lt hx
  unfold rT
  cases b <;> simp only <;> omega
theorem tw_toQ (m : Int) (neg : Bool) (x : W4) (b : Bool) (E e : Int) : toQ m neg (tw x b) (E - 1) e = toQ m neg (rT x b) (E - jB b) e := by
  cases b with
  | true => rfl
  | false =>
    have h := toQ_scale m neg x.nat 1 E e
    have e1 : tw x false = x.nat * 2 ^ 1 := by unfold tw; simp [Nat.mul_comm]
    rw [e1]
    simp only [rT, jB, Int.sub_zero]
    exact h
theorem tw_toL (x : W4) (b : Bool) (E e : Int) : toL (tw x b) (E - 1) e = toL (rT x b) (E - jB b) e := by
  cases b with
  | true => rfl
  | false =>
    have h := toL_scale x.nat 1 E e
    have e1 : tw x false = x.nat * 2 ^ 1 := by unfold tw; simp [Nat.mul_comm]
    rw [e1]
    simp only [rT, jB, Int.sub_zero]
    exact h
/-- a whole number of so few bits -/
theorem whole_le {m : Int} {neg : Bool} {x : W4} {b : Bool} (hx : x.ok) {E : Int} (hE : E ≤ 0) : toQ m neg (tw x b) (E - 1) 0 ≤ 2 ^ 256 := by
  have h1 := W4.nat_lt hx
  obtain ⟨d, hd⟩ : ∃ d : Nat, (0 - (E - 1)).toNat = d + 1 := ⟨(0 - (E - 1)).toNat - 1, by omega⟩
  unfold toQ
  rw [if_neg (by omega), hd]
  have h2 := (rq_bd m neg (tw x b) (d + 1)).2
  rw [tw_div] at h2
  have h3 : x.nat / 2 ^ d ≤ x.nat := Nat.div_le_self _ _
  omega
end Go.Rn

/-
  PLAIN ARITHMETIC: the document's way to a number's pattern is the one told here.
-/
namespace Go.Rn
open Go.Nt Go.Wd

theorem rnP_mN (m : Int) (neg : Bool) (T : Nat) (E : Int) : rnP (mN m) neg T E = rnP m neg T E := by
  unfold rnP p0 bey
  simp only [toQ_mN, upR_mN]
theorem rnF_mN (m : Int) (neg : Bool) (T : Nat) (E : Int) : rnF (mN m) neg T E = rnF m neg T E := by
  unfold rnF p0 tiny
  simp only [toQ_mN]
/-- beyond all patterns -/
theorem p0_big {m : Int} {neg : Bool} {T : Nat} {E : Int} (hT : T ≠ 0) (h : 1024 ≤ lgN T E) : 9218868437227405312 ≤ p0 m neg T E := by
  have hq := low_lo (m := m) (neg := neg) (T := T) (E := E) hT (by omega)
  have hl : lowE T E = lgN T E - 52 := by unfold lowE; rw [if_neg (by omega)]
  unfold p0
  rw [hl] at hq ⊢
  omega
theorem big_eq {m : Int} {neg : Bool} {T : Nat} {E : Int} (hT : T ≠ 0) (h : 1024 ≤ lgN T E) : rnP m neg T E = bey m neg ∧ rnF m neg T E = 20 := by
  have := p0_big (m := m) (neg := neg) hT h
  unfold rnP rnF
  rw [if_neg hT, if_neg hT, if_pos this, if_pos this]
  exact ⟨rfl, rfl⟩
/-- far below all patterns -/
theorem low_eq {m : Int} {neg : Bool} {T : Nat} {E : Int} (hT : T ≠ 0) (h : lgN T E ≤ -1100) : rnP m neg T E = (if upR m neg false 1 = true then 1 else 0) ∧ rnF m neg T E = 24 := by
  have hb := (bitLen_spec T).1
  have hl : lowE T E = -1074 := by unfold lowE; rw [if_pos (by omega)]
  have hE : ¬ (-1074 : Int) ≤ E := by unfold lgN at h; have := len_pos hT; omega
  have hk : bitLen T + 2 ≤ (-1074 - E).toNat := by unfold lgN at h; omega
  have hp := Nat.pow_le_pow_right (show 0 < 2 by omega) hk
  have e4 : 2 ^ (bitLen T + 2) = 4 * 2 ^ bitLen T := by rw [Nat.pow_add, Nat.mul_comm]
  have hlt : 2 * T < 2 ^ (-1074 - E).toNat := by omega
  have hd : T / 2 ^ (-1074 - E).toNat = 0 := Nat.div_eq_of_lt (by omega)
  have hm : T % 2 ^ (-1074 - E).toNat = T := Nat.mod_eq_of_lt (by omega)
  have hr : restC T (2 ^ (-1074 - E).toNat) = 1 := by unfold restC; rw [if_neg hT, if_pos hlt]
  have hq : toQ m neg T E (-1074) = if upR m neg false 1 = true then 1 else 0 := by
    unfold toQ rq
    rw [if_neg hE, hd, hm, hr]
    have ho : odd 0 = false := rfl
    rw [ho]
    simp
  have hL : toL T E (-1074) = true := by unfold toL; rw [if_neg hE, hm]; exact decide_eq_true hT
  have hti : tiny m neg T E = true := by unfold tiny; rw [if_neg (by omega)]; exact decide_eq_true (by omega)
  have hp0 : p0 m neg T E = if upR m neg false 1 = true then 1 else 0 := by
    unfold p0
    rw [hl, hq]
    split <;> rfl
  unfold rnP rnF
  rw [if_neg hT, if_neg hT, hp0, hl, hL, hti]
  split <;> simp
/-- the program's way and the document's, from any exponent -/
theorem same_round {m : Int} {neg : Bool} {x : W4} (hx : x.ok) (b : Bool) {C D : Int} (h : (C = D) ∨ (1700 ≤ C ∧ 1700 ≤ D) ∨ (C ≤ -1700 ∧ D ≤ -1700)) : rnP m neg (tw x b) (C - 1) = rnP m neg (rT x b) (D - jB b) ∧ rnF m neg (tw x b) (C - 1) = rnF m neg (rT x b) (D - jB b) := by
  have hj : 0 ≤ jB b ∧ jB b ≤ 1 := by cases b <;> simp [jB]
  have e : rnP m neg (tw x b) (C - 1) = rnP m neg (rT x b) (C - jB b) ∧ rnF m neg (tw x b) (C - 1) = rnF m neg (rT x b) (C - jB b) := by
    cases b with
    | true => exact ⟨rfl, rfl⟩
    | false =>
      have e1 : tw x false = x.nat * 2 ^ 1 := by unfold tw; simp [Nat.mul_comm]
      rw [e1]
      simp only [rT, jB, Int.sub_zero]
      exact ⟨rnP_scale m neg x.nat 1 C, rnF_scale m neg x.nat 1 C⟩
  rw [e.1, e.2]
  rcases h with h | h | h
  · rw [h]; exact ⟨rfl, rfl⟩
  · by_cases hT : rT x b = 0
    · rw [hT]; unfold rnP rnF; simp
    · have hl := len_pos hT
      obtain ⟨a1, a2⟩ := big_eq (m := m) (neg := neg) (E := C - jB b) hT (by unfold lgN; omega)
      obtain ⟨b1, b2⟩ := big_eq (m := m) (neg := neg) (E := D - jB b) hT (by unfold lgN; omega)
      rw [a1, a2, b1, b2]; exact ⟨rfl, rfl⟩
  · by_cases hT : rT x b = 0
    · rw [hT]; unfold rnP rnF; simp
    · have hlt := rT_lt hx b
      obtain ⟨k, hk⟩ : ∃ k : Nat, k = 300 := ⟨300, rfl⟩
      have hfp := far_pow (show 300 ≤ k by omega)
      have hl : bitLen (rT x b) ≤ k := len_le (by omega)
      obtain ⟨a1, a2⟩ := low_eq (m := m) (neg := neg) (E := C - jB b) hT (by unfold lgN; omega)
      obtain ⟨b1, b2⟩ := low_eq (m := m) (neg := neg) (E := D - jB b) hT (by unfold lgN; omega)
      rw [a1, a2, b1, b2]; exact ⟨rfl, rfl⟩

/-! ### the document's flags and pattern -/
theorem len53 {q : Nat} (h0 : 4503599627370496 ≤ q) (h1 : q ≤ 9007199254740992) : bitLen q = if q = 9007199254740992 then 54 else 53 := by
  split
  · rename_i h; rw [h]; exact len_uniq (k := 53) (by decide) (by decide)
  · exact len_uniq (k := 52) h0 (show q < 2 ^ 53 by have : (2 : Nat) ^ 53 = 9007199254740992 := rfl; omega)
/-- Underflow -/
theorem tiny_doc {m : Int} {neg : Bool} {T : Nat} {E : Int} (hT : T ≠ 0) : decide ((bitLen (toQ m neg T E (lgN T E - 52)) : Int) + (lgN T E + 1) - 53 ≤ -1022) = tiny m neg T E := by
  have h0 : 4503599627370496 ≤ toQ m neg T E (lgN T E - 52) := toQ_ge (n := 52) hT (by unfold lgN; omega)
  have h1 : toQ m neg T E (lgN T E - 52) ≤ 9007199254740992 := toQ_le (n := 53) (by unfold lgN; omega)
  have hl := len53 h0 h1
  unfold tiny
  by_cases he : lgN T E = -1023
  · have e : lgN T E - 52 = -1075 := by omega
    rw [e] at h0 h1 hl ⊢
    rw [if_pos he, hl]
    congr 1
    simp only [eq_iff_iff]
    split <;> omega
  · rw [if_neg he, hl]
    congr 1
    simp only [eq_iff_iff]
    split <;> omega
/-- Overflow -/
theorem over_doc {m : Int} {neg : Bool} {T : Nat} {E : Int} (hT : T ≠ 0) : decide ((bitLen (toQ m neg T E (lowE T E)) : Int) + lowE T E > 1024) = decide (9218868437227405312 ≤ p0 m neg T E) := by
  have h1 := low_hi m neg T E
  have hle := lowE_ge T E
  congr 1
  simp only [eq_iff_iff]
  unfold p0
  by_cases hn : lowE T E = -1074
  · have hl : bitLen (toQ m neg T E (lowE T E)) ≤ 54 := by
      have : toQ m neg T E (lowE T E) < 2 ^ 54 := by have e : (2 : Nat) ^ 54 = 18014398509481984 := rfl; omega
      exact len_le this
    omega
  · have h0 := low_lo (m := m) (neg := neg) (E := E) hT (by unfold lowE at hn; split at hn <;> omega)
    have hl := len53 h0 h1
    rw [hl]
    split <;> omega
end Go.Rn
