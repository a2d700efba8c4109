/-
  NumL, NumS, NumT, NumR4, NumR5, NumF, NumG, SuA
-/
import Derived.Test.YtjkgnbdeklploaaGreatDoorG11
namespace Go.Nt
/-- how many bits -/
def bl (V : Nat) : Nat := if _h : V = 0 then 0 else bl (V / 2) + 1
  termination_by V
  decreasing_by omega
theorem bl_zero : bl 0 = 0 := by rw [bl]; simp
theorem bl_pos {V : Nat} (h : V ≠ 0) : bl V = bl (V / 2) + 1 := by rw [bl]; rw [dif_neg h]
theorem bl_lt (V : Nat) : V < 2 ^ bl V := by
  induction V using Nat.strongRecOn with
  | ind V ih =>
    by_cases h : V = 0
    · subst h; rw [bl_zero]; decide
    · rw [bl_pos h, Nat.pow_succ]
      have := ih (V / 2) (by omega)
      omega
theorem bl_le {V : Nat} (h : V ≠ 0) : 2 ^ (bl V - 1) ≤ V := by
  induction V using Nat.strongRecOn with
  | ind V ih =>
    rw [bl_pos h, Nat.add_sub_cancel]
    by_cases h2 : V / 2 = 0
    · rw [h2, bl_zero]; omega
    · have i := ih (V / 2) (by omega) h2
      have e : bl (V / 2) = (bl (V / 2) - 1) + 1 := by
        have := bl_pos h2
        omega
      rw [e, Nat.pow_succ]
      omega
theorem bl_uniq {V k : Nat} (h0 : 2 ^ k ≤ V) (h1 : V < 2 ^ (k + 1)) : bl V = k + 1 := by
  have hp : 0 < 2 ^ k := Nat.pow_pos (by omega)
  have hV : V ≠ 0 := by omega
  have a1 := bl_lt V
  have a2 := bl_le hV
  have a3 : bl V ≠ 0 := by have := bl_pos hV; omega
  rcases Nat.lt_or_ge (bl V) (k + 1) with h | h
  · have := Nat.pow_le_pow_right (show 0 < 2 by omega) (show bl V ≤ k by omega)
    omega
  · rcases Nat.lt_or_ge (k + 1) (bl V) with h' | h'
    · have := Nat.pow_le_pow_right (show 0 < 2 by omega) (show k + 1 ≤ bl V - 1 by omega)
      omega
    · omega
theorem bl_le_of {V k : Nat} (h : V < 2 ^ k) : bl V ≤ k := by
  by_cases hV : V = 0
  · subst hV; rw [bl_zero]; omega
  · have a := bl_le hV
    rcases Nat.lt_or_ge k (bl V) with h' | h'
    · have := Nat.pow_le_pow_right (show 0 < 2 by omega) (show k ≤ bl V - 1 by omega)
      omega
    · exact h'
theorem pow16 (k : Nat) : 65536 ^ k = 2 ^ (16 * k) := by rw [show (65536 : Nat) = 2 ^ 16 from rfl, ← Nat.pow_mul]
/-- the bits of a number by its highest part -/
theorem bl_top {t lo k : Nat} (ht : t ≠ 0) (hlo : lo < 65536 ^ k) : bl (lo + 65536 ^ k * t) = 16 * k + bl t := by
  have a1 := bl_lt t
  have a2 := bl_le ht
  have a3 : bl t ≠ 0 := by have := bl_pos ht; omega
  rw [pow16] at *
  have e : 16 * k + bl t = (16 * k + (bl t - 1)) + 1 := by omega
  rw [e]
  refine bl_uniq ?_ ?_
  · rw [Nat.pow_add]
    have := Nat.mul_le_mul_left (2 ^ (16 * k)) a2
    omega
  · rw [Nat.add_assoc, show bl t - 1 + 1 = bl t by omega, Nat.pow_add]
    have := Nat.mul_le_mul_left (2 ^ (16 * k)) (show t + 1 ≤ 2 ^ bl t by omega)
    rw [Nat.mul_add, Nat.mul_one] at this
    omega
def dgS (L : List Int) (i : Nat) : Nat := (L.getD i 0).toNat
theorem pow_split16 (k : Nat) : 2 ^ k = 65536 ^ (k / 16) * 2 ^ (k % 16) := by
  rw [pow16, ← Nat.pow_add]
  congr 1
  omega
theorem dg_lt {L : List Int} (h : ∀ x ∈ L, Dg 65536 x) (i : Nat) : dgS L i < 65536 := by
  unfold dgS
  by_cases hi : i < L.length
  · have := h (L.getD i 0) (by simp [List.getD, List.getElem?_eq_getElem hi])
    omega
  · simp [List.getD, List.getElem?_eq_none (show L.length ≤ i by omega)]
theorem vb_cut {L : List Int} (h : ∀ x ∈ L, Dg 65536 x) (z : Nat) : vb 65536 L / 65536 ^ z = vb 65536 (L.drop z) ∧ vb 65536 L % 65536 ^ z = vb 65536 (L.take z) := by
  have hp : 0 < 65536 ^ z := Nat.pow_pos (by omega)
  by_cases hz : z ≤ L.length
  · have e : vb 65536 L = vb 65536 (L.take z) + 65536 ^ z * vb 65536 (L.drop z) := by
      conv => lhs; rw [← List.take_append_drop z L]
      rw [vb_append, List.length_take, show min z L.length = z by omega]
    have hl : vb 65536 (L.take z) < 65536 ^ z := by
      have := vb_lt (b := 65536) (by omega) (L.take z) (fun x hx => h x (List.mem_of_mem_take hx))
      rw [List.length_take, show min z L.length = z by omega] at this
      exact this
    rw [e]
    exact ⟨by rw [Nat.add_mul_div_left _ _ hp, Nat.div_eq_of_lt hl, Nat.zero_add], by rw [Nat.add_mul_mod_self_left, Nat.mod_eq_of_lt hl]⟩
  · have hl : vb 65536 L < 65536 ^ z := by
      have h1 := vb_lt (b := 65536) (by omega) L h
      have h2 := Nat.pow_le_pow_right (show 0 < 65536 by omega) (show L.length ≤ z by omega)
      omega
    rw [List.drop_of_length_le (by omega), List.take_of_length_le (by omega)]
    exact ⟨Nat.div_eq_of_lt hl, Nat.mod_eq_of_lt hl⟩
theorem vb_drop {L : List Int} {z : Nat} : vb 65536 (L.drop z) = dgS L z + 65536 * vb 65536 (L.drop (z + 1)) := by
  by_cases hz : z < L.length
  · rw [List.drop_eq_getElem_cons hz]
    simp only [vb, dgS]
    simp [List.getD, List.getElem?_eq_getElem hz]
  · rw [List.drop_of_length_le (by omega), List.drop_of_length_le (by omega)]
    simp [vb, dgS, List.getD, List.getElem?_eq_none (show L.length ≤ z by omega)]
theorem dvd_pow {s : Nat} (h : s ≤ 16) : 2 ^ s * 2 ^ (16 - s) = 65536 := by rw [← Nat.pow_add, show s + (16 - s) = 16 by omega]
/-- a bit by its digit -/
theorem bit_dg {L : List Int} (h : ∀ x ∈ L, Dg 65536 x) (k : Nat) : vb 65536 L / 2 ^ k % 2 = dgS L (k / 16) / 2 ^ (k % 16) % 2 := by
  obtain ⟨e, _⟩ := vb_cut h (k / 16)
  rw [pow_split16, ← Nat.div_div_eq_div_mul, e, vb_drop]
  have hd := dvd_pow (s := k % 16 + 1) (by omega)
  have e2 : 65536 * vb 65536 (L.drop (k / 16 + 1)) = 2 ^ (k % 16) * (2 * (2 ^ (16 - (k % 16 + 1)) * vb 65536 (L.drop (k / 16 + 1)))) := by
    rw [← hd, Nat.pow_succ]
    simp only [Nat.mul_assoc]
  have hp : 0 < 2 ^ (k % 16) := Nat.pow_pos (by omega)
  rw [e2, Nat.add_mul_div_left _ _ hp]
  omega
/-- what is cut off -/
theorem lost_iff {L : List Int} (h : ∀ x ∈ L, Dg 65536 x) (k : Nat) : (vb 65536 L % 2 ^ k ≠ 0) ↔ (vb 65536 (L.take (k / 16)) ≠ 0 ∨ dgS L (k / 16) % 2 ^ (k % 16) ≠ 0) := by
  obtain ⟨e1, e2⟩ := vb_cut h (k / 16)
  have hp : 0 < 65536 ^ (k / 16) := Nat.pow_pos (by omega)
  rw [pow_split16, Nat.mod_mul, e1, e2, vb_drop]
  have hd := dvd_pow (s := k % 16) (by omega)
  have e3 : (dgS L (k / 16) + 65536 * vb 65536 (L.drop (k / 16 + 1))) % 2 ^ (k % 16) = dgS L (k / 16) % 2 ^ (k % 16) := by
    rw [← hd, Nat.mul_assoc, Nat.add_mul_mod_self_left]
  rw [e3]
  generalize dgS L (k / 16) % 2 ^ (k % 16) = r
  generalize vb 65536 (L.take (k / 16)) = u
  constructor
  · intro h0
    by_cases hu : u = 0
    · right
      intro hr
      apply h0
      rw [hu, hr, Nat.mul_zero]
    · exact .inl hu
  · rintro (h0 | h0) hh
    · omega
    · have : 0 < 65536 ^ (k / 16) * r := Nat.mul_pos hp (by omega)
      omega
/-- the digits of a number moved down: one more -/
theorem down_step {O : List Int} {P R y x0 x1 j W : Nat} (hPR : P * R = 65536) (hO : O.length = j) (h : vb 65536 O * P + y = W + 65536 ^ j * (x0 % P)) :
    vb 65536 (O ++ [((x0 / P + x1 % P * R : Nat) : Int)]) * P + y = (W + 65536 ^ j * x0) + 65536 ^ (j + 1) * (x1 % P) := by
  have e : vb 65536 (O ++ [((x0 / P + x1 % P * R : Nat) : Int)]) = vb 65536 O + 65536 ^ j * (x0 / P + x1 % P * R) := by
    rw [vb_snoc, hO, Int.toNat_natCast]
  have e2 := Nat.div_add_mod x0 P
  have e3 : 65536 ^ j * (x0 / P + x1 % P * R) * P = 65536 ^ j * (P * (x0 / P)) + 65536 ^ (j + 1) * (x1 % P) := by
    rw [Nat.mul_assoc, Nat.add_mul, Nat.mul_add, Nat.mul_comm (x0 / P) P, Nat.mul_assoc (x1 % P), Nat.mul_comm R P, hPR, Nat.pow_succ, Nat.mul_comm (x1 % P), Nat.mul_assoc]
  have e4 : 65536 ^ j * x0 = 65536 ^ j * (P * (x0 / P)) + 65536 ^ j * (x0 % P) := by rw [← Nat.mul_add, e2]
  rw [e, Nat.add_mul, e3]
  omega
theorem down_lt {P R x0 x1 : Nat} (hP : 0 < P) (hPR : P * R = 65536) (h0 : x0 < 65536) : x0 / P + x1 % P * R < 65536 := by
  have h1 : x0 / P < R := Nat.div_lt_of_lt_mul (by omega)
  have h2 : x1 % P + 1 ≤ P := Nat.mod_lt _ hP
  have h3 := Nat.mul_le_mul_right R h2
  rw [Nat.add_mul, Nat.one_mul, hPR] at h3
  omega
theorem down_end {L : List Int} (h : ∀ x ∈ L, Dg 65536 x) {k V' : Nat} (e : V' * 2 ^ (k % 16) + dgS L (k / 16) % 2 ^ (k % 16) = vb 65536 (L.drop (k / 16))) : V' = vb 65536 L / 2 ^ k := by
  have hp : 0 < 2 ^ (k % 16) := Nat.pow_pos (by omega)
  obtain ⟨e1, _⟩ := vb_cut h (k / 16)
  rw [pow_split16, ← Nat.div_div_eq_div_mul, e1, ← e, Nat.add_comm, Nat.mul_comm, Nat.add_mul_div_left _ _ hp, Nat.div_eq_of_lt (Nat.mod_lt _ hp), Nat.zero_add]
end Go.Nt
namespace Go.Rn
open Go.Nt
theorem bl_bitLen (V : Nat) : bl V = bitLen V := by
  by_cases h : V = 0
  · subst h; rw [bl_zero]; rfl
  · have h1 := (bitLen_spec V).1
    have h2 := (bitLen_spec V).2 h
    have h3 := len_pos h
    obtain ⟨k, hk⟩ : ∃ k, bitLen V = k + 1 := ⟨bitLen V - 1, by omega⟩
    rw [hk] at h1 h2 ⊢
    exact bl_uniq h2 h1
theorem half_iff (T k : Nat) : (T / 2 ^ k % 2 = 1) ↔ 2 ^ k ≤ T % 2 ^ (k + 1) := by
  have hp : 0 < 2 ^ k := Nat.pow_pos (by omega)
  have e : T % 2 ^ (k + 1) = T % 2 ^ k + 2 ^ k * (T / 2 ^ k % 2) := by rw [Nat.pow_succ, Nat.mod_mul]
  have hl := Nat.mod_lt T hp
  have h2 : T / 2 ^ k % 2 = 0 ∨ T / 2 ^ k % 2 = 1 := by omega
  rw [e]
  clear e
  generalize T % 2 ^ k = r at hl
  generalize T / 2 ^ k % 2 = b at h2
  generalize 2 ^ k = P at hl hp
  rcases h2 with h | h
  · subst h
    simp only [Nat.mul_zero, Nat.add_zero]
    omega
  · subst h
    rw [Nat.mul_one]
    exact ⟨fun _ => Nat.le_add_left _ _, fun _ => rfl⟩
/-- the document's way to round: half, and just half -/
theorem up_doc {r k : Nat} (hr : r ≠ 0) (M : Int) (neg o : Bool) :
    upR M neg o (restC r (2 ^ (k + 1))) = (if M = 2 then false else if M = 3 then !neg else if M = 4 then neg else if M = 1 then decide (2 ^ k ≤ r) else (decide (2 ^ k ≤ r) && (!decide (r = 2 ^ k) || o))) := by
  have hc : ¬ restC r (2 ^ (k + 1)) = 0 := by rw [restC_iff]; exact hr
  unfold upR
  rw [if_neg hc]
  by_cases h2 : M = 2
  · rw [if_pos h2, if_pos h2]
  · rw [if_neg h2, if_neg h2]
    by_cases h3 : M = 3
    · rw [if_pos h3, if_pos h3]
    · rw [if_neg h3, if_neg h3]
      by_cases h4 : M = 4
      · rw [if_pos h4, if_pos h4]
      · rw [if_neg h4, if_neg h4]
        have e : 2 ^ (k + 1) = 2 * 2 ^ k := by rw [Nat.pow_succ, Nat.mul_comm]
        unfold restC
        rw [if_neg hr, e]
        generalize 2 ^ k = P
        by_cases a : 2 * r < 2 * P
        · rw [if_pos a]
          have : decide (P ≤ r) = false := decide_eq_false (by omega)
          rw [this]
          split <;> simp
        · rw [if_neg a]
          by_cases b : 2 * r = 2 * P
          · rw [if_pos b]
            have h1 : decide (P ≤ r) = true := decide_eq_true (by omega)
            have h5 : decide (r = P) = true := decide_eq_true (by omega)
            rw [h1, h5]
            split <;> simp
          · rw [if_neg b]
            have h1 : decide (P ≤ r) = true := decide_eq_true (by omega)
            have h5 : decide (r = P) = false := decide_eq_false (by omega)
            rw [h1, h5]
            split <;> simp
end Go.Rn
namespace Go.Rn
open Go.Nt Go.Wd
theorem far_pow {k : Nat} (hk : 300 ≤ k) : 4 * 2 ^ 256 ≤ 2 ^ k := by
  obtain ⟨j, rfl⟩ : ∃ j, k = 256 + (2 + j) := ⟨k - 258, by omega⟩
  have hj : 0 < 2 ^ j := Nat.pow_pos (by omega)
  rw [Nat.pow_add, Nat.pow_add, Nat.mul_comm 4]
  refine Nat.mul_le_mul_left _ ?_
  show 4 ≤ 4 * 2 ^ j
  omega
/-- a mode, or Even -/
def mN (m : Int) : Int := if m < 0 then 0 else if m > 4 then 0 else m
theorem upR_mN (m : Int) (neg o : Bool) (c : Int) : upR (mN m) neg o c = upR m neg o c := by
  unfold mN
  by_cases h0 : m < 0
  · rw [if_pos h0]
    unfold upR
    rw [if_neg (show ¬ m = 2 by omega), if_neg (show ¬ m = 3 by omega), if_neg (show ¬ m = 4 by omega), if_neg (show ¬ m = 1 by omega)]
    simp
  · rw [if_neg h0]
    by_cases h4 : m > 4
    · rw [if_pos h4]
      unfold upR
      rw [if_neg (show ¬ m = 2 by omega), if_neg (show ¬ m = 3 by omega), if_neg (show ¬ m = 4 by omega), if_neg (show ¬ m = 1 by omega)]
      simp
    · rw [if_neg h4]
theorem toQ_mN (m : Int) (neg : Bool) (T : Nat) (E e : Int) : toQ (mN m) neg T E e = toQ m neg T E e := by
  unfold toQ rq
  simp only [upR_mN]
/-- the document's size -/
def rT (x : W4) (b : Bool) : Nat := match b with | true => 2 * x.nat + 1 | false => x.nat
def jB (b : Bool) : Int := match b with | true => 1 | false => 0
theorem rT_lt {x : W4} (hx : x.ok) (b : Bool) : rT x b < 2 * 2 ^ 256 := by
  have := W4.nat_lt hx
  unfold rT
  cases b <;> simp only <;> omega
theorem rnP_mN (m : Int) (neg : Bool) (T : Nat) (E : Int) : rnP (mN m) neg T E = rnP m neg T E := by
  unfold rnP p0 bey
  simp only [toQ_mN, upR_mN]
theorem rnF_mN (m : Int) (neg : Bool) (T : Nat) (E : Int) : rnF (mN m) neg T E = rnF m neg T E := by
  unfold rnF p0 tiny
  simp only [toQ_mN]
/-- beyond all patterns -/
theorem p0_big {m : Int} {neg : Bool} {T : Nat} {E : Int} (hT : T ≠ 0) (h : 1024 ≤ lgN T E) : 9218868437227405312 ≤ p0 m neg T E := by
  have hq := low_lo (m := m) (neg := neg) (T := T) (E := E) hT (by omega)
  have hl : lowE T E = lgN T E - 52 := by unfold lowE; rw [if_neg (by omega)]
  unfold p0
  rw [hl] at hq ⊢
  omega
theorem big_eq {m : Int} {neg : Bool} {T : Nat} {E : Int} (hT : T ≠ 0) (h : 1024 ≤ lgN T E) : rnP m neg T E = bey m neg ∧ rnF m neg T E = 20 := by
  have := p0_big (m := m) (neg := neg) hT h
  unfold rnP rnF
  rw [if_neg hT, if_neg hT, if_pos this, if_pos this]
  exact ⟨rfl, rfl⟩
/-- far below all patterns -/
theorem low_eq {m : Int} {neg : Bool} {T : Nat} {E : Int} (hT : T ≠ 0) (h : lgN T E ≤ -1100) : rnP m neg T E = (if upR m neg false 1 = true then 1 else 0) ∧ rnF m neg T E = 24 := by
  have hb := (bitLen_spec T).1
  have hl : lowE T E = -1074 := by unfold lowE; rw [if_pos (by omega)]
  have hE : ¬ (-1074 : Int) ≤ E := by unfold lgN at h; have := len_pos hT; omega
  have hk : bitLen T + 2 ≤ (-1074 - E).toNat := by unfold lgN at h; omega
  have hp := Nat.pow_le_pow_right (show 0 < 2 by omega) hk
  have e4 : 2 ^ (bitLen T + 2) = 4 * 2 ^ bitLen T := by rw [Nat.pow_add, Nat.mul_comm]
  have hlt : 2 * T < 2 ^ (-1074 - E).toNat := by omega
  have hd : T / 2 ^ (-1074 - E).toNat = 0 := Nat.div_eq_of_lt (by omega)
  have hm : T % 2 ^ (-1074 - E).toNat = T := Nat.mod_eq_of_lt (by omega)
  have hr : restC T (2 ^ (-1074 - E).toNat) = 1 := by unfold restC; rw [if_neg hT, if_pos hlt]
  have hq : toQ m neg T E (-1074) = if upR m neg false 1 = true then 1 else 0 := by
    unfold toQ rq
    rw [if_neg hE, hd, hm, hr]
    have ho : odd 0 = false := rfl
    rw [ho]
    simp
  have hL : toL T E (-1074) = true := by unfold toL; rw [if_neg hE, hm]; exact decide_eq_true hT
  have hti : tiny m neg T E = true := by unfold tiny; rw [if_neg (by omega)]; exact decide_eq_true (by omega)
  have hp0 : p0 m neg T E = if upR m neg false 1 = true then 1 else 0 := by
    unfold p0
    rw [hl, hq]
    split <;> rfl
  unfold rnP rnF
  rw [if_neg hT, if_neg hT, hp0, hl, hL, hti]
  split <;> simp
/-- the program's way and the document's, from any exponent -/
theorem same_round {m : Int} {neg : Bool} {x : W4} (hx : x.ok) (b : Bool) {C D : Int} (h : (C = D) ∨ (1700 ≤ C ∧ 1700 ≤ D) ∨ (C ≤ -1700 ∧ D ≤ -1700)) : rnP m neg (tw x b) (C - 1) = rnP m neg (rT x b) (D - jB b) ∧ rnF m neg (tw x b) (C - 1) = rnF m neg (rT x b) (D - jB b) := by
  have hj : 0 ≤ jB b ∧ jB b ≤ 1 := by cases b <;> simp [jB]
  have e : rnP m neg (tw x b) (C - 1) = rnP m neg (rT x b) (C - jB b) ∧ rnF m neg (tw x b) (C - 1) = rnF m neg (rT x b) (C - jB b) := by
    cases b with
    | true => exact ⟨rfl, rfl⟩
    | false =>
      have e1 : tw x false = x.nat * 2 ^ 1 := by unfold tw; simp [Nat.mul_comm]
      rw [e1]
      simp only [rT, jB, Int.sub_zero]
      exact ⟨rnP_scale m neg x.nat 1 C, rnF_scale m neg x.nat 1 C⟩
  rw [e.1, e.2]
  rcases h with h | h | h
  · rw [h]; exact ⟨rfl, rfl⟩
  · by_cases hT : rT x b = 0
    · rw [hT]; unfold rnP rnF; simp
    · have hl := len_pos hT
      obtain ⟨a1, a2⟩ := big_eq (m := m) (neg := neg) (E := C - jB b) hT (by unfold lgN; omega)
      obtain ⟨b1, b2⟩ := big_eq (m := m) (neg := neg) (E := D - jB b) hT (by unfold lgN; omega)
      rw [a1, a2, b1, b2]; exact ⟨rfl, rfl⟩
  · by_cases hT : rT x b = 0
    · rw [hT]; unfold rnP rnF; simp
    · have hlt := rT_lt hx b
      obtain ⟨k, hk⟩ : ∃ k : Nat, k = 300 := ⟨300, rfl⟩
      have hfp := far_pow (show 300 ≤ k by omega)
      have hl : bitLen (rT x b) ≤ k := len_le (by omega)
      obtain ⟨a1, a2⟩ := low_eq (m := m) (neg := neg) (E := C - jB b) hT (by unfold lgN; omega)
      obtain ⟨b1, b2⟩ := low_eq (m := m) (neg := neg) (E := D - jB b) hT (by unfold lgN; omega)
      rw [a1, a2, b1, b2]; exact ⟨rfl, rfl⟩
/-! ### the document's flags and pattern -/
theorem len53 {q : Nat} (h0 : 4503599627370496 ≤ q) (h1 : q ≤ 9007199254740992) : bitLen q = if q = 9007199254740992 then 54 else 53 := by
  split
  · rename_i h; rw [h]; exact len_uniq (k := 53) (by decide) (by decide)
  · exact len_uniq (k := 52) h0 (show q < 2 ^ 53 by have : (2 : Nat) ^ 53 = 9007199254740992 := rfl; omega)
/-- Underflow -/
theorem tiny_doc {m : Int} {neg : Bool} {T : Nat} {E : Int} (hT : T ≠ 0) : decide ((bitLen (toQ m neg T E (lgN T E - 52)) : Int) + (lgN T E + 1) - 53 ≤ -1022) = tiny m neg T E := by
  have h0 : 4503599627370496 ≤ toQ m neg T E (lgN T E - 52) := toQ_ge (n := 52) hT (by unfold lgN; omega)
  have h1 : toQ m neg T E (lgN T E - 52) ≤ 9007199254740992 := toQ_le (n := 53) (by unfold lgN; omega)
  have hl := len53 h0 h1
  unfold tiny
  by_cases he : lgN T E = -1023
  · have e : lgN T E - 52 = -1075 := by omega
    rw [e] at h0 h1 hl ⊢
    rw [if_pos he, hl]
    congr 1
    simp only [eq_iff_iff]
    split <;> omega
  · rw [if_neg he, hl]
    congr 1
    simp only [eq_iff_iff]
    split <;> omega
/-- Overflow -/
theorem over_doc {m : Int} {neg : Bool} {T : Nat} {E : Int} (hT : T ≠ 0) : decide ((bitLen (toQ m neg T E (lowE T E)) : Int) + lowE T E > 1024) = decide (9218868437227405312 ≤ p0 m neg T E) := by
  have h1 := low_hi m neg T E
  have hle := lowE_ge T E
  congr 1
  simp only [eq_iff_iff]
  unfold p0
  by_cases hn : lowE T E = -1074
  · have hl : bitLen (toQ m neg T E (lowE T E)) ≤ 54 := by
      have : toQ m neg T E (lowE T E) < 2 ^ 54 := by have e : (2 : Nat) ^ 54 = 18014398509481984 := rfl; omega
      exact len_le this
    omega
  · have h0 := low_lo (m := m) (neg := neg) (E := E) hT (by unfold lowE at hn; split at hn <;> omega)
    have hl := len53 h0 h1
    rw [hl]
    split <;> omega
/-- all but the low d bits, and behind them one bit for these -/
def stk (A d : Nat) : Nat := 2 * (A / 2 ^ d) + (if A % 2 ^ d = 0 then 0 else 1)
theorem stk_bit (A d : Nat) : (if A % 2 ^ d = 0 then 0 else 1) ≤ 1 := by split <;> omega
theorem stk_div (A d j : Nat) : stk A d / 2 ^ (j + 1) = A / 2 ^ (d + j) := by
  have e : stk A d / 2 = A / 2 ^ d := by unfold stk; split <;> omega
  rw [Nat.pow_succ, Nat.mul_comm, ← Nat.div_div_eq_div_mul, e, Nat.div_div_eq_div_mul, Nat.pow_add]
theorem stk_mod (A d j : Nat) : stk A d % 2 ^ (j + 1) = 2 * (A / 2 ^ d % 2 ^ j) + (if A % 2 ^ d = 0 then 0 else 1) := by
  rw [Nat.pow_succ, Nat.mul_comm, Nat.mod_mul]
  have e : stk A d / 2 = A / 2 ^ d := by unfold stk; split <;> omega
  rw [e]
  unfold stk
  split <;> omega
theorem all_mod (A d j : Nat) : A % 2 ^ (d + j) = A % 2 ^ d + 2 ^ d * (A / 2 ^ d % 2 ^ j) := by rw [Nat.pow_add, Nat.mod_mul]
theorem stk_zero (A d j : Nat) : stk A d % 2 ^ (j + 1) = 0 ↔ A % 2 ^ (d + j) = 0 := by
  have hD : 0 < 2 ^ d := Nat.pow_pos (by omega)
  rw [stk_mod, all_mod]
  generalize A / 2 ^ d % 2 ^ j = r
  constructor
  · intro h
    have h1 : A % 2 ^ d = 0 := by
      by_cases h0 : A % 2 ^ d = 0
      · exact h0
      · rw [if_neg h0] at h; omega
    rw [if_pos h1] at h
    have : r = 0 := by omega
    rw [h1, this]; simp
  · intro h
    have h1 : A % 2 ^ d = 0 := by omega
    rw [if_pos h1]
    have h2 : 2 ^ d * r = 0 := by omega
    rcases Nat.mul_eq_zero.1 h2 with h3 | h3
    · omega
    · rw [h3]
theorem rest_core {r r' D Q s : Nat} (hD : r' < D) (hQ : 0 < Q) (hb : s ≤ 1) (hs : s = 0 ↔ r' = 0) : restC (2 * r + s) (4 * Q) = restC (r' + D * r) (2 * (D * Q)) := by
  have hDr : r ≤ D * r := Nat.le_mul_of_pos_left r (by omega)
  unfold restC
  by_cases h0 : r' + D * r = 0
  · have : r' = 0 := by omega
    have := hs.2 this
    rw [if_pos h0, if_pos (by omega)]
  · have hz : ¬ 2 * r + s = 0 := by
      intro h
      apply h0
      have h1 : r = 0 := by omega
      have h2 := hs.1 (by omega)
      rw [h1, h2]; rfl
    rw [if_neg h0, if_neg hz]
    rcases Nat.lt_trichotomy r Q with h | h | h
    · have h1 : D * r + D ≤ D * Q := by rw [← Nat.mul_succ]; exact Nat.mul_le_mul_left D h
      rw [if_pos (by omega), if_pos (by omega)]
    · subst h
      by_cases hs0 : s = 0
      · have := hs.1 hs0
        rw [if_neg (by omega), if_pos (by omega), if_neg (by omega), if_pos (by omega)]
      · have : r' ≠ 0 := fun h => hs0 (hs.2 h)
        rw [if_neg (by omega), if_neg (by omega), if_neg (by omega), if_neg (by omega)]
    · have h1 : D * Q + D ≤ D * r := by rw [← Nat.mul_succ]; exact Nat.mul_le_mul_left D h
      rw [if_neg (by omega), if_neg (by omega), if_neg (by omega), if_neg (by omega)]
theorem stk_rest (A d j : Nat) : restC (stk A d % 2 ^ (j + 2)) (2 ^ (j + 2)) = restC (A % 2 ^ (d + (j + 1))) (2 ^ (d + (j + 1))) := by
  have hD : 0 < 2 ^ d := Nat.pow_pos (by omega)
  have hQ : 0 < 2 ^ j := Nat.pow_pos (by omega)
  have eP : 2 ^ (j + 1 + 1) = 4 * 2 ^ j := by rw [Nat.pow_succ, Nat.pow_succ]; omega
  have eP2 : 2 ^ (d + (j + 1)) = 2 * (2 ^ d * 2 ^ j) := by rw [Nat.pow_add, Nat.pow_succ, ← Nat.mul_assoc]; omega
  have e1 := stk_mod A d (j + 1)
  have e2 := all_mod A d (j + 1)
  rw [show j + 2 = (j + 1) + 1 by omega, e1, e2, eP, eP2]
  exact rest_core (Nat.mod_lt A hD) hQ (stk_bit A d) (by split <;> omega)
theorem stk_rq (m : Int) (neg : Bool) (A d j : Nat) : rq m neg (stk A d) (j + 2) = rq m neg A (d + (j + 1)) := by
  unfold rq
  rw [stk_rest, show j + 2 = (j + 1) + 1 by omega, stk_div]
theorem stk_toQ (m : Int) (neg : Bool) (A d : Nat) {F e : Int} (h : F + d + 1 ≤ e) : toQ m neg (stk A d) (F + d - 1) e = toQ m neg A F e := by
  obtain ⟨j, hj⟩ : ∃ j : Nat, e = F + d + 1 + j := ⟨(e - (F + d + 1)).toNat, by omega⟩
  unfold toQ
  rw [if_neg (by omega), if_neg (by omega), show (e - (F + d - 1)).toNat = j + 2 by omega, show (e - F).toNat = d + (j + 1) by omega, stk_rq]
theorem stk_toL (A d : Nat) {F e : Int} (h : F + d + 1 ≤ e) : toL (stk A d) (F + d - 1) e = toL A F e := by
  obtain ⟨j, hj⟩ : ∃ j : Nat, e = F + d + 1 + j := ⟨(e - (F + d + 1)).toNat, by omega⟩
  unfold toL
  rw [if_neg (by omega), if_neg (by omega), show (e - (F + d - 1)).toNat = j + 1 + 1 by omega, show (e - F).toNat = d + (j + 1) by omega]
  congr 1
  simp only [ne_eq, eq_iff_iff]
  exact not_congr (stk_zero A d (j + 1))
theorem stk_len {A d : Nat} (h : A / 2 ^ d ≠ 0) : bitLen (stk A d) = bitLen (A / 2 ^ d) + 1 := by
  have e : stk A d / 2 ^ 1 = A / 2 ^ d := by
    have := stk_div A d 0
    simpa using this
  rw [bitLen_shift (stk A d) 1 (by rw [e]; exact h), e]
  omega
theorem stk_lgN {A d : Nat} {F : Int} (h : A / 2 ^ d ≠ 0) : lgN (stk A d) (F + d - 1) = lgN A F := by
  have e := bitLen_shift A d h
  unfold lgN
  rw [stk_len h]
  omega
theorem stk_round {m : Int} {neg : Bool} {A d : Nat} {F : Int} (h : A % 2 ^ d = 0 ∨ 54 ≤ bitLen (A / 2 ^ d)) : rnP m neg (stk A d) (F + d - 1) = rnP m neg A F ∧ rnF m neg (stk A d) (F + d - 1) = rnF m neg A F := by
  by_cases h0 : A % 2 ^ d = 0
  · have e1 : stk A d = A / 2 ^ d * 2 ^ 1 := by unfold stk; rw [if_pos h0]; omega
    have e2 : A = A / 2 ^ d * 2 ^ d := by
      have := Nat.div_add_mod A (2 ^ d)
      rw [h0, Nat.mul_comm] at this
      omega
    have p1 := rnP_scale m neg (A / 2 ^ d) 1 (F + d)
    have p2 := rnP_scale m neg (A / 2 ^ d) d (F + d)
    have f1 := rnF_scale m neg (A / 2 ^ d) 1 (F + d)
    have f2 := rnF_scale m neg (A / 2 ^ d) d (F + d)
    rw [show F + (d : Int) - ((1 : Nat) : Int) = F + d - 1 by omega, ← e1] at p1 f1
    rw [show F + (d : Int) - (d : Int) = F by omega, ← e2] at p2 f2
    exact ⟨by rw [p1, p2], by rw [f1, f2]⟩
  · have hb : 54 ≤ bitLen (A / 2 ^ d) := by exact h.resolve_left h0
    have hq : A / 2 ^ d ≠ 0 := fun h => by rw [h] at hb; simp [bitLen] at hb
    have hA : A ≠ 0 := fun h => h0 (by rw [h]; simp)
    have hs : stk A d ≠ 0 := by unfold stk; omega
    have hl := stk_lgN (F := F) hq
    have hlw : lowE (stk A d) (F + d - 1) = lowE A F := by unfold lowE; rw [hl]
    have hlg : lgN A F = F + d + bitLen (A / 2 ^ d) - 1 := by rw [← hl]; unfold lgN; rw [stk_len hq]; omega
    have hge : F + d + 1 ≤ lowE A F := by unfold lowE; split <;> omega
    have hp : p0 m neg (stk A d) (F + d - 1) = p0 m neg A F := by unfold p0; rw [hlw, stk_toQ m neg A d hge]
    have ht : tiny m neg (stk A d) (F + d - 1) = tiny m neg A F := by
      unfold tiny
      rw [hl]
      by_cases hn : lgN A F = -1023
      · rw [if_pos hn, if_pos hn, stk_toQ m neg A d (by omega)]
      · rw [if_neg hn, if_neg hn]
    unfold rnP rnF
    rw [if_neg hs, if_neg hA, if_neg hs, if_neg hA, hp, hlw, stk_toL A d hge, ht]
    exact ⟨rfl, rfl⟩
theorem dm {A D q r : Nat} (h : A = D * q + r) (hr : r < D) : A / D = q ∧ A % D = r := by
  subst h
  constructor
  · rw [Nat.mul_add_div (by omega), Nat.div_eq_of_lt hr, Nat.add_zero]
  · rw [Nat.mul_add_mod, Nat.mod_eq_of_lt hr]
def bN (b : Bool) : Nat := match b with | true => 1 | false => 0
theorem stk_of {A d q r : Nat} (h : A = 2 ^ d * q + r) (hr : r < 2 ^ d) : 2 * q + bN (decide (r ≠ 0)) = stk A d ∧ A / 2 ^ d = q ∧ A % 2 ^ d = r := by
  obtain ⟨h1, h2⟩ := dm h hr
  refine ⟨?_, h1, h2⟩
  unfold stk
  rw [h1, h2]
  by_cases h0 : r = 0
  · rw [if_pos h0]; simp [bN, h0]
  · rw [if_neg h0]; simp [bN, h0]
/-- a size with a sign -/
def sgI (n : Bool) (A : Nat) : Int := match n with | true => -(A : Int) | false => (A : Int)
/-- the sign of a sum -/
def sgS (m : Int) (nx ny : Bool) (S : Int) : Bool := if S = 0 then (if nx = ny then nx else decide (m = 4)) else decide (S < 0)
def exN (m : Int) (nx ny : Bool) (p q : Nat) : Bool := if nx = ny then nx else if q < p then nx else if p < q then ny else decide (m = 4)
def exQ (nx ny : Bool) (p : Nat) (bx : Bool) (q : Nat) (b : Bool) : Nat := if nx = ny then p + q else if q < p then p - q - bN b else if p < q then q - p - bN bx else 0
def exB (nx ny : Bool) (p : Nat) (bx : Bool) (q : Nat) (b : Bool) : Bool := if nx = ny then bx || b else if q < p then bx || b else if p < q then b || bx else false
/-- what is known of the two: at most one has something below its units, and that one is then far less than the other -/
def Far (p r q s K L : Nat) : Prop := r = 0 ∨ (s = 0 ∧ K ≤ q ∧ p < L)
theorem exLess {K : Nat} (h54 : 2 ^ 53 ≤ K) {d Ax Ay p r q s : Nat} (hx : Ax = 2 ^ d * p + r) (hy : Ay = 2 ^ d * q + s) (hs : s < 2 ^ d) (hr : r = 0) (hlt : q < p) (hK : s = 0 ∨ K + q + 1 ≤ p) :
    Ay < Ax ∧ 2 * (p - q - bN (decide (s ≠ 0))) + bN (decide (s ≠ 0)) = stk (Ax - Ay) d ∧ ((Ax - Ay) % 2 ^ d = 0 ∨ 54 ≤ bitLen ((Ax - Ay) / 2 ^ d)) := by
  have hm : 2 ^ d * q + 2 ^ d ≤ 2 ^ d * p := by rw [← Nat.mul_succ]; exact Nat.mul_le_mul_left _ hlt
  refine ⟨by omega, ?_⟩
  by_cases h0 : s = 0
  · have e : Ax - Ay = 2 ^ d * (p - q) + 0 := by rw [Nat.mul_sub]; omega
    obtain ⟨a, b, c⟩ := stk_of e (Nat.pow_pos (by omega))
    rw [← a]
    refine ⟨?_, .inl c⟩
    simp [h0, bN]
  · have e : Ax - Ay = 2 ^ d * (p - q - 1) + (2 ^ d - s) := by
      rw [Nat.mul_sub, Nat.mul_sub, Nat.mul_one]
      omega
    obtain ⟨a, b, c⟩ := stk_of e (by omega)
    have h1 : decide (2 ^ d - s ≠ 0) = true := decide_eq_true (by omega)
    have h2 : decide (s ≠ 0) = true := decide_eq_true h0
    rw [h1] at a
    rw [← a, h2]
    refine ⟨rfl, .inr ?_⟩
    rw [b]
    exact le_len (k := 53) (by rcases hK with h | h <;> omega)
theorem ex_core {K L : Nat} (hKL : 2 ^ 53 + L + 1 ≤ K) {d Ax Ay p r q s : Nat} (hx : Ax = 2 ^ d * p + r) (hr : r < 2 ^ d) (hy : Ay = 2 ^ d * q + s) (hs : s < 2 ^ d) (h1 : Far p r q s K L) (h2 : Far q s p r K L) (m : Int) (nx ny : Bool) :
    2 * exQ nx ny p (decide (r ≠ 0)) q (decide (s ≠ 0)) + bN (exB nx ny p (decide (r ≠ 0)) q (decide (s ≠ 0))) = stk (sgI nx Ax + sgI ny Ay).natAbs d
    ∧ ((sgI nx Ax + sgI ny Ay).natAbs % 2 ^ d = 0 ∨ 54 ≤ bitLen ((sgI nx Ax + sgI ny Ay).natAbs / 2 ^ d))
    ∧ exN m nx ny p q = sgS m nx ny (sgI nx Ax + sgI ny Ay) := by
  unfold Far at h1 h2
  by_cases hn : nx = ny
  · have ha : (sgI nx Ax + sgI ny Ay).natAbs = Ax + Ay := by subst hn; cases nx <;> simp only [sgI] <;> omega
    have hsg : nx = sgS m nx ny (sgI nx Ax + sgI ny Ay) := by
      unfold sgS
      split
      · rfl
      · rename_i h0
        subst hn
        cases nx <;> simp only [sgI] at * <;> symm
        · exact decide_eq_false (by omega)
        · exact decide_eq_true (by omega)
    rw [ha]
    unfold exQ exB exN
    rw [if_pos hn, if_pos hn, if_pos hn]
    have e : Ax + Ay = 2 ^ d * (p + q) + (r + s) := by rw [Nat.mul_add]; omega
    obtain ⟨a, b, c⟩ := stk_of e (by omega)
    refine ⟨?_, ?_, hsg⟩
    · rw [← a]
      congr 2
      by_cases r0 : r = 0 <;> by_cases s0 : s = 0 <;> simp [r0, s0]
    · rw [b, c]
      by_cases r0 : r = 0
      · by_cases s0 : s = 0
        · left; omega
        · right; exact le_len (k := 53) (by omega)
      · right; exact le_len (k := 53) (by omega)
  · unfold exQ exB exN
    rw [if_neg hn, if_neg hn, if_neg hn]
    have hab : (sgI nx Ax + sgI ny Ay).natAbs = if Ay < Ax then Ax - Ay else Ay - Ax := by
      cases nx <;> cases ny <;> simp only [sgI, not_true_eq_false, reduceCtorEq, not_false_eq_true] at * <;> split <;> omega
    have hz : (sgI nx Ax + sgI ny Ay = 0) ↔ Ax = Ay := by
      cases nx <;> cases ny <;> simp only [sgI, not_true_eq_false, reduceCtorEq, not_false_eq_true] at * <;> omega
    have hneg : Ax ≠ Ay → sgS m nx ny (sgI nx Ax + sgI ny Ay) = if Ay < Ax then nx else ny := fun h => by
      unfold sgS
      rw [if_neg (fun e => h (hz.1 e))]
      cases nx <;> cases ny <;> simp only [sgI, not_true_eq_false, reduceCtorEq, not_false_eq_true] at * <;> split <;> first | exact decide_eq_true (by omega) | exact decide_eq_false (by omega)
    rw [hab]
    rcases Nat.lt_trichotomy p q with h | h | h
    · have s0 : s = 0 := by omega
      obtain ⟨a, b, c⟩ := exLess (K := 2 ^ 53) (Nat.le_refl _) hy hx hr s0 h (by omega)
      rw [if_neg (by omega), if_pos h, if_neg (by omega), if_pos h, if_neg (by omega), if_neg (by omega), if_pos h]
      have e0 : decide (s ≠ 0) = false := decide_eq_false (by omega)
      rw [hneg (by omega), if_neg (by omega), e0, Bool.false_or]
      exact ⟨b, c, rfl⟩
    · subst h
      have r0 : r = 0 := by omega
      have s0 : s = 0 := by omega
      have he : Ax = Ay := by omega
      rw [if_neg (Nat.lt_irrefl _), if_neg (Nat.lt_irrefl _), if_neg (Nat.lt_irrefl _), if_neg (Nat.lt_irrefl _), if_neg (by omega), if_neg (Nat.lt_irrefl _), if_neg (Nat.lt_irrefl _)]
      refine ⟨?_, ?_, ?_⟩
      · rw [he]; simp [stk, bN]
      · left; rw [he]; simp
      · unfold sgS
        rw [if_pos (hz.2 he), if_neg hn]
    · have r0 : r = 0 := by omega
      obtain ⟨a, b, c⟩ := exLess (K := 2 ^ 53) (Nat.le_refl _) hx hy hs r0 h (by omega)
      rw [if_pos h, if_pos h, if_pos h, if_pos a]
      have e0 : decide (r ≠ 0) = false := decide_eq_false (by omega)
      rw [hneg (by omega), if_pos a, e0, Bool.false_or]
      exact ⟨b, c, rfl⟩
/-! ### in units -/
def iuQ (E u : Int) (X : Nat) : Nat := if u ≤ E then X * 2 ^ (E - u).toNat else X / 2 ^ (u - E).toNat
def iuB (E u : Int) (X : Nat) : Bool := if u ≤ E then false else decide (X % 2 ^ (u - E).toNat ≠ 0)
/-- a size, told by a lower power -/
def szF (F E : Int) (X : Nat) : Nat := X * 2 ^ (E - F).toNat
theorem iu_eq {F E u : Int} (h1 : F ≤ u) (h2 : F ≤ E) (X : Nat) : iuQ E u X = szF F E X / 2 ^ (u - F).toNat ∧ iuB E u X = decide (szF F E X % 2 ^ (u - F).toNat ≠ 0) := by
  unfold iuQ iuB szF
  by_cases h : u ≤ E
  · rw [if_pos h, if_pos h]
    have e : X * 2 ^ (E - F).toNat = X * 2 ^ (E - u).toNat * 2 ^ (u - F).toNat := by rw [Nat.mul_assoc, ← Nat.pow_add]; congr 2; omega
    rw [e, Nat.mul_div_cancel _ (Nat.pow_pos (by omega)), Nat.mul_mod_left]
    simp
  · rw [if_neg h, if_neg h]
    have e : (u - F).toNat = (u - E).toNat + (E - F).toNat := by omega
    have hp : 0 < 2 ^ (E - F).toNat := Nat.pow_pos (by omega)
    rw [e, Nat.pow_add, Nat.mul_div_mul_right _ _ hp, Nat.mul_mod_mul_right]
    refine ⟨rfl, ?_⟩
    congr 1
    rw [ne_eq, ne_eq, Nat.mul_eq_zero]
    simp only [eq_iff_iff]
    omega
def topN (E : Int) (X : Nat) : Int := if X = 0 then -100000 else E + (bitLen X : Nat)
def unN (Ex : Int) (X : Nat) (Ey : Int) (Y : Nat) : Int := max (topN Ex X) (topN Ey Y) - 254
theorem un_comm (Ex : Int) (X : Nat) (Ey : Int) (Y : Nat) : unN Ex X Ey Y = unN Ey Y Ex X := by unfold unN; omega
/-- a number that may be added -/
def May (E : Int) (X : Nat) : Prop := X < 2 ^ 128 ∧ -100000 ≤ E ∧ E ≤ 100000
theorem iuQ_lt {Ex Ey : Int} {X Y : Nat} : iuQ Ex (unN Ex X Ey Y) X < 2 ^ 254 := by
  by_cases h0 : X = 0
  · subst h0; unfold iuQ; split <;> simp
  · have hb := (bitLen_spec X).1
    have ht : topN Ex X = Ex + (bitLen X : Nat) := by unfold topN; rw [if_neg h0]
    have hu : Ex + (bitLen X : Nat) - 254 ≤ unN Ex X Ey Y := by unfold unN; omega
    unfold iuQ
    by_cases h : unN Ex X Ey Y ≤ Ex
    · rw [if_pos h]
      have hp : 0 < 2 ^ (Ex - unN Ex X Ey Y).toNat := Nat.pow_pos (by omega)
      have h3 := Nat.mul_lt_mul_of_pos_right hb hp
      rw [← Nat.pow_add] at h3
      exact Nat.lt_of_lt_of_le h3 (Nat.pow_le_pow_right (by omega) (by omega))
    · rw [if_neg h]
      refine Nat.div_lt_of_lt_mul ?_
      rw [← Nat.pow_add]
      exact Nat.lt_of_lt_of_le hb (Nat.pow_le_pow_right (by omega) (by omega))
theorem iu_far {Ex Ey : Int} {X Y : Nat} (hX : May Ex X) (hY : May Ey Y) (h : iuB Ey (unN Ex X Ey Y) Y = true) : iuB Ex (unN Ex X Ey Y) X = false ∧ 2 ^ 253 ≤ iuQ Ex (unN Ex X Ey Y) X ∧ iuQ Ey (unN Ex X Ey Y) Y < 2 ^ 128 := by
  obtain ⟨x1, x2, x3⟩ := hX
  obtain ⟨y1, y2, y3⟩ := hY
  unfold iuB at h
  have hu : ¬ unN Ex X Ey Y ≤ Ey := fun hc => by rw [if_pos hc] at h; cases h
  rw [if_neg hu] at h
  have hY0 : Y ≠ 0 := fun h0 => by rw [h0] at h; simp at h
  have lY : bitLen Y ≤ 128 := len_le y1
  have lX : bitLen X ≤ 128 := len_le x1
  have pY := len_pos hY0
  have tY : topN Ey Y = Ey + (bitLen Y : Nat) := by unfold topN; rw [if_neg hY0]
  have hX0 : X ≠ 0 := fun h0 => by
    apply hu
    unfold unN
    rw [tY]
    unfold topN
    rw [if_pos h0]
    omega
  have tX : topN Ex X = Ex + (bitLen X : Nat) := by unfold topN; rw [if_neg hX0]
  have eu : unN Ex X Ey Y = Ex + (bitLen X : Nat) - 254 := by unfold unN at hu ⊢; omega
  have hle : unN Ex X Ey Y ≤ Ex := by omega
  refine ⟨by unfold iuB; rw [if_pos hle], ?_, ?_⟩
  · unfold iuQ
    rw [if_pos hle]
    have h2 := (bitLen_spec X).2 hX0
    have pX := len_pos hX0
    have h3 := Nat.mul_le_mul_right (2 ^ (Ex - unN Ex X Ey Y).toNat) h2
    rw [← Nat.pow_add] at h3
    exact Nat.le_trans (Nat.pow_le_pow_right (by omega) (by omega)) h3
  · unfold iuQ
    rw [if_neg hu]
    exact Nat.lt_of_le_of_lt (Nat.div_le_self _ _) y1
/-- the sum, exactly: in units of 2^F -/
def smI (F : Int) (nx : Bool) (Ex : Int) (X : Nat) (ny : Bool) (Ey : Int) (Y : Nat) : Int := sgI nx (szF F Ex X) + sgI ny (szF F Ey Y)
def xuQ (nx : Bool) (Ex : Int) (X : Nat) (ny : Bool) (Ey : Int) (Y : Nat) : Nat := exQ nx ny (iuQ Ex (unN Ex X Ey Y) X) (iuB Ex (unN Ex X Ey Y) X) (iuQ Ey (unN Ex X Ey Y) Y) (iuB Ey (unN Ex X Ey Y) Y)
def xuB (nx : Bool) (Ex : Int) (X : Nat) (ny : Bool) (Ey : Int) (Y : Nat) : Bool := exB nx ny (iuQ Ex (unN Ex X Ey Y) X) (iuB Ex (unN Ex X Ey Y) X) (iuQ Ey (unN Ex X Ey Y) Y) (iuB Ey (unN Ex X Ey Y) Y)
def xuN (m : Int) (nx : Bool) (Ex : Int) (X : Nat) (ny : Bool) (Ey : Int) (Y : Nat) : Bool := exN m nx ny (iuQ Ex (unN Ex X Ey Y) X) (iuQ Ey (unN Ex X Ey Y) Y)
theorem xuQ_lt (nx : Bool) (Ex : Int) (X : Nat) (ny : Bool) (Ey : Int) (Y : Nat) : xuQ nx Ex X ny Ey Y < 2 ^ 255 := by
  have h1 := iuQ_lt (Ex := Ex) (Ey := Ey) (X := X) (Y := Y)
  have h2 := iuQ_lt (Ex := Ey) (Ey := Ex) (X := Y) (Y := X)
  rw [un_comm] at h2
  have e : (2 : Nat) ^ 255 = 2 * 2 ^ 254 := by rw [show 255 = 254 + 1 from rfl, Nat.pow_succ, Nat.mul_comm]
  unfold xuQ exQ
  rw [e]
  generalize (2 : Nat) ^ 254 = P at *
  split
  · omega
  · split
    · omega
    · split <;> omega
theorem xu_sum {F Ex Ey : Int} {X Y : Nat} (hX : May Ex X) (hY : May Ey Y) (hF : F ≤ unN Ex X Ey Y) (hx : F ≤ Ex) (hy : F ≤ Ey) (m : Int) (nx ny : Bool) :
    2 * xuQ nx Ex X ny Ey Y + bN (xuB nx Ex X ny Ey Y) = stk (smI F nx Ex X ny Ey Y).natAbs (unN Ex X Ey Y - F).toNat
    ∧ ((smI F nx Ex X ny Ey Y).natAbs % 2 ^ (unN Ex X Ey Y - F).toNat = 0 ∨ 54 ≤ bitLen ((smI F nx Ex X ny Ey Y).natAbs / 2 ^ (unN Ex X Ey Y - F).toNat))
    ∧ xuN m nx Ex X ny Ey Y = sgS m nx ny (smI F nx Ex X ny Ey Y) := by
  have fx := iu_far hY hX (Ex := Ey) (Ey := Ex) (X := Y) (Y := X)
  have fy := iu_far hX hY (Ex := Ex) (Ey := Ey) (X := X) (Y := Y)
  rw [un_comm Ey Y Ex X] at fx
  obtain ⟨ax, bx⟩ := iu_eq hF hx X
  obtain ⟨ay, by'⟩ := iu_eq hF hy Y
  unfold xuQ xuB xuN smI
  rw [ax, ay, bx, by'] at fx fy
  rw [ax, ay, bx, by']
  have hD : 0 < 2 ^ (unN Ex X Ey Y - F).toNat := Nat.pow_pos (by omega)
  refine ex_core (K := 2 ^ 253) (L := 2 ^ 128) (by decide) (Nat.div_add_mod _ _).symm (Nat.mod_lt _ hD) (Nat.div_add_mod _ _).symm (Nat.mod_lt _ hD) ?_ ?_ m nx ny
  · by_cases h0 : szF F Ex X % 2 ^ (unN Ex X Ey Y - F).toNat = 0
    · exact .inl h0
    · obtain ⟨p1, p2, p3⟩ := fx (decide_eq_true h0)
      exact .inr ⟨by simpa using p1, p2, p3⟩
  · by_cases h0 : szF F Ey Y % 2 ^ (unN Ex X Ey Y - F).toNat = 0
    · exact .inl h0
    · obtain ⟨p1, p2, p3⟩ := fy (decide_eq_true h0)
      exact .inr ⟨by simpa using p1, p2, p3⟩
end Go.Rn
namespace Go.Proofs.YtjkgnbdeklploaaGreatDoor
open Go.KRun Go.Wd Go.Pt Go.Rn
set_option maxRecDepth 100000
def conWs : Con := alt 141 (g1n (plain1n shlV4)) (alt 142 (g1n (plain1n shrV4)) (alt 140 (g1 lenV4) (alt 143 (g2 (plain2 addV4)) (alt 144 (g2 (plain2 subV4)) (alt 119 (g2 cmpN) conN)))))
theorem conWs_ok : ConOk conWs := alt_ok Tryz.func141 rfl (plain1n_ok shl_calls) (alt_ok Tryz.func142 rfl (plain1n_ok shr_calls) (alt_ok Tryz.func140 rfl (g1_ok wlen_calls) (alt_ok Tryz.func143 rfl (plain2_ok add_calls) (alt_ok Tryz.func144 rfl (plain2_ok sub_calls) (alt_ok Tryz.func119 rfl cmpN_ok conN_ok)))))
/-! ### fits -/
def lL (x : W4) (d : Bool) : Bool × Bool := (decide (lenI x ≤ 128), d)
def lO (x : W4) : Bool × Bool := (decide x.ok, true)
theorem ft1 (n b : Bool) (x : W4) (ex : Int) : Fits (reckon (tabOf Tryz.prog extY conWs true) 300 115 [vN n ex x b] [cmp false]) (.bool false) [lL x false, lO x] := ⟨by kernel_rfl, by kernel_rfl, by kernel_rfl, by kernel_rfl⟩
theorem ft2 (n : Bool) (x : W4) (ex : Int) : Fits (reckon (tabOf Tryz.prog extY conWs true) 300 115 [vN n ex x true] [cmp true]) (.bool false) [lL x true, lO x] := ⟨by kernel_rfl, by kernel_rfl, by kernel_rfl, by kernel_rfl⟩
theorem ft3 (n : Bool) (x : W4) (ex : Int) : Fits (reckon (tabOf Tryz.prog extY conWs true) 300 115 [vN n ex x false] [cmp true, cmp false]) (.bool false) [(decide (-100000 ≤ ex), false), lL x true, lO x] := ⟨by kernel_rfl, by kernel_rfl, by kernel_rfl, by kernel_rfl⟩
theorem ft4 (n : Bool) (x : W4) (ex : Int) : Fits (reckon (tabOf Tryz.prog extY conWs true) 300 115 [vN n ex x false] [cmp true, cmp true]) (.bool (decide (ex ≤ 100000))) [(decide (-100000 ≤ ex), true), lL x true, lO x] := ⟨by kernel_rfl, by kernel_rfl, by kernel_rfl, by kernel_rfl⟩
def mayB (ex : Int) (x : W4) (b : Bool) : Bool := decide (lenI x ≤ 128) && !b && decide (-100000 ≤ ex) && decide (ex ≤ 100000)
theorem fits5_calls (n b : Bool) (x : W4) (ex : Int) (hx : x.ok) (w : World) : Calls Tryz.prog 115 #[vN n ex x b] w fun r w' => r = .returned (.bool (mayB ex x b)) ∧ Tidy w w' := by
  have hv : ([vN n ex x b].all (lt 0)) = true := rfl
  have kx : decide x.ok = true := decide_eq_true hx
  unfold mayB
  by_cases hl : lenI x ≤ 128
  · have kl : decide (lenI x ≤ 128) = true := decide_eq_true hl
    rw [kl]
    cases b with
    | true => exact fits_calls (tabY_ok conWs_ok) (ft2 n x ex) (okCons kl (okL1 kx)) hv (by rfl) w
    | false =>
      by_cases he : -100000 ≤ ex
      · have ke : decide (-100000 ≤ ex) = true := decide_eq_true he
        rw [ke]
        exact fits_calls (tabY_ok conWs_ok) (ft4 n x ex) (okCons ke (okCons kl (okL1 kx))) hv (by rfl) w
      · have ke : decide (-100000 ≤ ex) = false := decide_eq_false he
        rw [ke]
        exact fits_calls (tabY_ok conWs_ok) (ft3 n x ex) (okCons ke (okCons kl (okL1 kx))) hv (by rfl) w
  · have kl : decide (lenI x ≤ 128) = false := decide_eq_false hl
    rw [kl]
    exact fits_calls (tabY_ok conWs_ok) (ft1 n b x ex) (okCons kl (okL1 kx)) hv (by rfl) w
def gFt : Ans := fun vals s =>
  match vals with
  | [v] =>
    match n7 v with
    | some (_, ex, x, b) => some (.bool (pickC (mayB ex x b) s).1, (pickC (mayB ex x b) s).2.1, (pickC (mayB ex x b) s).2.2 ++ [(decide x.ok, true)])
    | none => none
  | _ => none
theorem gFt_ok : AnsOk 115 gFt := by
  intro vals s v s' lg h hl w
  unfold gFt at h
  split at h
  · split at h
    · rename_i n ex x b hn
      cases h
      rw [n7_spec hn, pickC_ok (fun p hp => hl p (List.mem_append_left _ hp))]
      exact fits5_calls n b x ex (of_decide_eq_true (hl _ (List.mem_append_right _ (List.mem_singleton.2 rfl)))) w
    · cases h
  · cases h
/-! ### top -/
theorem tp1 (n b : Bool) (x : W4) (ex : Int) : Fits (reckon (tabOf Tryz.prog extY conWs true) 300 116 [vN n ex x b] [sam true]) (.int .i64 (-100000)) [(eqW x ⟨0, 0, 0, 0⟩, true)] := ⟨by kernel_rfl, by kernel_rfl, by kernel_rfl, by kernel_rfl⟩
theorem tp2 (n b : Bool) (x : W4) (ex : Int) : Fits (reckon (tabOf Tryz.prog extY conWs true) 300 116 [vN n ex x b] [sam false]) (.int .i64 (IntKind.i64.wrap (ex + lenI x))) [lO x, (eqW x ⟨0, 0, 0, 0⟩, false)] := ⟨by kernel_rfl, by kernel_rfl, by kernel_rfl, by kernel_rfl⟩
def okTp (x : W4) (ex : Int) : Bool := decide (x.ok ∧ -200000 ≤ ex ∧ ex ≤ 200000)
theorem nat_zero {x : W4} (h : x.ok) : x.nat = 0 ↔ eqW x ⟨0, 0, 0, 0⟩ = true := by
  rw [eqW_iff]
  constructor
  · intro h0; rw [← ofN_self h, h0, ofN_zero]
  · intro h0; rw [h0]; rfl
theorem top_calls (n b : Bool) (x : W4) (ex : Int) (h : x.ok ∧ -200000 ≤ ex ∧ ex ≤ 200000) (w : World) : Calls Tryz.prog 116 #[vN n ex x b] w fun r w' => r = .returned (.int .i64 (topN ex x.nat)) ∧ Tidy w w' := by
  have hv : ([vN n ex x b].all (lt 0)) = true := rfl
  unfold topN
  cases he : eqW x ⟨0, 0, 0, 0⟩ with
  | true =>
    rw [if_pos ((nat_zero h.1).2 he)]
    exact fits_calls (tabY_ok conWs_ok) (tp1 n b x ex) (okL1 he) hv (by rfl) w
  | false =>
    have hz : ¬ x.nat = 0 := fun h0 => by rw [(nat_zero h.1).1 h0] at he; cases he
    have hl := len256 h.1
    have e : IntKind.i64.wrap (ex + lenI x) = ex + (bitLen x.nat : Nat) := by rw [lenI_nat, wrapI' ⟨by omega, by omega⟩]
    rw [if_neg hz, ← e]
    exact fits_calls (tabY_ok conWs_ok) (tp2 n b x ex) (okCons (decide_eq_true h.1) (okL1 he)) hv (by rfl) w
def gTp : Ans := fun vals s =>
  match vals with
  | [v] =>
    match n7 v with
    | some (_, ex, x, _) => some (.int .i64 (topN ex x.nat), s, [(okTp x ex, true)])
    | none => none
  | _ => none
theorem gTp_ok : AnsOk 116 gTp := by
  intro vals s v s' lg h hl w
  unfold gTp at h
  split at h
  · split at h
    · rename_i n ex x b hn
      cases h
      rw [n7_spec hn]
      exact top_calls n b x ex (of_decide_eq_true (hl _ (List.mem_singleton.2 rfl))) w
    · cases h
  · cases h
/-! ### inUnits -/
def lW' (x : W4) (n : Int) : Bool × Bool := (decide (x.ok ∧ -9223372036854775808 ≤ n ∧ n ≤ 9223372036854775807), true)
theorem iu1 (n b : Bool) (x : W4) (ex u : Int) : Fits (reckon (tabOf Tryz.prog extY conWs true) 300 117 [vN n ex x b, .int .i64 u] [cmp true]) (vN n u (shlW x (IntKind.i64.wrap (ex - u))) false) [lW' x (IntKind.i64.wrap (ex - u)), (decide (ex ≥ u), true)] := ⟨by kernel_rfl, by kernel_rfl, by kernel_rfl, by kernel_rfl⟩
theorem iu2 (n b : Bool) (x : W4) (ex u : Int) : Fits (reckon (tabOf Tryz.prog extY conWs true) 300 117 [vN n ex x b, .int .i64 u] [cmp false]) (vN n u (shrW x (IntKind.i64.wrap (u - ex))) (shrL x (IntKind.i64.wrap (u - ex)))) [lW' x (IntKind.i64.wrap (u - ex)), (decide (ex ≥ u), false)] := ⟨by kernel_rfl, by kernel_rfl, by kernel_rfl, by kernel_rfl⟩
def okIu (x : W4) (ex u : Int) : Bool := decide (x.ok ∧ -200000 ≤ ex ∧ ex ≤ 200000 ∧ -400000 ≤ u ∧ u ≤ 400000)
theorem iu_calls (n b : Bool) (x : W4) (ex u : Int) (h : x.ok ∧ -200000 ≤ ex ∧ ex ≤ 200000 ∧ -400000 ≤ u ∧ u ≤ 400000) (w : World) : Calls Tryz.prog 117 #[vN n ex x b, .int .i64 u] w fun r w' => r = .returned (vN n u (ofN (iuQ ex u x.nat)) (iuB ex u x.nat)) ∧ Tidy w w' := by
  have hv : ([vN n ex x b, .int .i64 u].all (lt 0)) = true := rfl
  unfold iuQ iuB
  by_cases hu : u ≤ ex
  · rw [if_pos hu, if_pos hu]
    have e : IntKind.i64.wrap (ex - u) = ex - u := wrapI' ⟨by omega, by omega⟩
    have hf := iu1 n b x ex u
    rw [e, shlW_nat h.1 (by omega)] at hf
    exact fits_calls (tabY_ok conWs_ok) hf (okCons (lok_ok h.1 (by omega) (by omega)) (okL1 (decide_eq_true hu))) hv (by rfl) w
  · rw [if_neg hu, if_neg hu]
    have e : IntKind.i64.wrap (u - ex) = u - ex := wrapI' ⟨by omega, by omega⟩
    have hf := iu2 n b x ex u
    rw [e, shrW_nat h.1 (by omega), shrL_nat h.1 (by omega)] at hf
    exact fits_calls (tabY_ok conWs_ok) hf (okCons (lok_ok h.1 (by omega) (by omega)) (okL1 (decide_eq_false hu))) hv (by rfl) w
def gIu : Ans := fun vals s =>
  match vals with
  | [v, .int .i64 u] =>
    match n7 v with
    | some (n, ex, x, _) => some (vN n u (ofN (iuQ ex u x.nat)) (iuB ex u x.nat), s, [(okIu x ex u, true)])
    | none => none
  | _ => none
theorem gIu_ok : AnsOk 117 gIu := by
  intro vals s v s' lg h hl w
  unfold gIu at h
  split at h
  · split at h
    · rename_i n ex x b hn
      cases h
      rw [n7_spec hn]
      exact iu_calls n b x ex _ (of_decide_eq_true (hl _ (List.mem_singleton.2 rfl))) w
    · cases h
  · cases h
/-! ### together -/
def lTwo (x y : W4) : Bool × Bool := (decide (x.ok ∧ y.ok), true)
theorem tg (n p a b : Bool) (x y : W4) (ex u : Int) : Fits (reckon (tabOf Tryz.prog extY conWs true) 300 118 [vN n ex x a, vN p u y b] []) (vN n ex (W4.of (x.val + y.val)) (a || b)) [lTwo x y] := by
  cases a <;> exact ⟨by kernel_rfl, by kernel_rfl, by kernel_rfl, by kernel_rfl⟩
theorem add_nat {x y : W4} (hx : x.ok) (hy : y.ok) : W4.of (x.val + y.val) = ofN (x.nat + y.nat) := by
  unfold ofN
  rw [W4.nat_val hx, W4.nat_val hy]
  congr 1
theorem sub_nat {x y : W4} (hx : x.ok) (hy : y.ok) (h : y.nat ≤ x.nat) : W4.of (x.val - y.val) = ofN (x.nat - y.nat) := by
  unfold ofN
  rw [W4.nat_val hx, W4.nat_val hy]
  congr 1
  omega
def gTg : Ans := fun vals s =>
  match vals with
  | [v, t] =>
    match n7 v with
    | some (n, ex, x, a) =>
      match n7 t with
      | some (_, _, y, b) => some (vN n ex (ofN (x.nat + y.nat)) (a || b), s, [(decide (x.ok ∧ y.ok), true)])
      | none => none
    | none => none
  | _ => none
theorem gTg_ok : AnsOk 118 gTg := by
  intro vals s v s' lg h hl w
  unfold gTg at h
  split at h
  · split at h
    · rename_i n ex x a hn
      split at h
      · rename_i p u y b hp
        cases h
        rw [n7_spec hn, n7_spec hp]
        obtain ⟨hx, hy⟩ := of_decide_eq_true (hl _ (List.mem_singleton.2 rfl))
        rw [← add_nat hx hy]
        exact fits_calls (tabY_ok conWs_ok) (tg n p a b x y ex u) (okL1 (decide_eq_true ⟨hx, hy⟩)) (by rfl) (by rfl) w
      · cases h
    · cases h
  · cases h
/-! ### apart -/
theorem ap1 (n p a : Bool) (x y : W4) (ex u : Int) : Fits (reckon (tabOf Tryz.prog extY conWs true) 300 120 [vN n ex x a, vN p u y false] []) (vN n ex (W4.of (x.val - y.val)) a) [lTwo x y] := ⟨by kernel_rfl, by kernel_rfl, by kernel_rfl, by kernel_rfl⟩
def sb4 (x y : W4) : W4 := ⟨(W4.of (x.val - y.val)).a, (W4.of (x.val - y.val)).b, (W4.of (x.val - y.val)).c, (W4.of (x.val - y.val)).d⟩
theorem sb4_eq (x y : W4) : sb4 x y = W4.of (x.val - y.val) := rfl
/-- where the region that draws its order ends -/
def apE (n p a : Bool) (x y : W4) (ex u : Int) : Lf := ([.agg { toList := [.bool n, .int .i64 ex, .int .u64 x.a, .int .u64 x.b, .int .u64 x.c, .int .u64 x.d, .bool a] }, .agg { toList := [.bool p, .int .i64 u, .int .u64 y.a, .int .u64 y.b, .int .u64 y.c, .int .u64 y.d, .bool true] }, .pointer (some { block := 0, off := 0 }), .pointer (some { block := 1, off := 0 }), .pointer (some { block := 2, off := 0 }), .tuple { toList := [.agg { toList := [.int .u64 (W4.of (x.val - y.val)).a, .int .u64 (W4.of (x.val - y.val)).b, .int .u64 (W4.of (x.val - y.val)).c, .int .u64 (W4.of (x.val - y.val)).d] }, .bool (decide (x.val < y.val))] }, .pointer (some { block := 0, off := 2 }), .agg { toList := [.int .u64 x.a, .int .u64 x.b, .int .u64 x.c, .int .u64 x.d] }, .pointer (some { block := 1, off := 2 }), .agg { toList := [.int .u64 y.a, .int .u64 y.b, .int .u64 y.c, .int .u64 y.d] }, .tuple { toList := [.agg { toList := [.int .u64 (W4.of (x.val - y.val)).a, .int .u64 (W4.of (x.val - y.val)).b, .int .u64 (W4.of (x.val - y.val)).c, .int .u64 (W4.of (x.val - y.val)).d] }, .bool (decide (x.val < y.val))] }, .agg { toList := [.int .u64 (W4.of (x.val - y.val)).a, .int .u64 (W4.of (x.val - y.val)).b, .int .u64 (W4.of (x.val - y.val)).c, .int .u64 (W4.of (x.val - y.val)).d] }, .bool (decide (x.val < y.val)), .pointer (some { block := 0, off := 2 }), .pointer (some { block := 1, off := 6 }), .bool true, .tuple { toList := [.agg { toList := [.int .u64 (W4.of ((sb4 x y).val - w1.val)).a, .int .u64 (W4.of ((sb4 x y).val - w1.val)).b, .int .u64 (W4.of ((sb4 x y).val - w1.val)).c, .int .u64 (W4.of ((sb4 x y).val - w1.val)).d] }, .bool (decide ((sb4 x y).val < w1.val))] }, .pointer (some { block := 0, off := 2 }), .agg { toList := [.int .u64 (W4.of (x.val - y.val)).a, .int .u64 (W4.of (x.val - y.val)).b, .int .u64 (W4.of (x.val - y.val)).c, .int .u64 (W4.of (x.val - y.val)).d] }, .agg { toList := [.int .u64 1, .int .u64 0, .int .u64 0, .int .u64 0] }, .tuple { toList := [.agg { toList := [.int .u64 (W4.of ((sb4 x y).val - w1.val)).a, .int .u64 (W4.of ((sb4 x y).val - w1.val)).b, .int .u64 (W4.of ((sb4 x y).val - w1.val)).c, .int .u64 (W4.of ((sb4 x y).val - w1.val)).d] }, .bool (decide ((sb4 x y).val < w1.val))] }, .agg { toList := [.int .u64 (W4.of ((sb4 x y).val - w1.val)).a, .int .u64 (W4.of ((sb4 x y).val - w1.val)).b, .int .u64 (W4.of ((sb4 x y).val - w1.val)).c, .int .u64 (W4.of ((sb4 x y).val - w1.val)).d] }, .bool (decide ((sb4 x y).val < w1.val)), .pointer (some { block := 0, off := 2 }), .tuple { toList := [] }, .tuple { toList := [] }], { n := 3, l := [([.bool false, .int .i64 0, .int .u64 0, .int .u64 0, .int .u64 0, .int .u64 0, .bool false], 161), ([.bool p, .int .i64 u, .int .u64 y.a, .int .u64 y.b, .int .u64 y.c, .int .u64 y.d, .bool true], 161), ([.bool n, .int .i64 ex, .int .u64 (W4.of ((sb4 x y).val - w1.val)).a, .int .u64 (W4.of ((sb4 x y).val - w1.val)).b, .int .u64 (W4.of ((sb4 x y).val - w1.val)).c, .int .u64 (W4.of ((sb4 x y).val - w1.val)).d, .bool a], 161)] }, [])
theorem ap2 (n p a : Bool) (x y : W4) (ex u : Int) : Fits (reckon (tabOf Tryz.prog extY conWs true) 300 120 [vN n ex x a, vN p u y true] []) (vN n ex (W4.of ((sb4 x y).val - w1.val)) true) [lTwo (sb4 x y) w1, lTwo (sb4 x y) w1, lTwo x y] :=
  ⟨by kernel_rfl, by kernel_rfl, Eq.trans (b := some [apE n p a x y ex u]) (by kernel_rfl) (by kernel_rfl), by kernel_rfl⟩
def apQ (p q : Nat) (b : Bool) : Nat := p - q - bN b
def gAp : Ans := fun vals s =>
  match vals with
  | [v, t] =>
    match n7 v with
    | some (n, ex, x, a) =>
      match n7 t with
      | some (_, _, y, b) => some (vN n ex (ofN (apQ x.nat y.nat b)) (a || b), s, [(decide (x.ok ∧ y.ok ∧ y.nat < x.nat), true)])
      | none => none
    | none => none
  | _ => none
theorem gAp_ok : AnsOk 120 gAp := by
  intro vals s v s' lg h hl w
  unfold gAp at h
  split at h
  · split at h
    · rename_i n ex x a hn
      split at h
      · rename_i p u y b hp
        cases h
        rw [n7_spec hn, n7_spec hp]
        obtain ⟨hx, hy, hlt⟩ := of_decide_eq_true (hl _ (List.mem_singleton.2 rfl))
        have hxl := W4.nat_lt hx
        have hw : w1.ok := by decide
        have h1 : w1.nat = 1 := by decide
        have e1 := sub_nat hx hy (by omega)
        have e2 : (ofN (x.nat - y.nat)).nat = x.nat - y.nat := ofN_nat (by omega)
        cases b with
        | false =>
          have e : ofN (apQ x.nat y.nat false) = W4.of (x.val - y.val) := by rw [e1]; rfl
          rw [e, Bool.or_false]
          exact fits_calls (tabY_ok conWs_ok) (ap1 n p a x y ex u) (okL1 (decide_eq_true ⟨hx, hy⟩)) (by rfl) (by rfl) w
        | true =>
          have e : ofN (apQ x.nat y.nat true) = W4.of ((sb4 x y).val - w1.val) := by
            rw [sb4_eq, e1, sub_nat (ofN_ok _) hw (by omega), e2, h1]
            rfl
          rw [e, Bool.or_true]
          exact fits_calls (tabY_ok conWs_ok) (ap2 n p a x y ex u) (okCons (decide_eq_true ⟨by rw [sb4_eq]; exact W4.ok_of _, hw⟩) (okCons (decide_eq_true ⟨by rw [sb4_eq]; exact W4.ok_of _, hw⟩) (okL1 (decide_eq_true ⟨hx, hy⟩)))) (by rfl) (by rfl) w
      · cases h
    · cases h
  · cases h
def conSu : Con := alt 115 gFt (alt 116 gTp (alt 117 gIu (alt 118 gTg (alt 120 gAp conWs))))
theorem conSu_ok : ConOk conSu := alt_ok Tryz.func115 rfl gFt_ok (alt_ok Tryz.func116 rfl gTp_ok (alt_ok Tryz.func117 rfl gIu_ok (alt_ok Tryz.func118 rfl gTg_ok (alt_ok Tryz.func120 rfl gAp_ok conWs_ok))))
end Go.Proofs.YtjkgnbdeklploaaGreatDoor
