/-
  NumSt, ShF, ShH, PatA
-/
import Derived.Test.YtgefjidphfdhdabGreatDoorG18
import Derived.WalkSmall
namespace Go.Rd
open Go.Rn Go.Pt
/-- the logarithm of a power of two, near enough -/
def lgB (t : Int) : Int := t * 78913 / 262144
def lgK (k : Nat) : Bool :=
  Nat.ble (10 ^ (lgB ((k : Int) - 1074)).toNat * 2 ^ (-((k : Int) - 1074)).toNat) (2 ^ ((k : Int) - 1074).toNat * 10 ^ (-(lgB ((k : Int) - 1074))).toNat) &&
  Nat.ble (2 ^ ((k : Int) - 1073).toNat * 10 ^ (-(lgB ((k : Int) - 1074) + 2)).toNat) (10 ^ (lgB ((k : Int) - 1074) + 2).toNat * 2 ^ (-((k : Int) - 1073)).toNat)
theorem lg_all : (List.range 2100).all lgK = true := by decide +kernel
theorem lg_ok {t : Int} (h0 : -1074 ≤ t) (h1 : t ≤ 1025) : 10 ^ (lgB t).toNat * 2 ^ (-t).toNat ≤ 2 ^ t.toNat * 10 ^ (-(lgB t)).toNat ∧ 2 ^ (t + 1).toNat * 10 ^ (-(lgB t + 2)).toNat ≤ 10 ^ (lgB t + 2).toNat * 2 ^ (-(t + 1)).toNat := by
  have h := List.all_eq_true.1 lg_all (t + 1074).toNat (List.mem_range.2 (by omega))
  unfold lgK at h
  rw [show (((t + 1074).toNat : Nat) : Int) - 1074 = t by omega, show (((t + 1074).toNat : Nat) : Int) - 1073 = t + 1 by omega, Bool.and_eq_true] at h
  exact ⟨Nat.le_of_ble_eq_true h.1, Nat.le_of_ble_eq_true h.2⟩
def lgS (S : Nat) (E : Int) : Int := lgB (E + (bitLen S : Nat) - 1)
theorem lgS_bd {S : Nat} {E : Int} (h0 : S ≠ 0) (hE : -1074 ≤ E) (hE1 : E ≤ 972) (hS : S < 9007199254740992) : (-324 ≤ lgS S E ∧ lgS S E ≤ 309) ∧ pbN E (-(lgS S E)) ≤ paN S E (-(lgS S E)) ∧ paN S E (-(lgS S E + 2)) < pbN E (-(lgS S E + 2)) := by
  have hb : bitLen S ≤ 53 := len_le (k := 53) hS
  have hb1 := len_pos h0
  obtain ⟨t, ht⟩ : ∃ t, t = E + ((bitLen S : Nat) : Int) - 1 := ⟨_, rfl⟩
  unfold lgS
  rw [← ht]
  obtain ⟨k1, k2⟩ := lg_ok (t := t) (by omega) (by omega)
  have bd : -324 ≤ lgB t ∧ lgB t ≤ 309 := by unfold lgB; omega
  obtain ⟨N, hN⟩ : ∃ N, N = lgB t := ⟨_, rfl⟩
  rw [← hN] at k1 k2 bd ⊢
  refine ⟨bd, ?_, ?_⟩
  · unfold pbN paN
    rw [show (- -N).toNat = N.toNat by omega]
    have hl := (bitLen_spec S).2 h0
    have e : 2 ^ (-E).toNat * 2 ^ t.toNat = 2 ^ (bitLen S - 1) * 2 ^ E.toNat * 2 ^ (-t).toNat := by
      rw [← Nat.pow_add, ← Nat.pow_add, ← Nat.pow_add]
      congr 1
      omega
    refine Nat.le_of_mul_le_mul_right (c := 2 ^ (-t).toNat) ?_ (Nat.pow_pos (by omega))
    have a := Nat.mul_le_mul_left (2 ^ (-E).toNat) k1
    have b := Nat.mul_le_mul_right (2 ^ E.toNat * 2 ^ (-t).toNat * 10 ^ (-N).toNat) hl
    have e1 : 2 ^ (-E).toNat * (2 ^ t.toNat * 10 ^ (-N).toNat) = 2 ^ (bitLen S - 1) * (2 ^ E.toNat * 2 ^ (-t).toNat * 10 ^ (-N).toNat) := by
      rw [← Nat.mul_assoc, e]
      ac_rfl
    have e2 : 2 ^ (-E).toNat * (10 ^ N.toNat * 2 ^ (-t).toNat) = 2 ^ (-E).toNat * 10 ^ N.toNat * 2 ^ (-t).toNat := by ac_rfl
    have e3 : S * (2 ^ E.toNat * 2 ^ (-t).toNat * 10 ^ (-N).toNat) = S * 2 ^ E.toNat * 10 ^ (-N).toNat * 2 ^ (-t).toNat := by ac_rfl
    rw [e1, e2] at a
    rw [e3] at b
    exact Nat.le_trans a b
  · unfold pbN paN
    rw [show (- -(N + 2)).toNat = (N + 2).toNat by omega]
    have hl := (bitLen_spec S).1
    have e : 2 ^ (-E).toNat * 2 ^ (t + 1).toNat = 2 ^ bitLen S * 2 ^ E.toNat * 2 ^ (-(t + 1)).toNat := by
      rw [← Nat.pow_add, ← Nat.pow_add, ← Nat.pow_add]
      congr 1
      omega
    refine Nat.lt_of_mul_lt_mul_right (a := 2 ^ (-(t + 1)).toNat) ?_
    have p1 : 0 < 2 ^ E.toNat * 2 ^ (-(t + 1)).toNat * 10 ^ (-(N + 2)).toNat := Nat.mul_pos (Nat.mul_pos (Nat.pow_pos (by omega)) (Nat.pow_pos (by omega))) (Nat.pow_pos (by omega))
    have a := Nat.mul_le_mul_left (2 ^ (-E).toNat) k2
    have b := Nat.mul_lt_mul_of_pos_right hl p1
    have e1 : 2 ^ (-E).toNat * (2 ^ (t + 1).toNat * 10 ^ (-(N + 2)).toNat) = 2 ^ bitLen S * (2 ^ E.toNat * 2 ^ (-(t + 1)).toNat * 10 ^ (-(N + 2)).toNat) := by
      rw [← Nat.mul_assoc, e]
      ac_rfl
    have e2 : 2 ^ (-E).toNat * (10 ^ (N + 2).toNat * 2 ^ (-(t + 1)).toNat) = 2 ^ (-E).toNat * 10 ^ (N + 2).toNat * 2 ^ (-(t + 1)).toNat := by ac_rfl
    have e3 : S * (2 ^ E.toNat * 2 ^ (-(t + 1)).toNat * 10 ^ (-(N + 2)).toNat) = S * 2 ^ E.toNat * 10 ^ (-(N + 2)).toNat * 2 ^ (-(t + 1)).toNat := by ac_rfl
    rw [e1, e2] at a
    rw [e3] at b
    exact Nat.lt_of_lt_of_le b a
/-- the power of ten of the last digit -/
def lsP (p : Int) : Int := lgS (sg p).toNat (xp p) - 17
theorem at_cross (S : Nat) (E j : Int) : 4 * S * ovN E j * pbN E (-j) = paN S E (-j) * unN14 E j := by
  unfold ovN pbN paN unN14
  rw [show (- -j).toNat = j.toNat by omega]
  have e : 2 ^ 2 * 2 ^ (E - 2).toNat * 2 ^ (-E).toNat = 2 ^ E.toNat * 2 ^ (2 - E).toNat := by
    rw [← Nat.pow_add, ← Nat.pow_add, ← Nat.pow_add]
    congr 1
    omega
  have l : 4 * S * (2 ^ (E - 2).toNat * 10 ^ (-j).toNat) * (2 ^ (-E).toNat * 10 ^ j.toNat) = S * (2 ^ 2 * 2 ^ (E - 2).toNat * 2 ^ (-E).toNat) * (10 ^ (-j).toNat * 10 ^ j.toNat) := by
    rw [show (4 : Nat) = 2 ^ 2 from rfl]
    ac_rfl
  rw [l, e]
  ac_rfl
theorem at_is (p j : Int) : sp14A p j = paN (sg p).toNat (xp p) (-j) / pbN (xp p) (-j) ∧ sp14M p j = decide (paN (sg p).toNat (xp p) (-j) % pbN (xp p) (-j) ≠ 0) := by
  have hb := pbN_pos (xp p) (-j)
  have hu := unN_pos (xp p) j
  obtain ⟨a, b⟩ := quo_same hu hb (at_cross (sg p).toNat (xp p) j)
  refine ⟨a, ?_⟩
  unfold sp14M sp14R
  refine decide_eq_decide.2 (not_congr ?_)
  constructor
  · intro h
    rw [h, Nat.zero_mul] at b
    exact (Nat.mul_eq_zero.1 b.symm).resolve_right (by omega)
  · intro h
    rw [h, Nat.zero_mul] at b
    exact (Nat.mul_eq_zero.1 b).resolve_right (by omega)
theorem at_bd {p : Int} (h : Fin14 p) : 10 ^ 17 ≤ sp14A p (lsP p) ∧ sp14A p (lsP p) < 10 ^ 19 ∧ -400 ≤ lsP p ∧ lsP p ≤ 300 := by
  obtain ⟨bd, h1, h2⟩ := lgS_bd h.ne h.e0 h.e1 h.s1
  have hb := pbN_pos (xp p) (-(lsP p))
  have a := part_ge (a := 1) 17 (by rw [Nat.one_mul]; exact h1)
  have b := part_lt (a := 1) 19 (by rw [Nat.one_mul]; exact h2)
  have e1 : -(lgS (sg p).toNat (xp p)) + ((17 : Nat) : Int) = -(lsP p) := by unfold lsP; omega
  have e2 : -(lgS (sg p).toNat (xp p) + 2) + ((19 : Nat) : Int) = -(lsP p) := by unfold lsP; omega
  rw [e1, Nat.one_mul] at a
  rw [e2, Nat.one_mul] at b
  rw [(at_is p (lsP p)).1]
  exact ⟨(Nat.le_div_iff_mul_le hb).2 a, (Nat.div_lt_iff_lt_mul hb).2 b, by unfold lsP; omega, by unfold lsP; omega⟩
/-- how many digits it has -/
def atL (p : Int) : Nat := if sp14A p (lsP p) < 10 ^ 18 then 18 else 19
theorem atL_bd {p : Int} (h : Fin14 p) : (18 ≤ atL p ∧ atL p ≤ 19) ∧ 10 ^ (atL p - 1) ≤ sp14A p (lsP p) ∧ sp14A p (lsP p) < 10 ^ atL p := by
  obtain ⟨a, b, _⟩ := at_bd h
  unfold atL
  split
  · rename_i c
    exact ⟨by omega, a, c⟩
  · rename_i c
    exact ⟨by omega, Nat.le_of_not_lt c, b⟩
theorem at_first {p : Int} (h : Fin14 p) : frP p = lsP p + (atL p : Nat) - 1 := by
  obtain ⟨⟨l1, l2⟩, a, b⟩ := atL_bd h
  have hb := pbN_pos (xp p) (-(lsP p))
  rw [(at_is p (lsP p)).1] at a b
  have a := (Nat.le_div_iff_mul_le hb).1 a
  have b := (Nat.div_lt_iff_lt_mul hb).1 b
  refine first_one (frP_is h).1 ⟨?_, ?_⟩
  · rcases Nat.lt_or_ge (paN (sg p).toNat (xp p) (-(lsP p + (atL p : Nat) - 1))) (pbN (xp p) (-(lsP p + (atL p : Nat) - 1))) with c | c
    · have d := part_lt (a := 1) (atL p - 1) (by rw [Nat.one_mul]; exact c)
      rw [Nat.one_mul, show -(lsP p + (atL p : Nat) - 1) + ((atL p - 1 : Nat) : Int) = -(lsP p) by omega] at d
      omega
    · exact c
  · rcases Nat.lt_or_ge (paN (sg p).toNat (xp p) (-(lsP p + (atL p : Nat) - 1 + 1))) (pbN (xp p) (-(lsP p + (atL p : Nat) - 1 + 1))) with c | c
    · exact c
    · have d := part_ge (a := 1) (atL p) (by rw [Nat.one_mul]; exact c)
      rw [Nat.one_mul, show -(lsP p + (atL p : Nat) - 1 + 1) + (atL p : Int) = -(lsP p) by omega] at d
      omega
/-- whether the next one up is the nearer one -/
def nrU (a : Nat) (m : Bool) (u : Nat) : Bool := decide (u / 2 < a % u) || (decide (a % u = u / 2) && (m || decide (a / u % 2 = 1)))
section
variable {p : Int} {n : Nat}
theorem q_at (h : Fin14 p) (h2 : n ≤ 18) : qD (sg p).toNat (xp p) (frP p) n = sp14A p (lsP p) / 10 ^ (atL p - n) ∧ rD14 (sg p).toNat (xp p) (frP p) n * (pbN (xp p) (-(lsP p)) * 10 ^ (atL p - n)) = paN (sg p).toNat (xp p) (-(lsP p)) % (pbN (xp p) (-(lsP p)) * 10 ^ (atL p - n)) * pbN (xp p) ((n : Int) - 1 - frP p) := by
  have hf := at_first h
  obtain ⟨⟨l1, l2⟩, _⟩ := atL_bd h
  have hb := pbN_pos (xp p) (-(lsP p))
  have hb2 := pbN_pos (xp p) ((n : Int) - 1 - frP p)
  have hs := part_shift (sg p).toNat (xp p) ((n : Int) - 1 - frP p) (atL p - n)
  rw [show (n : Int) - 1 - frP p + ((atL p - n : Nat) : Int) = -(lsP p) by omega] at hs
  have := quo_same (a := paN (sg p).toNat (xp p) ((n : Int) - 1 - frP p)) (b := pbN (xp p) ((n : Int) - 1 - frP p)) (c := paN (sg p).toNat (xp p) (-(lsP p))) (d := pbN (xp p) (-(lsP p)) * 10 ^ (atL p - n)) hb2 (Nat.mul_pos hb (Nat.pow_pos (by omega))) (by rw [hs]; ac_rfl)
  unfold qD rD14
  rw [(at_is p (lsP p)).1, Nat.div_div_eq_div_mul]
  exact this
/-- nearness, either way -/
theorem near_is (h : Fin14 p) (h2 : n ≤ 17) : (decide (2 * rD14 (sg p).toNat (xp p) (frP p) n < pbN (xp p) ((n : Int) - 1 - frP p)) || (decide (2 * rD14 (sg p).toNat (xp p) (frP p) n = pbN (xp p) ((n : Int) - 1 - frP p)) && decide (qD (sg p).toNat (xp p) (frP p) n % 2 = 0))) = !nrU (sp14A p (lsP p)) (sp14M p (lsP p)) (10 ^ (atL p - n)) := by
  obtain ⟨⟨l1, l2⟩, _⟩ := atL_bd h
  obtain ⟨k1, k2⟩ := q_at h (n := n) (by omega)
  obtain ⟨a1, a2⟩ := at_is p (lsP p)
  have hb := pbN_pos (xp p) (-(lsP p))
  have hb2 := pbN_pos (xp p) ((n : Int) - 1 - frP p)
  have hev : 10 ^ (atL p - n) = 2 * (5 * 10 ^ (atL p - n - 1)) := by
    have : 10 ^ (atL p - n) = 10 ^ (atL p - n - 1) * 10 := by rw [← Nat.pow_succ]; congr 1; omega
    omega
  unfold nrU
  rw [k1, a2, a1]
  obtain ⟨A, hA⟩ : ∃ A, A = paN (sg p).toNat (xp p) (-(lsP p)) := ⟨_, rfl⟩
  obtain ⟨B, hB⟩ : ∃ B, B = pbN (xp p) (-(lsP p)) := ⟨_, rfl⟩
  obtain ⟨u, hu⟩ : ∃ u, u = 10 ^ (atL p - n) := ⟨_, rfl⟩
  obtain ⟨r, hr⟩ : ∃ r, r = rD14 (sg p).toNat (xp p) (frP p) n := ⟨_, rfl⟩
  obtain ⟨b, hb0⟩ : ∃ b, b = pbN (xp p) ((n : Int) - 1 - frP p) := ⟨_, rfl⟩
  obtain ⟨v, hv⟩ : ∃ v, v = 5 * 10 ^ (atL p - n - 1) := ⟨_, rfl⟩
  have hu0 : 0 < u := by rw [hu]; exact Nat.pow_pos (by omega)
  rw [← hA, ← hB, ← hu, ← hr, ← hb0] at k2
  rw [← hA, ← hB, ← hu, ← hr, ← hb0]
  rw [← hB] at hb
  rw [← hb0] at hb2
  rw [← hu, ← hv] at hev
  -- the rest in units
  have em : A % (B * u) = A % B + B * (A / B % u) := Nat.mod_mul
  obtain ⟨s, hs⟩ : ∃ s, s = A / B % u := ⟨_, rfl⟩
  obtain ⟨z, hz⟩ : ∃ z, z = A % B := ⟨_, rfl⟩
  have hzl : z < B := by rw [hz]; exact Nat.mod_lt _ hb
  rw [← hs, ← hz] at em
  rw [em] at k2
  rw [← hs, ← hz]
  have hBu : 0 < B * u := Nat.mul_pos hb hu0
  have c1 : 2 * r < b ↔ 2 * (z + B * s) < B * u := by
    rw [← Nat.mul_lt_mul_right hBu, Nat.mul_assoc, k2, ← Nat.mul_assoc, Nat.mul_comm b, Nat.mul_lt_mul_right hb2]
  have c2 : 2 * r = b ↔ 2 * (z + B * s) = B * u := by
    constructor
    · intro e
      refine Nat.eq_of_mul_eq_mul_right hb2 ?_
      rw [Nat.mul_assoc, ← k2, ← Nat.mul_assoc, e, Nat.mul_comm]
    · intro e
      refine Nat.eq_of_mul_eq_mul_right hBu ?_
      rw [Nat.mul_assoc, k2, ← Nat.mul_assoc, e, Nat.mul_comm]
  have d1 : decide (2 * r < b) = decide (2 * (z + B * s) < B * u) := decide_eq_decide.2 c1
  have d2 : decide (2 * r = b) = decide (2 * (z + B * s) = B * u) := decide_eq_decide.2 c2
  rw [d1, d2, show u / 2 = v by omega, hev]
  have eB : B * (2 * v) = 2 * (B * v) := by ac_rfl
  rw [eB]
  rcases Nat.lt_trichotomy s v with h1 | h1 | h1
  · have := Nat.mul_le_mul_left B (show s + 1 ≤ v by omega)
    rw [Nat.mul_add, Nat.mul_one] at this
    rw [decide_eq_true (show 2 * (z + B * s) < 2 * (B * v) by omega), decide_eq_false (show ¬ v < s by omega), decide_eq_false (show ¬ s = v by omega)]
    rfl
  · subst h1
    rw [decide_eq_false (show ¬ s < s by omega), decide_eq_true (show s = s from rfl)]
    by_cases hz0 : z = 0
    · rw [decide_eq_false (show ¬ 2 * (z + B * s) < 2 * (B * s) by omega), decide_eq_true (show 2 * (z + B * s) = 2 * (B * s) by omega), decide_eq_false (show ¬ z ≠ 0 from fun c => c hz0)]
      rcases Nat.mod_two_eq_zero_or_one (A / B / (2 * s)) with c | c
      · rw [c]; rfl
      · rw [c]; rfl
    · rw [decide_eq_false (show ¬ 2 * (z + B * s) < 2 * (B * s) by omega), decide_eq_false (show ¬ 2 * (z + B * s) = 2 * (B * s) by omega), decide_eq_true (show z ≠ 0 from hz0)]
      rfl
  · have := Nat.mul_le_mul_left B (show v + 1 ≤ s by omega)
    rw [Nat.mul_add, Nat.mul_one] at this
    rw [decide_eq_false (show ¬ 2 * (z + B * s) < 2 * (B * v) by omega), decide_eq_false (show ¬ 2 * (z + B * s) = 2 * (B * v) by omega), decide_eq_true (show v < s from h1)]
    rfl
/-- the two numbers of n digits about the pattern -/
def lo14V (p : Int) (n : Nat) : Nat := sp14A p (lsP p) / 10 ^ (atL p - n) * 10 ^ (atL p - n)
def hi14V (p : Int) (n : Nat) : Nat := (sp14A p (lsP p) / 10 ^ (atL p - n) + 1) * 10 ^ (atL p - n)
theorem lo_has (h : Fin14 p) (h1 : 1 ≤ n) (h2 : n ≤ 18) : inSp p (lsP p) (lo14V p n) = loB false (mag p) (sg p).toNat (xp p) (frP p) n := by
  obtain ⟨⟨l1, l2⟩, _⟩ := atL_bd h
  have hf := at_first h
  have hq := (qD_bd (frP_is h).1 h1).1
  have hp : 0 < 10 ^ (n - 1) := Nat.pow_pos (by omega)
  have k1 := (q_at h (n := n) h2).1
  have hq0 : sp14A p (lsP p) / 10 ^ (atL p - n) ≠ 0 := by rw [← k1]; omega
  have ds := (de_shift 0 false hq0 (atL p - n) (frP p - ((n : Int) - 1))).1
  rw [show frP p - ((n : Int) - 1) - ((atL p - n : Nat) : Int) = lsP p by omega] at ds
  unfold loB lo14V
  rw [← de_span false h (mul_ne hq0 (ten_ne _)), ds, k1]
theorem hi_has (h : Fin14 p) (h2 : n ≤ 18) : inSp p (lsP p) (hi14V p n) = hiB false (mag p) (sg p).toNat (xp p) (frP p) n := by
  obtain ⟨⟨l1, l2⟩, _⟩ := atL_bd h
  have hf := at_first h
  have k1 := (q_at h (n := n) h2).1
  have hq0 : sp14A p (lsP p) / 10 ^ (atL p - n) + 1 ≠ 0 := by omega
  have ds := (de_shift 0 false hq0 (atL p - n) (frP p - ((n : Int) - 1))).1
  rw [show frP p - ((n : Int) - 1) - ((atL p - n : Nat) : Int) = lsP p by omega] at ds
  unfold hiB hi14V
  rw [← de_span false h (mul_ne hq0 (ten_ne _)), ds, k1]
/-- where the search ends -/
theorem srch_end (h : Fin14 p) (h1 : 1 ≤ n) (h2 : n ≤ nP p) : (inSp p (lsP p) (lo14V p n) = true ∨ inSp p (lsP p) (hi14V p n) = true) ↔ n = nP p := by
  obtain ⟨_, b, c, d⟩ := short_is h
  rw [lo_has h h1 (by omega), hi_has h (by omega)]
  constructor
  · intro e
    rcases Nat.lt_or_ge n (nP p) with l | l
    · obtain ⟨x, y⟩ := d n h1 l
      rcases e with e | e
      · rw [x] at e; cases e
      · rw [y] at e; cases e
    · omega
  · intro e
    rw [e]
    exact c
end
/-- the number that is found -/
def shV (p : Int) : Nat := if loK false (mag p) (sg p).toNat (xp p) (frP p) (nP p) = true then lo14V p (nP p) else hi14V p (nP p)
/-- it is the nearer one, where that is read as the pattern, else the other one -/
theorem shV_is {p : Int} (h : Fin14 p) : shV p = if nrU (sp14A p (lsP p)) (sp14M p (lsP p)) (10 ^ (atL p - nP p)) = true then (if inSp p (lsP p) (hi14V p (nP p)) = true then hi14V p (nP p) else lo14V p (nP p)) else (if inSp p (lsP p) (lo14V p (nP p)) = true then lo14V p (nP p) else hi14V p (nP p)) := by
  obtain ⟨_, b, c, d⟩ := short_is h
  have hn := near_is h (n := nP p) b.2
  unfold shV loK
  rw [Bool.or_assoc, hn, lo_has h b.1 (by omega), hi_has h (by omega)]
  clear hn d
  generalize lo14V p (nP p) = lo
  generalize hi14V p (nP p) = hi
  generalize nrU (sp14A p (lsP p)) (sp14M p (lsP p)) (10 ^ (atL p - nP p)) = nu
  cases hl : loB false (mag p) (sg p).toNat (xp p) (frP p) (nP p) <;> cases hh : hiB false (mag p) (sg p).toNat (xp p) (frP p) (nP p) <;> cases nu <;> first | rfl | (rw [hl, hh] at c; rcases c with c | c <;> cases c)
/-! ### its digits -/
theorem decF_more {n f g : Nat} (h : n < 10 ^ f) (hf : 1 ≤ f) (hg : f ≤ g) : decF g n = decF f n := by
  induction f generalizing n g with
  | zero => omega
  | succ f ih =>
    obtain ⟨g, rfl⟩ : ∃ g', g = g' + 1 := ⟨g - 1, by omega⟩
    unfold decF
    by_cases h10 : n < 10
    · rw [if_pos h10, if_pos h10]
    · have hf0 : f ≠ 0 := fun c => by subst c; simp at h; omega
      rw [if_neg h10, if_neg h10, ih (n := n / 10) (by rw [Nat.pow_succ] at h; omega) (by omega) (by omega)]
theorem trR_pad (l : List UInt8) (c : Nat) : trR (l ++ List.replicate c 48) = trR l := by
  induction c with
  | zero => rw [List.replicate_zero, List.append_nil]
  | succ c ih =>
    rw [List.replicate_succ', ← List.append_assoc, trR_snoc, if_pos (by decide), ih]
theorem trR_keep {k n : Nat} (hk : 1 ≤ k) (h : n % 10 ≠ 0) : trR (fx k n) = fx k n := by
  obtain ⟨k, rfl⟩ : ∃ k', k = k' + 1 := ⟨k - 1, by omega⟩
  have e : fx (k + 1) n = fx k (n / 10) ++ [chD (n % 10)] := rfl
  rw [e, trR_snoc, if_neg (fun c => h ((chD_48 (by omega)).mp c))]
/-- digits with noughts behind, as letters, without these -/
theorem dcl_pad {n c v : Nat} (h0 : 1 ≤ n) (hc : n + c ≤ 20) (h1 : 10 ^ (n - 1) ≤ v) (h2 : v < 10 ^ n) (h3 : v % 10 ≠ 0) : trR (dcL (v * 10 ^ c)) = decF n v ∧ (dcL (v * 10 ^ c)).length = n + c := by
  have a1 : 10 ^ (n + c - 1) ≤ v * 10 ^ c := by
    rw [show n + c - 1 = n - 1 + c by omega, Nat.pow_add]
    exact Nat.mul_le_mul_right _ h1
  have a2 : v * 10 ^ c < 10 ^ (n + c) := by
    rw [Nat.pow_add]
    exact Nat.mul_lt_mul_of_pos_right h2 (Nat.pow_pos (by omega))
  have e : dcL (v * 10 ^ c) = fx n v ++ List.replicate c 48 := by
    unfold dcL
    rw [decF_more a2 (by omega) hc, ← fx_dec (by omega) a1 a2, fx_pad]
  rw [e, trR_pad, trR_keep h0 h3, fx_dec h0 h1 h2]
  refine ⟨rfl, ?_⟩
  rw [List.length_append, List.length_replicate, ← fx_dec h0 h1 h2, fx_len]
theorem shV_text {p : Int} (h : Fin14 p) : txL (decide (9223372036854775808 ≤ p)) (trR (dcL (shV p))) (lsP p + ((dcL (shV p)).length : Nat) - 1) = shS p := by
  obtain ⟨e, b, c, d⟩ := short_is h
  obtain ⟨⟨l1, l2⟩, _⟩ := atL_bd h
  have hf := at_first h
  obtain ⟨q1, q2⟩ := qD_bd (frP_is h).1 b.1
  have k1 := (q_at h (n := nP p) (by omega)).1
  obtain ⟨mn, hmn⟩ : ∃ mn, mn = decide (9223372036854775808 ≤ p) := ⟨_, rfl⟩
  rw [e, ← hmn]
  unfold shO shV
  rw [loK_sign mn false]
  -- a digit fewer is read as something else
  have fewer : 1 < nP p → qD (sg p).toNat (xp p) (frP p) (nP p - 1) = qD (sg p).toNat (xp p) (frP p) (nP p) / 10 ∧ loB false (mag p) (sg p).toNat (xp p) (frP p) (nP p - 1) = false ∧ hiB false (mag p) (sg p).toNat (xp p) (frP p) (nP p - 1) = false := fun hn => by
    obtain ⟨x, y⟩ := d (nP p - 1) (by omega) (by omega)
    refine ⟨?_, x, y⟩
    rw [k1, (q_at h (n := nP p - 1) (by omega)).1, Nat.div_div_eq_div_mul, ← Nat.pow_succ]
    congr 2
    omega
  have hp : 0 < 10 ^ (nP p - 1) := Nat.pow_pos (by omega)
  obtain ⟨n, hn⟩ : ∃ n, n = nP p := ⟨_, rfl⟩
  rw [← hn] at b q1 q2 k1 fewer c hp ⊢
  obtain ⟨q, hq⟩ : ∃ q, q = qD (sg p).toNat (xp p) (frP p) n := ⟨_, rfl⟩
  unfold lo14V hi14V hiX
  rw [← k1, ← hq]
  clear k1 e d
  obtain ⟨l, hl⟩ : ∃ l, l = atL p := ⟨_, rfl⟩
  obtain ⟨j, hj⟩ : ∃ j, j = lsP p := ⟨_, rfl⟩
  obtain ⟨f, hf0⟩ : ∃ f, f = frP p := ⟨_, rfl⟩
  rw [← hf0, ← hj, ← hl] at hf
  rw [← hl] at l1 l2
  rw [← hf0] at fewer c hq q1 q2
  rw [← hf0, ← hj, ← hl]
  clear hl hj hf0 hn
  split
  · rename_i hk
    have hlo := lo_of_K hk
    have h10 : q % 10 ≠ 0 := by
      intro c0
      by_cases h1 : n = 1
      · rw [h1] at q1 q2 hq
        rw [← hq] at q1 q2
        simp at q1 q2
        omega
      · obtain ⟨f1, f2, _⟩ := fewer (by omega)
        rw [← hq] at f1
        have hq1 : q / 10 ≠ 0 := by
          have : 10 ^ (n - 1) = 10 ^ (n - 2) * 10 := by rw [← Nat.pow_succ]; congr 1; omega
          have : 0 < 10 ^ (n - 2) := Nat.pow_pos (by omega)
          omega
        have ds := (de_shift 0 false hq1 1 (f - (((n - 1 : Nat) : Int) - 1))).1
        rw [Nat.pow_one, show q / 10 * 10 = q by omega, show f - (((n - 1 : Nat) : Int) - 1) - ((1 : Nat) : Int) = f - ((n : Int) - 1) by omega] at ds
        unfold loB at f2 hlo
        rw [f1, ← ds] at f2
        rw [← hq, f2] at hlo
        cases hlo
    rw [← hq] at q1 q2
    obtain ⟨t1, t2⟩ := dcl_pad (c := l - n) b.1 (by omega) q1 q2 h10
    rw [t1, t2, show j + ((n + (l - n) : Nat) : Int) - 1 = f by omega]
  · rename_i hk
    have hhi : hiB false (mag p) (sg p).toNat (xp p) (f) n = true := by
      rcases c with c | c
      · cases hh : hiB false (mag p) (sg p).toNat (xp p) (f) n with
        | true => rfl
        | false => exact absurd (K_of_lo c hh) hk
      · exact c
    have h10 : 1 < n → (q + 1) % 10 ≠ 0 := by
      intro h1 c0
      obtain ⟨f1, _, f2⟩ := fewer (by omega)
      rw [← hq] at f1
      have ds := (de_shift 0 false (show q / 10 + 1 ≠ 0 by omega) 1 (f - (((n - 1 : Nat) : Int) - 1))).1
      rw [Nat.pow_one, show (q / 10 + 1) * 10 = q + 1 by omega, show f - (((n - 1 : Nat) : Int) - 1) - ((1 : Nat) : Int) = f - ((n : Int) - 1) by omega] at ds
      unfold hiB at f2 hhi
      rw [f1, ← ds] at f2
      rw [← hq, f2] at hhi
      cases hhi
    rw [← hq] at q1 q2
    by_cases hc : q + 1 = 10 ^ n
    · rw [if_pos hc]
      have h1 : n = 1 := by
        rcases Nat.lt_or_ge 1 n with c0 | c0
        · refine absurd ?_ (h10 c0)
          rw [hc, show n = n - 1 + 1 by omega, Nat.pow_succ]
          omega
        · omega
      rw [hc, h1, show 10 ^ 1 * 10 ^ (l - 1) = 1 * 10 ^ l by rw [← Nat.pow_add, Nat.one_mul]; congr 1; omega]
      obtain ⟨t1, t2⟩ := dcl_pad (n := 1) (c := l) (v := 1) (by omega) (by omega) (by decide) (by decide) (by decide)
      rw [t1, t2, show j + ((1 + l : Nat) : Int) - 1 = f + 1 by omega]
    · rw [if_neg hc]
      have h10' : (q + 1) % 10 ≠ 0 := by
        by_cases h1 : n = 1
        · rw [h1] at q1 q2 hc
          simp at q1 q2 hc
          omega
        · exact h10 (by omega)
      obtain ⟨t1, t2⟩ := dcl_pad (c := l - n) b.1 (by omega) (show 10 ^ (n - 1) ≤ q + 1 by omega) (by omega) h10'
      rw [t1, t2, show j + ((n + (l - n) : Nat) : Int) - 1 = f by omega]
end Go.Rd
namespace Go.Proofs.YtgefjidphfdhdabGreatDoor
open Go.KRun Go.Rd Go.RowKit
set_option maxRecDepth 100000
/-! ### the table -/
def pwV : List Value := Lib.pow10Tab.map fun z => Value.int .u64 z
def pwT : TypeId := 3 * dead + (1048576 * 20 + 1)
def knT (w : World) : Prop := ∃ t z, w.heap[1]? = some (.cells pwV.toArray t z)
theorem tabIs_of {w : World} (h : knT w) {nm : String} (hn : Tryz.prog.globalNamed nm = some 1) : Lib.TabIs Tryz.prog w nm .u64 Lib.pow10Tab := by
  obtain ⟨t, z, h⟩ := h
  unfold Lib.TabIs World.var?
  rw [hn]
  simp only [Option.bind_some]
  rw [h]
  rfl
def eqW14 : List Value → List Int → Bool
  | [], [] => true
  | .int .u64 a :: r, b :: q => decide (a = b) && eqW14 r q
  | _, _ => false
theorem eqW14_is : ∀ {l : List Value} {q : List Int}, eqW14 l q = true → l = q.map fun z => Value.int .u64 z
  | [], [], _ => rfl
  | .int .u64 a :: r, b :: q, h => by
    unfold eqW14 at h
    rw [Bool.and_eq_true, decide_eq_true_eq] at h
    rw [List.map_cons, h.1, eqW14_is h.2]
def isT : Option (List Value × TypeId) → Bool
  | some (cs, ty) => Nat.beq ty pwT && eqW14 cs Lib.pow10Tab
  | none => false
def hasT (h : Hp) : Bool := isT (h.blk? 0) || isT (h.blk? 1)
theorem isT_is {o : Option (List Value × TypeId)} (h : isT o = true) : o = some (pwV, pwT) := by
  unfold isT at h
  split at h
  · rw [Bool.and_eq_true] at h
    rw [Nat.eq_of_beq_eq_true h.1, eqW14_is h.2]
    rfl
  · cases h
theorem pw_still (m : Mp) : pwV.map (mv1 m) = pwV := rfl
theorem knT_of {m : Mp} {B : Nat} {h : Hp} {w : World} (E : Emb m B h w) (ht : hasT h = true) : knT w := by
  obtain ⟨b, hb⟩ : ∃ b, h.blk? b = some (pwV, pwT) := by
    unfold hasT at ht
    rw [Bool.or_eq_true] at ht
    rcases ht with ht | ht
    · exact ⟨0, isT_is ht⟩
    · exact ⟨1, isT_is ht⟩
  obtain ⟨_, r, t, z, k2, k3⟩ := E.abs b _ hb (by kernel_rfl)
  have e1 : nbA pwT = 1 := by kernel_rfl
  have e2 : lnA pwT = 20 := by kernel_rfl
  simp only [pw_still, e1] at k2
  simp only [pw_still, e2] at k3
  have e3 : pwV.length = 20 := rfl
  have hr : r = [] := List.length_eq_zero_iff.1 (by omega)
  rw [hr, List.append_nil] at k2
  exact ⟨t, z, k2⟩
/-- what is known of a call where the table is -/
def AnsTOk (f : Nat) (g : Ans) : Prop := ∀ vals s v s' lg, g vals s = some (v, s', lg) → okLog lg → ∀ w, knT w → Calls Tryz.prog f vals.toArray w fun e w' => e = .returned v ∧ Tidy w w'
def gT (g : Ans) : AnsH := fun vals h s =>
  match hasT h && vals.all (lt 0) with
  | true =>
    match g vals s with
    | some (v, s', lg) => match lt 0 v with | true => some (v, h, s', lg) | false => none
    | none => none
  | false => none
theorem gT_ok {f : Nat} {g : Ans} (hg : AnsTOk f g) : AnsHOk f (gT g) := by
  intro vals h s v h' s' lg hr hl m B w E hv
  unfold gT at hr
  split at hr
  · rename_i hc
    rw [Bool.and_eq_true] at hc
    split at hr
    · rename_i v1 s1 lg1 hgv
      split at hr
      · rename_i hv0
        cases hr
        have hst : ∀ y ∈ vals, lt 0 y = true := List.all_eq_true.1 hc.2
        have e : vals.map (mv m) = vals := (List.map_congr_left fun y hy => mv_still (hst y hy)).trans (List.map_id' _)
        rw [e]
        refine (hg _ _ _ _ _ hgv hl w (knT_of E hc.1)).mono fun e w' he => ?_
        obtain ⟨E', hb'⟩ := clean_emb E he.2
        exact ⟨m, by rw [he.1, mv_still hv0], ⟨Agree.refl _ _, E', hb', Nat.le_refl _, lt_mono (Nat.zero_le _) hv0⟩⟩
      · cases hr
    · cases hr
  · cases hr
def hT0 : Hp := ⟨1, [(pwV, pwT)]⟩
theorem blk14a {b : Nat} {x : List Value × TypeId} (h : hT0.blk? b = some x) : x = (pwV, pwT) := by
  have hb0 : b = 0 := by have : b < 1 := Hp.blk_lt h; omega
  subst hb0
  exact (Option.some.inj h).symm
theorem absT {w : World} (hk : knT w) (m : Mp) : nbA pwT < w.heap.size ∧ absR w (pwV.map (mv1 m)) pwT := by
  obtain ⟨t, z, h⟩ := hk
  have e1 : nbA pwT = 1 := by kernel_rfl
  have e2 : lnA pwT = 20 := by kernel_rfl
  refine ⟨by rw [e1]; exact (Array.getElem?_eq_some_iff.1 h).1, [], t, z, ?_, .inr ?_⟩
  · rw [e1, pw_still, List.append_nil, h]
  · rw [e2]; rfl
theorem startT {w : World} (hk : knT w) : Emb (fun b => (b, 0)) w.heap.size hT0 w where
  len := rfl
  lies := fun b x hb hx => by rw [blk14a hb, show tomb pwT = true from by kernel_rfl] at hx; cases hx
  low := fun b x hb hx => by rw [blk14a hb, show ro pwT = true from by kernel_rfl] at hx; cases hx
  ros := fun b x hb hx => by rw [blk14a hb, show tomb pwT = true from by kernel_rfl] at hx; cases hx
  inj := fun b b' x x' hb _ hx => by rw [blk14a hb, show ro pwT = true from by kernel_rfl] at hx; cases hx
  wf := fun b x hb v hv => by
    rw [blk14a hb] at hv
    have : ∀ v ∈ pwV, lt1 1 v = true := List.all_eq_true.1 (by kernel_rfl)
    exact this v hv
  base := Nat.le_refl _
  ice := fun k h1 h2 => by omega
  abs := fun b x hb _ => by
    rw [blk14a hb]
    exact absT hk _
theorem fitsT {T : Tab} (hT : TabOk T) {n f : Nat} {vals : List Value} {s : List Dec} {v : Value} {cs : Log} (hF : Fits (reckonAt T hT0 n f vals s) v cs) (hcs : okLog cs) (hvals : (vals.all (lt 0)) = true) (hv : lt 0 v = true) {w : World} (hk : knT w) :
    Calls T.P f vals.toArray w fun e w' => e = .returned v ∧ Tidy w w' := fitsAt_still hT hF hcs hvals hv (startT hk)
/-! ### numbers as texts -/
theorem dec_dcF : ∀ {f u : Nat}, u < 10 ^ (f + 1) → Lib.decDigits u = decF (f + 1) u
  | 0, u, h => by
    have h10 : u < 10 := by simpa using h
    rw [Lib.decDigits_one h10]
    unfold decF
    rw [if_pos h10]
    rfl
  | f + 1, u, h => by
    unfold decF
    by_cases h10 : u < 10
    · rw [if_pos h10, Lib.decDigits_one h10]
      rfl
    · rw [if_neg h10, Lib.decDigits, dif_neg h10, dec_dcF (f := f) (by rw [Nat.pow_succ] at h; omega)]
      rfl
theorem dec_dcL {u : Nat} (h : u < 18446744073709551616) : Lib.decDigits u = dcL u := dec_dcF (f := 19) (dcL_lt h)
theorem itoa_exp {n : Int} (h : n.natAbs < 18446744073709551616) : Lib.itoa n = expL n := by
  unfold Lib.itoa expL
  split
  · rw [dec_dcL h]
  · rw [show n.toNat = n.natAbs by omega, dec_dcL h]
theorem tidy_below {w w' : World} (h : Below w.heap.size w w') : Tidy w w' := ⟨h, fun _ _ _ => trivial⟩
theorem below_grow14 (w : World) (k : Nat) (os : Array Obj) : Below w.heap.size w (Go.Sort.grow (w.drewN k) os) := by
  refine ⟨rfl, rfl, rfl, ?_, fun j hj => ?_⟩
  · show w.heap.size ≤ (w.heap ++ os).size
    rw [Array.size_append]
    omega
  · show (w.heap ++ os)[j]? = w.heap[j]?
    rw [Array.getElem?_append_left hj]
theorem itoa_calls (n : Int) (h : n.natAbs ≤ 2000000) (w : World) (hk : knT w) : Calls Tryz.prog 23 #[.int .i64 n] w fun e w' => e = .returned (bR (expL n)) ∧ Tidy w w' := by
  refine (Any.strconv_Itoa laysM171 n (by omega) (by omega) w (tabIs_of hk (by kernel_rfl))).mono fun e w' he => ?_
  obtain ⟨he, k, os, rfl⟩ := he
  refine ⟨?_, tidy_below (below_grow14 w k os)⟩
  rw [he, itoa_exp (by omega)]
  rfl
def gIto : Ans := fun vals s =>
  match vals with
  | [.int .i64 n] => some (bR (expL n), s, [(decide (n.natAbs ≤ 2000000), true)])
  | _ => none
theorem gIto_ok : AnsTOk 23 gIto := by
  intro vals s v s' lg h hl w hk
  unfold gIto at h
  split at h
  · cases h
    exact itoa_calls _ (of_decide_eq_true (hl _ (List.mem_singleton.2 rfl))) w hk
  · cases h
end Go.Proofs.YtgefjidphfdhdabGreatDoor
namespace Go.Proofs.YtgefjidphfdhdabGreatDoor
open Go.KRun Go.Nt Go.Rd
set_option maxRecDepth 100000
/-! ### letters taken off at the end -/
theorem trc_loop (c : Int) (L : List UInt8) (n : Nat) (x : Lf) (h : ∃ (l : List UInt8) (g : Nat → Value), x.1 = trF l c ++ tl 18 g ∧ x.2.1 = ⟨0, []⟩ ∧ trC c l = trC c L ∧ l.length ≤ 100000 ∧ n = l.length) : Runs (tabOf Tryz.prog extY conN true) (trLp Tryz.f69) x fun e y => match e with | none => ∃ n', n' < n ∧ ∃ (l : List UInt8) (g : Nat → Value), y.1 = trF l c ++ tl 18 g ∧ y.2.1 = ⟨0, []⟩ ∧ trC c l = trC c L ∧ l.length ≤ 100000 ∧ n' = l.length | some none => False | some (some id') => id' = 0 ∧ ∃ g : Nat → Value, y.1 = trF (trC c L) c ++ tl 18 g ∧ y.2.1 = ⟨0, []⟩ := by
  obtain ⟨l, g, e1, e2, h1, h3, h2⟩ := h
  obtain ⟨t, hh, s⟩ := x
  have e1 : t = _ := e1
  have e2 : hh = _ := e2
  subst e1 e2
  have T := tabY_ok conN_ok
  by_cases hn : l = []
  · subst hn
    refine (goesT_runs T (tr_nil [] c g) (okL1 (by decide))).mono fun e z he => ?_
    obtain ⟨rfl, ⟨g', z1⟩, z2⟩ := he
    have : trC c L = [] := h1.symm
    rw [this]
    exact ⟨rfl, g', z1, z2⟩
  · obtain ⟨l', x, hl⟩ : ∃ l' x, l = l' ++ [x] := ⟨l.dropLast, l.getLast hn, (List.dropLast_concat_getLast hn).symm⟩
    have hlen : l.length = l'.length + 1 := by rw [hl, List.length_append]; rfl
    have em : lm1 l = (l'.length : Nat) := by unfold lm1; rw [wrapI (by omega) (by omega)]; omega
    have eb : byR l (lm1 l) = lq8 x := by
      unfold byR lq8
      rw [em, Int.toNat_natCast, hl]
      simp [List.getD]
    have et : l.take (lm1 l).toNat = l' := by
      rw [em, Int.toNat_natCast, hl]
      exact List.take_left' rfl
    have k1 : decide (0 ≤ lm1 l ∧ (lm1 l).toNat < l.length) = true := decide_eq_true (by omega)
    have k2 : decide (((l.length : Nat) : Int) > 0) = true := decide_eq_true (by omega)
    by_cases hx : lq8 x = c
    · have hg := tr_go l c g
      rw [et] at hg
      refine (goesT_runs T hg (okCons (decide_eq_true (by omega)) (okCons (by rw [eb]; simpa using hx) (okCons k1 (okL1 k2))))).mono fun e z he => ?_
      obtain ⟨rfl, ⟨g', z1⟩, z2⟩ := he
      refine ⟨l'.length, by omega, l', g', z1, z2, ?_, by omega, rfl⟩
      rw [← h1, hl, trC_snoc, if_pos hx]
    · refine (goesT_runs T (tr_out l c g) (okCons (by rw [eb]; simpa using hx) (okCons k1 (okL1 k2)))).mono fun e z he => ?_
      obtain ⟨rfl, ⟨g', z1⟩, z2⟩ := he
      have : trC c L = l := by rw [← h1, hl, trC_snoc, if_neg hx]
      rw [this]
      exact ⟨rfl, g', z1, z2⟩
theorem trcb_calls (c : Int) (l : List UInt8) (hl : l.length ≤ 100000) (w : World) : Calls Tryz.prog 69 #[bR l, .int .u8 c] w fun r w' => r = .returned (bR (trC c l)) ∧ Tidy w w' := by
  have hT := tabY_ok conN_ok
  refine calls_of_runs (T := tabOf Tryz.prog extY conN true) Tryz.func69 tr_body (by rfl) (by rfl) ?_ w
  refine goesT_list hT (tr_pre l c) okN9R fun g => ?_
  refine Runs.seq (P1 := fun e y => e = none ∧ ∃ g : Nat → Value, y.1 = trF (trC c l) c ++ tl 18 g ∧ y.2.1 = ⟨0, []⟩) ?_ ?_ (fun e y he => by cases he.1)
  · refine (Runs.forLoop (R := fun _ => False) (P := fun y => ∃ g : Nat → Value, y.1 = trF (trC c l) c ++ tl 18 g ∧ y.2.1 = ⟨0, []⟩) (fun n x => ∃ (l' : List UInt8) (g : Nat → Value), x.1 = trF l' c ++ tl 18 g ∧ x.2.1 = ⟨0, []⟩ ∧ trC c l' = trC c l ∧ l'.length ≤ 100000 ∧ n = l'.length) (trc_loop c l) (n := l.length) ⟨l, g, rfl, rfl, rfl, hl, rfl⟩).mono fun e z hz => ?_
    match e, hz with
    | none, hz => exact ⟨rfl, hz⟩
  · intro y he
    obtain ⟨_, g', e1, e2⟩ := he
    obtain ⟨t, hh, s⟩ := y
    have e1 : t = _ := e1
    have e2 : hh = _ := e2
    subst e1 e2
    refine (goesT_runs hT (tr_fin (trC c l) c g') okN9R).mono fun e z hz => ?_
    obtain ⟨rfl, ⟨g2, z1⟩, z2⟩ := hz
    exact ⟨.inr rfl, by rw [z1, z2]; rfl⟩
def gTcb : Ans := fun vals s =>
  match vals with
  | [.string b, .int .u8 c] => some (bR (trC c b.data.toList), s, [(decide (b.data.toList.length ≤ 100000), true)])
  | _ => none
theorem gTcb_ok : AnsOk 69 gTcb := by
  intro vals s v s' lg h hl w
  unfold gTcb at h
  split at h
  · cases h
    exact trcb_calls _ _ (of_decide_eq_true (hl _ (List.mem_singleton.2 rfl))) w
  · cases h
def conTc : Con := alt 69 gTcb conN
theorem conTc_ok : ConOk conTc := alt_ok Tryz.func69 rfl gTcb_ok conN_ok
theorem tc_e0 (l : List UInt8) : Fits (reckon (tabOf Tryz.prog extY conTc true) 100 34 [bR l, bR [48]] [sam true]) (bR l) [lEqB l [] true] := ⟨by kernel_rfl, by kernel_rfl, by kernel_rfl, by kernel_rfl⟩
theorem tc_n0 (l : List UInt8) : Fits (reckon (tabOf Tryz.prog extY conTc true) 100 34 [bR l, bR [48]] [sam false]) (bR (trC 48 l)) [(decide (l.length ≤ 100000), true), (true, true), (true, true), lEqB l [] false] := ⟨by kernel_rfl, by kernel_rfl, by kernel_rfl, by kernel_rfl⟩
theorem tc_e9 (l : List UInt8) : Fits (reckon (tabOf Tryz.prog extY conTc true) 100 34 [bR l, bR [57]] [sam true]) (bR l) [lEqB l [] true] := ⟨by kernel_rfl, by kernel_rfl, by kernel_rfl, by kernel_rfl⟩
theorem tc_n9 (l : List UInt8) : Fits (reckon (tabOf Tryz.prog extY conTc true) 100 34 [bR l, bR [57]] [sam false]) (bR (trC 57 l)) [(decide (l.length ≤ 100000), true), (true, true), (true, true), lEqB l [] false] := ⟨by kernel_rfl, by kernel_rfl, by kernel_rfl, by kernel_rfl⟩
/-- what is left of a text ahead of the noughts, or the nines, at its end -/
def gTrA : Ans := fun vals s =>
  match vals with
  | [.string b, .string ⟨⟨[c]⟩⟩] => some (bR (trC (lq8 c) b.data.toList), s, [(decide (c = 48 ∨ c = 57), true), (decide (b.data.toList.length ≤ 100000), true)])
  | _ => none
theorem gTrA_ok : AnsOk 34 gTrA := by
  intro vals s v s' lg h hl w
  unfold gTrA at h
  split at h
  · rename_i b c
    cases h
    have hc := of_decide_eq_true (hl _ List.mem_cons_self)
    have h2 := hl _ (List.mem_cons_of_mem _ (List.mem_singleton.2 rfl))
    by_cases hn : b.data.toList = []
    · have hb : b = ⟨⟨[]⟩⟩ := by
        apply ByteArray.ext
        apply Array.ext'
        exact hn
      subst hb
      rcases hc with rfl | rfl
      · exact fits_calls (tabY_ok conTc_ok) (tc_e0 []) (okL1 (ok_lEqB (decide_eq_true rfl))) (by rfl) (by rfl) w
      · exact fits_calls (tabY_ok conTc_ok) (tc_e9 []) (okL1 (ok_lEqB (decide_eq_true rfl))) (by rfl) (by rfl) w
    · rcases hc with rfl | rfl
      · exact fits_calls (tabY_ok conTc_ok) (tc_n0 b.data.toList) (okCons h2 (okCons rfl (okCons rfl (okL1 (ok_lEqB (decide_eq_false hn)))))) (by rfl) (by rfl) w
      · exact fits_calls (tabY_ok conTc_ok) (tc_n9 b.data.toList) (okCons h2 (okCons rfl (okCons rfl (okL1 (ok_lEqB (decide_eq_false hn)))))) (by rfl) (by rfl) w
  · cases h
/-! ### a letter repeated; texts compared -/
theorem rep_one (c : UInt8) (n : Nat) : Lib.repeatL [c] n = List.replicate n c := by
  have := Lib.repeatL_replicate c 1 n
  rw [Nat.mul_one] at this
  exact this
def gRep : Ans := fun vals s =>
  match vals with
  | [.string ⟨⟨[c]⟩⟩, .int .i64 n] => some (bR (List.replicate n.toNat c), s, [(decide (0 ≤ n ∧ n ≤ 100000), true)])
  | _ => none
theorem gRep_ok : AnsOk 24 gRep := by
  intro vals s v s' lg h hl w
  unfold gRep at h
  split at h
  · rename_i c n
    cases h
    obtain ⟨h1, h2⟩ := of_decide_eq_true (hl _ (List.mem_singleton.2 rfl))
    obtain ⟨k, rfl⟩ : ∃ k : Nat, n = k := ⟨n.toNat, by omega⟩
    refine (Any.strings_Repeat lays105 Builder_Extra_105 ⟨⟨[c]⟩⟩ k w (by omega) (by show 1 * k ≤ _; omega)).mono fun e w' he => ?_
    refine ⟨?_, tidy_below he.2⟩
    rw [he.1, rep_one]
    rfl
  · cases h
theorem cmp14 : ∀ l r : List UInt8, Lib.compareBytes l r = cmS l r
  | [], [] => rfl
  | [], _ :: _ => rfl
  | _ :: _, [] => rfl
  | a :: l, b :: r => by
    unfold Lib.compareBytes cmS
    have e1 : (a < b) = (lq8 a < lq8 b) := by
      unfold lq8
      rw [UInt8.lt_iff_toNat_lt]
      apply propext
      omega
    have e2 : (b < a) = (lq8 b < lq8 a) := by
      unfold lq8
      rw [UInt8.lt_iff_toNat_lt]
      apply propext
      omega
    by_cases h1 : a < b
    · rw [if_pos h1, if_pos (e1.mp h1)]
    · rw [if_neg h1, if_neg (fun c => h1 (e1.mpr c))]
      by_cases h2 : b < a
      · rw [if_pos h2, if_pos (e2.mp h2)]
      · rw [if_neg h2, if_neg (fun c => h2 (e2.mpr c)), cmp14 l r]
def gCmS : Ans := fun vals s =>
  match vals with
  | [.string a, .string b] => some (.int .i64 (cmS a.data.toList b.data.toList), s, [])
  | _ => none
theorem tidy_refl14 (w : World) : Tidy w w := ⟨Go.RowKit.Below.refl _ _, fun k h1 h2 => by omega⟩
theorem gCmS_ok : AnsOk 54 gCmS := by
  intro vals s v s' lg h hl w
  unfold gCmS at h
  split at h
  · rename_i a b
    cases h
    refine (Any.strings_Compare lays106 a b w).mono fun e w' he => ?_
    obtain ⟨he, rfl⟩ := he
    exact ⟨by rw [he, cmp14], tidy_refl14 _⟩
  · cases h
end Go.Proofs.YtgefjidphfdhdabGreatDoor
namespace Go.Proofs.YtgefjidphfdhdabGreatDoor
open Go.KRun Go.Pt
set_option maxRecDepth 100000
/-- a call with one word of 64 bits -/
def gU (k : Int → Value) : Ans := fun vals s =>
  match vals with
  | [.int .u64 p] => some (k p, s, [(decide (U p), true)])
  | _ => none
theorem gU_ok {f : Nat} {k : Int → Value} (hk : ∀ p : Int, U p → ∀ w, Calls Tryz.prog f #[.int .u64 p] w fun e w' => e = .returned (k p) ∧ Tidy w w') : AnsOk f (gU k) := by
  intro vals s v s' lg h hl w
  unfold gU at h
  split at h
  · cases h
    exact hk _ (of_decide_eq_true (hl _ (List.mem_singleton.2 rfl))) w
  · cases h
theorem abs_fits (p : Int) : Fits (reckon (tabOf Tryz.prog extY conN true) 300 46 [.int .u64 p] []) (.int .u64 (bNot p 9223372036854775808)) [] := ⟨by kernel_rfl, by kernel_rfl, by kernel_rfl, by kernel_rfl⟩
theorem abs_ok : AnsOk 46 (gU fun p => .int .u64 (mag p)) := gU_ok fun p hp w => by
  have := fits_calls (tabY_ok conN_ok) (abs_fits p) (fun x hx => by cases hx) (by rfl) (by rfl) w
  rw [bNot_sign hp] at this
  exact this
def conA : Con := alt 46 (gU fun p => .int .u64 (mag p)) conN
theorem conA_ok : ConOk conA := alt_ok Tryz.func46 rfl abs_ok conN_ok
/-- the exponent as the code reckons it -/
def exM (p : Int) : Int := IntKind.i64.wrap ((mag p).fdiv (2 ^ min (52 : Int).toNat 64))
theorem exM_eq (p : Int) : exM p = ex p := by
  have e : ((2 : Int) ^ min (52 : Int).toNat 64) = 4503599627370496 := by rfl
  unfold exM
  rw [e, Int.fdiv_eq_ediv_of_nonneg _ (by omega), ex_mag]
  have := ex_lt p
  exact wrapI' ⟨by omega, by omega⟩
def frM (p : Int) : Int := bAnd p 4503599627370495
def lX (p : Int) (l : Log) : Log := (decide ((52 : Int) < 0), false) :: (decide (U p), true) :: l
theorem lX_ok {p : Int} (hp : U p) : okLog (lX p []) := okCons rfl (okL1 (decide_eq_true hp))
def lQ (p : Int) : Bool := bAnd (frM p) 2251799813685248 != 0
theorem cls_small (p : Int) (d : Bool) : Fits (reckon (tabOf Tryz.prog extY conA true) 300 19 [.int .u64 p] [cmp true, cmp d]) (.int .i64 (match d with | true => 0 | false => 1)) ((frM p == 0, d) :: (exM p == 0, true) :: lX p []) := by
  cases d <;> exact ⟨by kernel_rfl, by kernel_rfl, by kernel_rfl, by kernel_rfl⟩
theorem cls_endless (p : Int) : Fits (reckon (tabOf Tryz.prog extY conA true) 300 19 [.int .u64 p] [cmp false, cmp true, cmp true]) (.int .i64 3) ((frM p == 0, true) :: (exM p == 2047, true) :: (exM p == 0, false) :: lX p []) := ⟨by kernel_rfl, by kernel_rfl, by kernel_rfl, by kernel_rfl⟩
theorem cls_great (p : Int) (d : Bool) : Fits (reckon (tabOf Tryz.prog extY conA true) 300 19 [.int .u64 p] [cmp false, cmp true, cmp false, cmp d]) (.int .i64 (match d with | true => 4 | false => 5)) ((lQ p, d) :: (frM p == 0, false) :: (exM p == 2047, true) :: (exM p == 0, false) :: lX p []) := by
  cases d <;> exact ⟨by kernel_rfl, by kernel_rfl, by kernel_rfl, by kernel_rfl⟩
theorem cls_plain (p : Int) : Fits (reckon (tabOf Tryz.prog extY conA true) 300 19 [.int .u64 p] [cmp false, cmp false]) (.int .i64 2) ((exM p == 2047, false) :: (exM p == 0, false) :: lX p []) := ⟨by kernel_rfl, by kernel_rfl, by kernel_rfl, by kernel_rfl⟩
theorem frM_eq {p : Int} (hp : U p) : frM p = fr p := bAnd_frac hp
theorem lQ_eq {p : Int} (hp : U p) : lQ p = decide (2251799813685248 ≤ fr p) := by
  have := fr_lt p
  unfold lQ
  rw [frM_eq hp, bAnd_quiet ⟨by omega, by omega⟩]
  by_cases h : 2251799813685248 ≤ fr p
  · rw [decide_eq_true h, show fr p / 2251799813685248 = 1 from by omega]; rfl
  · rw [decide_eq_false h, show fr p / 2251799813685248 = 0 from by omega]; rfl
theorem cls_ok : AnsOk 19 (gU fun p => .int .i64 (cl p)) := gU_ok fun p hp w => by
  have hl := lX_ok hp
  have ee := exM_eq p
  have ef := frM_eq hp
  unfold cl
  by_cases h0 : ex p = 0
  · rw [if_pos h0]
    have := fits_calls (tabY_ok conA_ok) (cls_small p (frM p == 0)) (okCons rfl (okCons (by rw [ee]; simp [h0]) hl)) (by rfl) (by cases (frM p == 0) <;> rfl) w
    rw [ef] at this
    by_cases h1 : fr p = 0
    · rw [if_pos h1]; rw [show (fr p == 0) = true from by simp [h1]] at this; exact this
    · rw [if_neg h1]; rw [show (fr p == 0) = false from by simp [h1]] at this; exact this
  · rw [if_neg h0]
    by_cases h2 : ex p = 2047
    · rw [if_pos h2]
      by_cases h1 : fr p = 0
      · rw [if_pos h1]
        exact fits_calls (tabY_ok conA_ok) (cls_endless p) (okCons (by rw [ef]; simp [h1]) (okCons (by rw [ee]; simp [h2]) (okCons (by rw [ee]; simp [h0]) hl))) (by rfl) (by rfl) w
      · rw [if_neg h1]
        have := fits_calls (tabY_ok conA_ok) (cls_great p (lQ p)) (okCons rfl (okCons (by rw [ef]; simp [h1]) (okCons (by rw [ee]; simp [h2]) (okCons (by rw [ee]; simp [h0]) hl)))) (by rfl) (by cases (lQ p) <;> rfl) w
        rw [lQ_eq hp] at this
        by_cases h3 : 2251799813685248 ≤ fr p
        · rw [if_pos h3]; rw [decide_eq_true h3] at this; exact this
        · rw [if_neg h3]; rw [decide_eq_false h3] at this; exact this
    · rw [if_neg h2]
      exact fits_calls (tabY_ok conA_ok) (cls_plain p) (okCons (by rw [ee]; simp [h2]) (okCons (by rw [ee]; simp [h0]) hl)) (by rfl) (by rfl) w
def conB : Con := alt 19 (gU fun p => .int .i64 (cl p)) conA
theorem conB_ok : ConOk conB := alt_ok Tryz.func19 rfl cls_ok conA_ok
/-! ### Take -/
def vP (m : Bool) (c e s : Int) : Value := .agg #[.bool m, .int .i64 c, .int .i64 e, .int .u64 s]
def vT (p : Int) : Value := vP (sgn p) (cl p) (xp p) (sg p)
def lS (p : Int) (d : Bool) : Bool × Bool := (bAnd p 9223372036854775808 != 0, d)
def lU (p : Int) : Bool × Bool := (decide (U p), true)
theorem take_nought (p : Int) (d : Bool) : Fits (reckon (tabOf Tryz.prog extY conB true) 300 8 [.int .u64 p] [cmp d, cmp true]) (vP d (cl p) (-1074) (frM p)) [(cl p == 0, true), lU p, lS p d] := ⟨by kernel_rfl, by kernel_rfl, by kernel_rfl, by kernel_rfl⟩
theorem take_tiny (p : Int) (d : Bool) : Fits (reckon (tabOf Tryz.prog extY conB true) 300 8 [.int .u64 p] [cmp d, cmp false, cmp true]) (vP d (cl p) (-1074) (frM p)) [(cl p == 1, true), (cl p == 0, false), lU p, lS p d] := ⟨by kernel_rfl, by kernel_rfl, by kernel_rfl, by kernel_rfl⟩
theorem take_plain (p : Int) (d : Bool) : Fits (reckon (tabOf Tryz.prog extY conB true) 300 8 [.int .u64 p] [cmp d, cmp false, cmp false, cmp true]) (vP d (cl p) (IntKind.i64.wrap (exM p - 1075)) (bOr (frM p) 4503599627370496)) [(decide ((52 : Int) < 0), false), lU p, (cl p == 2, true), (cl p == 1, false), (cl p == 0, false), lU p, lS p d] := ⟨by kernel_rfl, by kernel_rfl, by kernel_rfl, by kernel_rfl⟩
theorem take_great (p : Int) (d : Bool) : Fits (reckon (tabOf Tryz.prog extY conB true) 300 8 [.int .u64 p] [cmp d, cmp false, cmp false, cmp false]) (vP d (cl p) 0 (frM p)) [(cl p == 2, false), (cl p == 1, false), (cl p == 0, false), lU p, lS p d] := ⟨by kernel_rfl, by kernel_rfl, by kernel_rfl, by kernel_rfl⟩
theorem sign_eq {p : Int} (hp : U p) : (bAnd p 9223372036854775808 != 0) = sgn p := by
  rw [bAnd_sign hp]
  unfold sgn
  unfold U at hp
  by_cases h : 9223372036854775808 ≤ p
  · rw [decide_eq_true h, show p / 9223372036854775808 = 1 from by omega]; rfl
  · rw [decide_eq_false h, show p / 9223372036854775808 = 0 from by omega]; rfl
theorem cl_cases (p : Int) : (ex p = 0 ∧ (cl p = 0 ∨ cl p = 1)) ∨ (ex p = 2047 ∧ 3 ≤ cl p) ∨ (ex p ≠ 0 ∧ ex p ≠ 2047 ∧ cl p = 2) := by
  unfold cl
  split
  · split <;> omega
  · split
    · split
      · omega
      · split <;> omega
    · omega
theorem lead_or {p : Int} : bOr (fr p) 4503599627370496 = fr p + 4503599627370496 := by
  have := fr_lt p
  rw [or_low 52 (z := 1) (by omega) (by rfl) this.1 (show fr p < 2 ^ 52 from this.2) (by omega)]
  omega
theorem take_calls (p : Int) (hp : U p) (w : World) : Calls Tryz.prog 8 #[.int .u64 p] w fun e w' => e = .returned (vT p) ∧ Tidy w w' := by
  have hu : decide (U p) = true := decide_eq_true hp
  have hs := sign_eq hp
  have hf := frM_eq hp
  have he := exM_eq p
  have hx := ex_lt p
  unfold vT xp sg
  rcases cl_cases p with ⟨h1, h2⟩ | ⟨h1, h2⟩ | ⟨h1, h2, h3⟩
  · rw [if_pos h1, if_pos h1]
    rcases h2 with h2 | h2
    · have := fits_calls (tabY_ok conB_ok) (take_nought p (sgn p)) (okCons (by simp [h2]) (okCons hu (okL1 hs))) (by rfl) (by rfl) w
      rw [hf] at this
      exact this
    · have := fits_calls (tabY_ok conB_ok) (take_tiny p (sgn p)) (okCons (by simp [h2]) (okCons (by simp [h2]) (okCons hu (okL1 hs)))) (by rfl) (by rfl) w
      rw [hf] at this
      exact this
  · have h0 : ¬ ex p = 0 := by omega
    simp only [if_neg h0, if_pos h1]
    have h3 : ¬ cl p = 0 := by omega
    have h4 : ¬ cl p = 1 := by omega
    have h5 : ¬ cl p = 2 := by omega
    have := fits_calls (tabY_ok conB_ok) (take_great p (sgn p)) (okCons (by simp [h5]) (okCons (by simp [h4]) (okCons (by simp [h3]) (okCons hu (okL1 hs))))) (by rfl) (by rfl) w
    rw [hf] at this
    exact this
  · rw [if_neg h1, if_neg h1, if_neg h2, if_neg h2]
    have := fits_calls (tabY_ok conB_ok) (take_plain p (sgn p)) (okCons rfl (okCons hu (okCons (by simp [h3]) (okCons (by simp [h3]) (okCons (by simp [h3]) (okCons hu (okL1 hs))))))) (by rfl) (by rfl) w
    rw [hf, he, wrapI' ⟨by omega, by omega⟩, lead_or] at this
    exact this
theorem take_ok : AnsOk 8 (gU vT) := gU_ok take_calls
/-! ### the document's Take -/
end Go.Proofs.YtgefjidphfdhdabGreatDoor
