/-
  NumFe, NumFf, NumFg, NumFh, FiB, RunV, RunW, RunY
-/
import Derived.Test.YtdlpffgekmidnaaDoorG09
import Derived.OneCell
namespace Go.Fx
/-- a sum with signs by turns -/
def al (a : Nat → Rat) (n : Nat) : Rat := sm (fun k => mns k * a k) n
theorem mns_zero : mns 0 = 1 := rfl
theorem mns_succ (j : Nat) : mns (j + 1) = -mns j := by
  unfold mns
  rcases Nat.mod_two_eq_zero_or_one j with c | c
  · rw [if_neg (show ¬ (j + 1) % 2 = 0 by omega), if_pos c]
  · rw [if_pos (show (j + 1) % 2 = 0 by omega), if_neg (show ¬ j % 2 = 0 by omega)]
    grind
theorem al_succ (a : Nat → Rat) (n : Nat) : al a (n + 1) = a 0 - al (fun k => a (k + 1)) n := by
  unfold al
  rw [sm_head, mns_zero]
  have : sm (fun i => mns (i + 1) * a (i + 1)) n = -sm (fun k => mns k * a (k + 1)) n := by
    rw [← sm_neg]
    refine sm_congr fun i hi => ?_
    rw [mns_succ]
    grind
  rw [this]
  grind
theorem al_bd : ∀ (n : Nat) (a : Nat → Rat), (∀ k, 0 ≤ a k) → (∀ k, a (k + 1) ≤ a k) → 0 ≤ al a n ∧ al a n ≤ a 0
  | 0, a, h, _ => by
    have : al a 0 = 0 := rfl
    have := h 0
    constructor <;> grind
  | n + 1, a, h, g => by
    have h1 := al_bd n (fun k => a (k + 1)) (fun k => h (k + 1)) fun k => g (k + 1)
    have h2 := g 0
    rw [al_succ]
    simp only [Nat.zero_add] at h1 h2
    constructor <;> grind
theorem al_low (n : Nat) (a : Nat → Rat) (h : ∀ k, 0 ≤ a k) (g : ∀ k, a (k + 1) ≤ a k) : a 0 - a 1 ≤ al a (n + 1) := by
  have h1 := al_bd n (fun k => a (k + 1)) (fun k => h (k + 1)) fun k => g (k + 1)
  rw [al_succ]
  simp only [Nat.zero_add] at h1
  grind
/-- the series' sums are sums with signs by turns -/
theorem s15_al (x : Rat) : ∀ n, sm (s15 x) (2 * n) = al (fun k => pf x (2 * k + 1)) n
  | 0 => rfl
  | n + 1 => by
    have h := s15_al x n
    have e1 : snI (2 * n) = 0 := by
      unfold snI
      rw [if_neg (by omega), if_neg (by omega)]
    have e2 : snI (2 * n + 1) = mns n := by
      unfold snI mns
      rcases Nat.mod_two_eq_zero_or_one n with c | c
      · rw [if_pos (by omega), if_pos c]
      · rw [if_neg (by omega), if_pos (by omega), if_neg (by omega)]
    show sm (s15 x) (2 * n) + s15 x (2 * n) + s15 x (2 * n + 1) = al _ n + mns n * pf x (2 * n + 1)
    rw [h]
    unfold s15
    rw [e1, e2]
    grind
theorem c15_al (x : Rat) : ∀ n, sm (c15 x) (2 * n) = al (fun k => pf x (2 * k)) n
  | 0 => rfl
  | n + 1 => by
    have h := c15_al x n
    have e1 : csI (2 * n) = mns n := by
      unfold csI mns
      rcases Nat.mod_two_eq_zero_or_one n with c | c
      · rw [if_pos (by omega), if_pos c]
      · rw [if_neg (by omega), if_pos (by omega), if_neg (by omega)]
    have e2 : csI (2 * n + 1) = 0 := by
      unfold csI
      rw [if_neg (by omega), if_neg (by omega)]
    show sm (c15 x) (2 * n) + c15 x (2 * n) + c15 x (2 * n + 1) = al _ n + mns n * pf x (2 * n)
    rw [h]
    unfold c15
    rw [e1, e2]
    grind
theorem pf_less {x : Rat} (h0 : 0 ≤ x) (h1 : x ≤ 1) (m : Nat) : pf x (m + 1) ≤ pf x m := by
  have p := pf_pos h0 m
  have s := pf_step x m
  have q := pf_pos h0 (m + 1)
  have c : (1 : Rat) ≤ ((m + 1 : Nat) : Rat) := by exact_mod_cast Nat.succ_le_succ (Nat.zero_le m)
  have h2 := Rat.mul_le_mul_of_nonneg_right h1 p
  have h3 := Rat.mul_le_mul_of_nonneg_right c q
  grind
theorem sin_pos {x : Rat} (h0 : 0 ≤ x) (h1 : x ≤ 1) : 0 ≤ sinQ x := by
  unfold sinQ
  rw [s15_al x 64]
  refine (al_bd 64 _ (fun k => pf_pos h0 _) fun k => ?_).1
  have a := pf_less h0 h1 (2 * k + 1)
  have b := pf_less h0 h1 (2 * k + 2)
  show pf x (2 * (k + 1) + 1) ≤ pf x (2 * k + 1)
  rw [show 2 * (k + 1) + 1 = 2 * k + 2 + 1 by omega]
  grind
theorem cos_half {x : Rat} (h0 : 0 ≤ x) (h1 : x ≤ 1) : (1 : Rat) / 2 ≤ cosQ x := by
  unfold cosQ
  rw [c15_al x 64]
  have l := al_low 63 (fun k => pf x (2 * k)) (fun k => pf_pos h0 _) fun k => by
    have a := pf_less h0 h1 (2 * k)
    have b := pf_less h0 h1 (2 * k + 1)
    show pf x (2 * (k + 1)) ≤ pf x (2 * k)
    rw [show 2 * (k + 1) = 2 * k + 1 + 1 by omega]
    grind
  have e0 : pf x (2 * 0) = 1 := rfl
  have e1 : pf x (2 * 1) = 1 * x / ((0 + 1 : Nat) : Rat) * x / ((1 + 1 : Nat) : Rat) := rfl
  have s1 := Rat.mul_le_mul_of_nonneg_right h1 h0
  have e2 : ((0 + 1 : Nat) : Rat) = 1 := rfl
  have e3 : ((1 + 1 : Nat) : Rat) = 2 := rfl
  rw [e2, e3] at e1
  show _ ≤ al _ (63 + 1)
  grind
/-! ### terms in whole units -/
/-- the terms, in units of which U are 1; each is cut -/
def tm (U s f n0 : Nat) : Nat → Nat
  | 0 => f
  | k + 1 => tm U s f n0 k * s / U / ((n0 + 2 * k) * (n0 + 2 * k + 1))
/-- the sum of the first n, with signs by turns -/
def sr (U s f n0 : Nat) : Nat → Int
  | 0 => 0
  | k + 1 => if k % 2 = 0 then sr U s f n0 k + tm U s f n0 k else sr U s f n0 k - tm U s f n0 k
theorem sr_al (U s f n0 : Nat) : ∀ n, ((sr U s f n0 n : Int) : Rat) = al (fun k => ((tm U s f n0 k : Nat) : Rat)) n
  | 0 => rfl
  | n + 1 => by
    have h := sr_al U s f n0 n
    show _ = al (fun k => ((tm U s f n0 k : Nat) : Rat)) n + mns n * ((tm U s f n0 n : Nat) : Rat)
    simp only [sr]
    unfold mns
    split
    · rw [Rat.intCast_add, h, Rat.intCast_natCast]
      grind
    · rw [Rat.intCast_sub, h, Rat.intCast_natCast]
      grind
theorem tm_less {U s f n0 : Nat} (hU : 0 < U) (hs : s ≤ U) (k : Nat) : tm U s f n0 (k + 1) ≤ tm U s f n0 k := by
  simp only [tm]
  refine Nat.le_trans (Nat.div_le_self _ _) ?_
  refine Nat.le_trans (Nat.div_le_div_right (Nat.mul_le_mul_left _ hs)) ?_
  rw [Nat.mul_div_cancel _ hU]
  exact Nat.le_refl _
theorem sr_bd {U s f n0 : Nat} (hU : 0 < U) (hs : s ≤ U) (n : Nat) : 0 ≤ sr U s f n0 n ∧ sr U s f n0 n ≤ f := by
  have h := al_bd n (fun k => ((tm U s f n0 k : Nat) : Rat)) (fun k => by exact_mod_cast Nat.zero_le _) fun k => by
    have := tm_less (f := f) (n0 := n0) hU hs k
    exact_mod_cast this
  rw [← sr_al] at h
  constructor
  · exact_mod_cast h.1
  · have h2 := h.2
    have e : ((tm U s f n0 0 : Nat) : Rat) = ((f : Nat) : Rat) := rfl
    rw [e, ← Rat.intCast_natCast] at h2
    exact_mod_cast h2
theorem tm_le {U s f n0 : Nat} (hU : 0 < U) (hs : s ≤ U) : ∀ k, tm U s f n0 k ≤ f
  | 0 => Nat.le_refl _
  | k + 1 => Nat.le_trans (tm_less hU hs k) (tm_le hU hs k)
/-- behind a term that is 0 nothing comes -/
theorem tm_none {U s f n0 j : Nat} (h : tm U s f n0 j = 0) : ∀ d, tm U s f n0 (j + d) = 0
  | 0 => h
  | d + 1 => by
    have := tm_none h d
    show tm U s f n0 (j + d) * s / U / _ = 0
    rw [this, Nat.zero_mul, Nat.zero_div, Nat.zero_div]
theorem sr_stop {U s f n0 j : Nat} (h : tm U s f n0 j = 0) : ∀ d, sr U s f n0 (j + d) = sr U s f n0 j
  | 0 => rfl
  | d + 1 => by
    have h1 := sr_stop h d
    have h2 := tm_none h d
    show (if (j + d) % 2 = 0 then sr U s f n0 (j + d) + ((tm U s f n0 (j + d) : Nat) : Int) else sr U s f n0 (j + d) - ((tm U s f n0 (j + d) : Nat) : Int)) = _
    rw [h1, h2]
    split <;> omega
theorem nat_pos {n : Nat} (h : 0 < n) : (0 : Rat) < ((n : Nat) : Rat) := by exact_mod_cast h
theorem nat_nn (n : Nat) : (0 : Rat) ≤ ((n : Nat) : Rat) := by exact_mod_cast Nat.zero_le n
theorem div_up (a b : Nat) : ((a / b : Nat) : Rat) * ((b : Nat) : Rat) ≤ ((a : Nat) : Rat) := by
  rw [← Rat.natCast_mul]
  exact_mod_cast Nat.div_mul_le_self a b
theorem div_lo {a b : Nat} (h : 0 < b) : ((a : Nat) : Rat) + 1 ≤ ((a / b : Nat) : Rat) * ((b : Nat) : Rat) + ((b : Nat) : Rat) := by
  have h1 := Nat.div_add_mod a b
  have h2 := Nat.mod_lt a h
  rw [Nat.mul_comm] at h1
  have h3 : a + 1 ≤ a / b * b + b := by omega
  have h4 : ((a + 1 : Nat) : Rat) ≤ ((a / b * b + b : Nat) : Rat) := by exact_mod_cast h3
  rw [Rat.natCast_add, Rat.natCast_add, Rat.natCast_mul] at h4
  exact h4
theorem le_of_mul {c a b : Rat} (hc : 0 < c) (h : c * a ≤ c * b) : a ≤ b := by
  rcases (Rat.le_total : a ≤ b ∨ b ≤ a) with k | k
  · exact k
  · have h1 := Rat.mul_le_mul_of_nonneg_left k (Rat.le_of_lt hc)
    have h2 : c * a = c * b := by grind
    have h3 : c * (a - b) = 0 := by grind
    rcases Rat.mul_eq_zero.1 h3 with e | e
    · grind
    · grind
/-- one term more: t is told of T (in units) with e cut off, e at most 2, or nothing where N is small -/
theorem one_term {U s x N t : Nat} {X T : Rat} (hU : 0 < U) (hN : 0 < N) (hX : ((x : Nat) : Rat) = X * ((U : Nat) : Rat)) (hx : x ≤ U) (hs : s = x * x / U)
    (h0 : ((t : Nat) : Rat) ≤ T * ((U : Nat) : Rat)) (h1 : T ≤ 1) (h2 : T * ((U : Nat) : Rat) ≤ ((t : Nat) : Rat) + 2) (h3 : 3 ≤ N ∨ T * ((U : Nat) : Rat) = ((t : Nat) : Rat)) {T' : Rat} (hT : T' * ((N : Nat) : Rat) = T * (X * X)) :
    ((t * s / U / N : Nat) : Rat) ≤ T' * ((U : Nat) : Rat) ∧ T' * ((U : Nat) : Rat) ≤ ((t * s / U / N : Nat) : Rat) + 2 := by
  have u := nat_pos hU
  have n := nat_pos hN
  have s1 := div_up (x * x) U
  have s2 := div_lo (a := x * x) hU
  rw [← hs, Rat.natCast_mul] at s1 s2
  have s3 : s ≤ U := by
    rw [hs]
    have := Nat.mul_le_mul_left x hx
    exact Nat.le_trans (Nat.div_le_div_right this) (by rw [Nat.mul_div_cancel _ hU]; exact hx)
  have s4 : ((s : Nat) : Rat) ≤ ((U : Nat) : Rat) := by exact_mod_cast s3
  have p1 := div_up (t * s) U
  have p2 := div_lo (a := t * s) hU
  rw [Rat.natCast_mul] at p1 p2
  have q1 := div_up (t * s / U) N
  have q2 := div_lo (a := t * s / U) hN
  have t0 := nat_nn t
  have z0 := nat_nn s
  generalize ((t * s / U / N : Nat) : Rat) = q at *
  generalize ((t * s / U : Nat) : Rat) = p at *
  generalize ((t : Nat) : Rat) = t at *
  generalize ((s : Nat) : Rat) = z at *
  rw [hX] at s1 s2
  -- the square in units: z ≤ U X X, and U X X ≤ z + 1
  have e0 : X * ((U : Nat) : Rat) * (X * ((U : Nat) : Rat)) = ((U : Nat) : Rat) * (((U : Nat) : Rat) * (X * X)) := by grind
  have y1 : z ≤ ((U : Nat) : Rat) * (X * X) := le_of_mul u (by grind)
  have y2 : ((U : Nat) : Rat) * (X * X) ≤ z + 1 := le_of_mul u (by grind)
  have N3 : (3 ≤ N) → (3 : Rat) ≤ ((N : Nat) : Rat) := fun h => by exact_mod_cast h
  have N1 : (1 : Rat) ≤ ((N : Nat) : Rat) := by exact_mod_cast hN
  generalize ((U : Nat) : Rat) = V at *
  generalize ((N : Nat) : Rat) = M at *
  generalize X * X = Y at *
  -- t z ≤ (T V) (V Y)
  have w1 : t * z ≤ (T * V) * (V * Y) := by
    have a := Rat.mul_le_mul_of_nonneg_right h0 z0
    have b := Rat.mul_le_mul_of_nonneg_left y1 (show 0 ≤ T * V by grind)
    grind
  have w2 : (T * V) * (V * Y) ≤ t * z + V * T + V * (T * V - t) := by
    -- (T V)(V Y - z) ≤ T V ; (T V - t) z ≤ (T V - t) V
    have a := Rat.mul_le_mul_of_nonneg_left y2 (show 0 ≤ T * V by grind)
    have b := Rat.mul_le_mul_of_nonneg_left s4 (show 0 ≤ T * V - t by grind)
    grind
  clear hX e0 s1 s2 hs y1 y2
  have c1 : M * V * (T' * V) = (T * V) * (V * Y) := by grind
  clear hT
  constructor
  · refine le_of_mul (Rat.mul_pos n u) ?_
    rw [c1]
    have a := Rat.mul_le_mul_of_nonneg_right q1 (Rat.le_of_lt u)
    clear c1 h3
    grind
  · refine le_of_mul (Rat.mul_pos n u) ?_
    have a := Rat.mul_le_mul_of_nonneg_right q2 (Rat.le_of_lt u)
    rw [c1]
    clear c1
    have g1 := Rat.mul_le_mul_of_nonneg_left h1 (Rat.le_of_lt u)
    have f1 : T * V - t ≤ 2 := by grind
    have g2 := Rat.mul_le_mul_of_nonneg_left f1 (Rat.le_of_lt u)
    rcases h3 with k | k
    · have k3 := N3 k
      have g3 := Rat.mul_le_mul_of_nonneg_left k3 (Rat.le_of_lt u)
      grind
    · have g3 := Rat.mul_le_mul_of_nonneg_left N1 (Rat.le_of_lt u)
      have k0 : V * (T * V - t) = 0 := by rw [k]; grind
      rw [k0] at w2
      clear k k0 h0 h2 f1 g2 w1 N3
      generalize T * V * (V * Y) = A at *
      grind
/-- all terms -/
theorem all_terms {U s x f n0 : Nat} {X : Rat} {T : Nat → Rat} (hU : 0 < U) (hX : ((x : Nat) : Rat) = X * ((U : Nat) : Rat)) (hx : x ≤ U) (hs : s = x * x / U) (hn : 0 < n0)
    (h0 : T 0 * ((U : Nat) : Rat) = ((f : Nat) : Rat)) (h1 : ∀ k, T k ≤ 1) (hT : ∀ k, T (k + 1) * (((n0 + 2 * k) * (n0 + 2 * k + 1) : Nat) : Rat) = T k * (X * X)) :
    ∀ k, ((tm U s f n0 k : Nat) : Rat) ≤ T k * ((U : Nat) : Rat) ∧ T k * ((U : Nat) : Rat) ≤ ((tm U s f n0 k : Nat) : Rat) + 2
  | 0 => by
    simp only [tm]
    constructor <;> grind
  | k + 1 => by
    have h := all_terms hU hX hx hs hn h0 h1 hT k
    simp only [tm]
    refine one_term hU (Nat.mul_pos (by omega) (by omega)) hX hx hs h.1 (h1 k) h.2 ?_ (hT k)
    rcases Nat.eq_zero_or_pos k with c | c
    · subst c
      exact .inr h0
    · left
      exact Nat.le_trans (by omega) (Nat.mul_le_mul (show 3 ≤ n0 + 2 * k by omega) (show 1 ≤ n0 + 2 * k + 1 by omega))
/-- the sums -/
theorem all_sums {U s f n0 : Nat} {T : Nat → Rat} (h : ∀ k, ((tm U s f n0 k : Nat) : Rat) ≤ T k * ((U : Nat) : Rat) ∧ T k * ((U : Nat) : Rat) ≤ ((tm U s f n0 k : Nat) : Rat) + 2) :
    ∀ n, ((sr U s f n0 n : Int) : Rat) ≤ al T n * ((U : Nat) : Rat) + ((n - n % 2 : Nat) : Rat) ∧ al T n * ((U : Nat) : Rat) ≤ ((sr U s f n0 n : Int) : Rat) + ((n + n % 2 : Nat) : Rat)
  | 0 => by
    have e1 : al T 0 = 0 := rfl
    have e2 : ((sr U s f n0 0 : Int) : Rat) = 0 := rfl
    have e3 : ((0 - 0 % 2 : Nat) : Rat) = 0 := rfl
    rw [e1, e2, e3]
    constructor <;> grind
  | n + 1 => by
    have i := all_sums h n
    have j := h n
    have e1 : al T (n + 1) = al T n + mns n * T n := rfl
    have e2 : ((sr U s f n0 (n + 1) : Int) : Rat) = ((sr U s f n0 n : Int) : Rat) + mns n * ((tm U s f n0 n : Nat) : Rat) := by
      rw [sr_al, sr_al]
      rfl
    rw [e1, e2]
    rcases Nat.mod_two_eq_zero_or_one n with c | c
    · have m : mns n = 1 := by unfold mns; rw [if_pos c]
      have a1 : ((n + 1 - (n + 1) % 2 : Nat) : Rat) = ((n - n % 2 : Nat) : Rat) := by congr 1; omega
      have a2 : ((n + 1 + (n + 1) % 2 : Nat) : Rat) = ((n + n % 2 : Nat) : Rat) + 2 := by
        have : n + 1 + (n + 1) % 2 = n + n % 2 + 2 := by omega
        rw [this, Rat.natCast_add]
        rfl
      rw [m, a1, a2]
      constructor <;> grind
    · have m : mns n = -1 := by unfold mns; rw [if_neg (by omega)]
      have a1 : ((n + 1 - (n + 1) % 2 : Nat) : Rat) = ((n - n % 2 : Nat) : Rat) + 2 := by
        have : n + 1 - (n + 1) % 2 = n - n % 2 + 2 := by omega
        rw [this, Rat.natCast_add]
        rfl
      have a2 : ((n + 1 + (n + 1) % 2 : Nat) : Rat) = ((n + n % 2 : Nat) : Rat) := by congr 1; omega
      rw [m, a1, a2]
      constructor <;> grind
/-- the sine's and the cosine's sums, of an angle x in units of which U are 1 -/
def sS (U n x : Nat) : Int := sr U (x * x / U) x 2 n
def cS (U n x : Nat) : Int := sr U (x * x / U) U 1 n
theorem sq_le {U x : Nat} (hU : 0 < U) (hx : x ≤ U) : x * x / U ≤ U := by
  have := Nat.mul_le_mul_left x hx
  exact Nat.le_trans (Nat.div_le_div_right this) (by rw [Nat.mul_div_cancel _ hU]; exact hx)
theorem sS_bd {U x : Nat} (hU : 0 < U) (hx : x ≤ U) (n : Nat) : 0 ≤ sS U n x ∧ sS U n x ≤ x := sr_bd hU (sq_le hU hx) n
theorem cS_bd {U x : Nat} (hU : 0 < U) (hx : x ≤ U) (n : Nat) : 0 ≤ cS U n x ∧ cS U n x ≤ U := sr_bd hU (sq_le hU hx) n
theorem pf_le_one {x : Rat} (h0 : 0 ≤ x) (h1 : x ≤ 1) : ∀ m, pf x m ≤ 1
  | 0 => by simp only [pf]; grind
  | m + 1 => by
    have a := pf_less h0 h1 m
    have b := pf_le_one h0 h1 m
    grind
theorem pf_two (x : Rat) (m : Nat) : pf x (m + 2) * (((m + 1) * (m + 2) : Nat) : Rat) = pf x m * (x * x) := by
  have h1 := pf_step x m
  have h2 := pf_step x (m + 1)
  rw [Rat.natCast_mul]
  have e : m + 1 + 1 = m + 2 := by omega
  rw [e] at h2
  grind
/-- x, of which U are 1 -/
def qt (U x : Nat) : Rat := ((x : Nat) : Rat) / ((U : Nat) : Rat)
theorem qt_mul {U : Nat} (hU : 0 < U) (x : Nat) : ((x : Nat) : Rat) = qt U x * ((U : Nat) : Rat) := by
  have := nat_pos hU
  unfold qt
  grind
theorem qt_bd {U x : Nat} (hU : 0 < U) (hx : x ≤ U) : 0 ≤ qt U x ∧ qt U x ≤ 1 := by
  have u := nat_pos hU
  have h := qt_mul hU x
  have h1 : ((x : Nat) : Rat) ≤ ((U : Nat) : Rat) := by exact_mod_cast hx
  have h0 := nat_nn x
  constructor
  · exact le_of_mul u (by grind)
  · exact le_of_mul u (by grind)
theorem sS_off {U x : Nat} (hU : 0 < U) (hx : x ≤ U) (n : Nat) : ((sS U n x : Int) : Rat) ≤ sm (s15 (qt U x)) (2 * n) * ((U : Nat) : Rat) + ((n - n % 2 : Nat) : Rat) ∧ sm (s15 (qt U x)) (2 * n) * ((U : Nat) : Rat) ≤ ((sS U n x : Int) : Rat) + ((n + n % 2 : Nat) : Rat) := by
  have q := qt_bd hU hx
  rw [s15_al]
  refine all_sums (T := fun k => pf (qt U x) (2 * k + 1)) (all_terms (X := qt U x) hU (qt_mul hU x) hx rfl (by omega) ?_ (fun k => pf_le_one q.1 q.2 _) fun k => ?_) n
  · show pf (qt U x) 1 * _ = _
    have h := qt_mul hU x
    have e : pf (qt U x) 1 = 1 * qt U x / ((0 + 1 : Nat) : Rat) := rfl
    have e3 : ((0 + 1 : Nat) : Rat) = 1 := rfl
    rw [e, e3]
    grind
  · have h := pf_two (qt U x) (2 * k + 1)
    rw [show (2 + 2 * k) * (2 + 2 * k + 1) = (2 * k + 1 + 1) * (2 * k + 1 + 2) by rw [show 2 + 2 * k = 2 * k + 1 + 1 by omega], show 2 * (k + 1) + 1 = 2 * k + 1 + 2 by omega]
    exact h
theorem cS_off {U x : Nat} (hU : 0 < U) (hx : x ≤ U) (n : Nat) : ((cS U n x : Int) : Rat) ≤ sm (c15 (qt U x)) (2 * n) * ((U : Nat) : Rat) + ((n - n % 2 : Nat) : Rat) ∧ sm (c15 (qt U x)) (2 * n) * ((U : Nat) : Rat) ≤ ((cS U n x : Int) : Rat) + ((n + n % 2 : Nat) : Rat) := by
  have q := qt_bd hU hx
  rw [c15_al]
  refine all_sums (T := fun k => pf (qt U x) (2 * k)) (all_terms (X := qt U x) hU (qt_mul hU x) hx rfl (by omega) ?_ (fun k => pf_le_one q.1 q.2 _) fun k => ?_) n
  · show (1 : Rat) * _ = _
    grind
  · have h := pf_two (qt U x) (2 * k)
    rw [show (1 + 2 * k) * (1 + 2 * k + 1) = (2 * k + 1) * (2 * k + 2) by rw [show 1 + 2 * k = 2 * k + 1 by omega], show 2 * (k + 1) = 2 * k + 2 by omega]
    exact h
/-! ### what is left out -/
theorem rest_le {b : Rat → Nat → Rat} (hb : ∀ x, 0 ≤ x → ∀ k, -pf x k ≤ b x k ∧ b x k ≤ pf x k) {x : Rat} (h0 : 0 ≤ x) (h1 : x ≤ 1) (k d : Nat) {e : Rat} (he : sm (pf 1) (k + d) - sm (pf 1) k ≤ e) : -e ≤ sm (b x) (k + d) - sm (b x) k ∧ sm (b x) (k + d) - sm (b x) k ≤ e := by
  have p := sm_part (hb x h0) k d
  have g := sm_gap (pf_mono h0 h1) k d
  constructor <;> grind
theorem left58 : sm (pf 1) (58 + 70) - sm (pf 1) 58 ≤ 1 / ((2 ^ 250 : Nat) : Rat) := by decide +kernel
theorem left128 : sm (pf 1) (128 + 72) - sm (pf 1) 128 ≤ 1 / ((2 ^ 200 * 2 ^ 200 : Nat) : Rat) := by decide +kernel
/-- as many units as are 1 -/
def uP : Nat := 2 ^ 248
def uD : Nat := 2 ^ 248 * 2 ^ 72
theorem uP_pos : 0 < uP := by decide
theorem uD_pos : 0 < uD := by decide
theorem small58 : 1 / ((2 ^ 250 : Nat) : Rat) * ((uP : Nat) : Rat) ≤ 1 := by decide +kernel
theorem small128 : 1 / ((2 ^ 200 * 2 ^ 200 : Nat) : Rat) * ((uD : Nat) : Rat) ≤ 1 := by decide +kernel
/-- the program's sums: the sine (cosine) lies between 29 units below and 31 above -/
theorem near_of {S m1 m2 U e : Rat} {lo hi : Rat} (hU : 0 ≤ U) (h1 : S ≤ m1 * U + lo) (h2 : m1 * U ≤ S + hi) (h3 : -e ≤ m2 - m1) (h4 : m2 - m1 ≤ e) (h5 : e * U ≤ 1) : S ≤ m2 * U + (lo + 1) ∧ m2 * U ≤ S + (hi + 1) := by
  have a := Rat.mul_le_mul_of_nonneg_right h3 hU
  have b := Rat.mul_le_mul_of_nonneg_right h4 hU
  constructor <;> grind
theorem sP_near {x : Nat} (hx : x ≤ uP) : ((sS uP 29 x : Int) : Rat) ≤ sinQ (qt uP x) * ((uP : Nat) : Rat) + 29 ∧ sinQ (qt uP x) * ((uP : Nat) : Rat) ≤ ((sS uP 29 x : Int) : Rat) + 31 := by
  have q := qt_bd uP_pos hx
  have h := sS_off uP_pos hx 29
  have r := rest_le (b := s15) (fun x h => sn_bd x h) q.1 q.2 58 70 left58
  have n := near_of (Rat.le_of_lt (nat_pos uP_pos)) h.1 h.2 r.1 r.2 small58
  have e1 : ((29 - 29 % 2 : Nat) : Rat) + 1 = 29 := by decide +kernel
  have e2 : ((29 + 29 % 2 : Nat) : Rat) + 1 = 31 := by decide +kernel
  rw [e1, e2] at n
  exact n
theorem cP_near {x : Nat} (hx : x ≤ uP) : ((cS uP 29 x : Int) : Rat) ≤ cosQ (qt uP x) * ((uP : Nat) : Rat) + 29 ∧ cosQ (qt uP x) * ((uP : Nat) : Rat) ≤ ((cS uP 29 x : Int) : Rat) + 31 := by
  have q := qt_bd uP_pos hx
  have h := cS_off uP_pos hx 29
  have r := rest_le (b := c15) (fun x h => cs_bd x h) q.1 q.2 58 70 left58
  have n := near_of (Rat.le_of_lt (nat_pos uP_pos)) h.1 h.2 r.1 r.2 small58
  have e1 : ((29 - 29 % 2 : Nat) : Rat) + 1 = 29 := by decide +kernel
  have e2 : ((29 + 29 % 2 : Nat) : Rat) + 1 = 31 := by decide +kernel
  rw [e1, e2] at n
  exact n
/-- the document's -/
theorem sD_near {y : Nat} (hy : y ≤ uD) : ((sS uD 100 y : Int) : Rat) ≤ sinQ (qt uD y) * ((uD : Nat) : Rat) + 101 ∧ sinQ (qt uD y) * ((uD : Nat) : Rat) ≤ ((sS uD 100 y : Int) : Rat) + 101 := by
  have q := qt_bd uD_pos hy
  have h := sS_off uD_pos hy 100
  have r := rest_le (b := s15) (fun x h => sn_bd x h) q.1 q.2 128 72 left128
  have n := near_of (m2 := sinQ (qt uD y)) (e := 1 / ((2 ^ 200 * 2 ^ 200 : Nat) : Rat)) (Rat.le_of_lt (nat_pos uD_pos)) h.1 h.2 (by have := r.2; unfold sinQ; grind) (by have := r.1; unfold sinQ; grind) small128
  have e1 : ((100 - 100 % 2 : Nat) : Rat) + 1 = 101 := by decide +kernel
  rw [e1] at n
  exact n
theorem cD_near {y : Nat} (hy : y ≤ uD) : ((cS uD 100 y : Int) : Rat) ≤ cosQ (qt uD y) * ((uD : Nat) : Rat) + 101 ∧ cosQ (qt uD y) * ((uD : Nat) : Rat) ≤ ((cS uD 100 y : Int) : Rat) + 101 := by
  have q := qt_bd uD_pos hy
  have h := cS_off uD_pos hy 100
  have r := rest_le (b := c15) (fun x h => cs_bd x h) q.1 q.2 128 72 left128
  have n := near_of (m2 := cosQ (qt uD y)) (e := 1 / ((2 ^ 200 * 2 ^ 200 : Nat) : Rat)) (Rat.le_of_lt (nat_pos uD_pos)) h.1 h.2 (by have := r.2; unfold cosQ; grind) (by have := r.1; unfold cosQ; grind) small128
  have e1 : ((100 - 100 % 2 : Nat) : Rat) + 1 = 101 := by decide +kernel
  rw [e1] at n
  exact n
theorem cast_le {a b : Nat} (h : ((a : Nat) : Rat) ≤ ((b : Nat) : Rat)) : a ≤ b := by exact_mod_cast h
/-- the bounds: 32 units below (0 at least) and above -/
def lo32 (S : Int) : Nat := (S - 32).toNat
def hi32 (S : Int) : Nat := (S + 32).toNat
theorem lo32_is {S : Int} {s : Rat} (h : ((S : Int) : Rat) ≤ s + 29) : lo32 S = 0 ∨ ((lo32 S : Nat) : Rat) ≤ s - 3 := by
  by_cases c : S < 32
  · left
    unfold lo32
    omega
  · right
    have e : ((lo32 S : Nat) : Int) = S - 32 := by unfold lo32; omega
    have e2 : ((lo32 S : Nat) : Rat) = ((S : Int) : Rat) - 32 := by
      rw [← Rat.intCast_natCast, e, Rat.intCast_sub]
      rfl
    grind
theorem hi32_is {S : Int} {s : Rat} (h0 : 0 ≤ S) (h : s ≤ ((S : Int) : Rat) + 31) : s + 1 ≤ ((hi32 S : Nat) : Rat) := by
  have e : ((hi32 S : Nat) : Int) = S + 32 := by unfold hi32; omega
  have e2 : ((hi32 S : Nat) : Rat) = ((S : Int) : Rat) + 32 := by
    rw [← Rat.intCast_natCast, e, Rat.intCast_add]
    rfl
  grind
/-- the facts of an angle: s, c are the sine and the cosine in units -/
structure Fx (x : Nat) (s c : Rat) : Prop where
  s0 : 0 ≤ s
  c0 : ((uP : Nat) : Rat) ≤ 2 * c
  sl : ((sS uP 29 x : Int) : Rat) ≤ s + 29
  sh : s ≤ ((sS uP 29 x : Int) : Rat) + 31
  cl : ((cS uP 29 x : Int) : Rat) ≤ c + 29
  ch : c ≤ ((cS uP 29 x : Int) : Rat) + 31
theorem fx_of {x : Nat} (hx : x ≤ uP) : Fx x (sinQ (qt uP x) * ((uP : Nat) : Rat)) (cosQ (qt uP x) * ((uP : Nat) : Rat)) := by
  have q := qt_bd uP_pos hx
  have u := nat_pos uP_pos
  have hs := sP_near hx
  have hc := cP_near hx
  have h1 := Rat.mul_nonneg (sin_pos q.1 q.2) (Rat.le_of_lt u)
  have h2 := Rat.mul_le_mul_of_nonneg_right (cos_half q.1 q.2) (Rat.le_of_lt u)
  exact ⟨h1, by grind, hs.1, hs.2, hc.1, hc.2⟩
theorem cos_big {x : Nat} (hx : x ≤ uP) : (uP : Int) ≤ 2 * cS uP 29 x + 62 := by
  have F := fx_of hx
  have h1 := F.c0
  have h2 := F.ch
  have h : (((uP : Nat) : Int) : Rat) ≤ ((2 * cS uP 29 x + 62 : Int) : Rat) := by
    rw [Rat.intCast_add, Rat.intCast_mul, Rat.intCast_natCast]
    have e1 : ((2 : Int) : Rat) = 2 := rfl
    have e2 : ((62 : Int) : Rat) = 62 := rfl
    rw [e1, e2]
    grind
  exact_mod_cast h
/-- against the document's -/
theorem near_doc {S D : Int} {s : Rat} (h0 : 0 ≤ S) (hD : 0 ≤ D) (h1 : ((S : Int) : Rat) ≤ s + 29) (h2 : s ≤ ((S : Int) : Rat) + 31) (h3 : ((D : Int) : Rat) ≤ s * ((2 ^ 72 : Nat) : Rat) + 101) (h4 : s * ((2 ^ 72 : Nat) : Rat) ≤ ((D : Int) : Rat) + 101) :
    lo32 S * 2 ^ 72 ≤ D.toNat + 1000 ∧ D.toNat ≤ hi32 S * 2 ^ 72 + 1000 := by
  have eD : ((D.toNat : Nat) : Rat) = ((D : Int) : Rat) := by
    rw [← Rat.intCast_natCast, Int.toNat_of_nonneg hD]
  have p : (1 : Rat) ≤ ((2 ^ 72 : Nat) : Rat) := by decide +kernel
  have p1000 : ((1000 : Nat) : Rat) = 1000 := rfl
  constructor
  · rcases lo32_is h1 with k | k
    · rw [k, Nat.zero_mul]
      exact Nat.zero_le _
    · have b := Rat.mul_le_mul_of_nonneg_right k (show (0 : Rat) ≤ ((2 ^ 72 : Nat) : Rat) by grind)
      have g : ((lo32 S * 2 ^ 72 : Nat) : Rat) ≤ ((D.toNat + 1000 : Nat) : Rat) := by
        rw [Rat.natCast_mul, Rat.natCast_add, eD, p1000]
        generalize ((2 ^ 72 : Nat) : Rat) = P at *
        grind
      exact cast_le g
  · have k := hi32_is h0 h2
    have b := Rat.mul_le_mul_of_nonneg_right k (show (0 : Rat) ≤ ((2 ^ 72 : Nat) : Rat) by grind)
    have g : ((D.toNat : Nat) : Rat) ≤ ((hi32 S * 2 ^ 72 + 1000 : Nat) : Rat) := by
      rw [Rat.natCast_add, Rat.natCast_mul, eD, p1000]
      generalize ((2 ^ 72 : Nat) : Rat) = P at *
      grind
    exact cast_le g
theorem qt_doc (x : Nat) : qt uD (x * 2 ^ 72) = qt uP x := by
  have p : (0 : Rat) < ((2 ^ 72 : Nat) : Rat) := by decide +kernel
  have u := nat_pos uP_pos
  unfold qt
  rw [show uD = uP * 2 ^ 72 from rfl, Rat.natCast_mul, Rat.natCast_mul]
  generalize ((2 ^ 72 : Nat) : Rat) = P at *
  generalize ((uP : Nat) : Rat) = U at *
  grind
theorem doc_le {x : Nat} (hx : x ≤ uP) : x * 2 ^ 72 ≤ uD := Nat.mul_le_mul_right _ hx
theorem sines_bd {x : Nat} (hx : x ≤ uP) : lo32 (sS uP 29 x) * 2 ^ 72 ≤ (sS uD 100 (x * 2 ^ 72)).toNat + 1000 ∧ (sS uD 100 (x * 2 ^ 72)).toNat ≤ hi32 (sS uP 29 x) * 2 ^ 72 + 1000 := by
  have F := fx_of hx
  have d := sD_near (doc_le hx)
  rw [qt_doc] at d
  have e : ((uD : Nat) : Rat) = ((uP : Nat) : Rat) * ((2 ^ 72 : Nat) : Rat) := by rw [← Rat.natCast_mul]; rfl
  rw [e, ← Rat.mul_assoc] at d
  exact near_doc (sS_bd uP_pos hx 29).1 (sS_bd uD_pos (doc_le hx) 100).1 F.sl F.sh d.1 d.2
theorem cosines_bd {x : Nat} (hx : x ≤ uP) : lo32 (cS uP 29 x) * 2 ^ 72 ≤ (cS uD 100 (x * 2 ^ 72)).toNat + 1000 ∧ (cS uD 100 (x * 2 ^ 72)).toNat ≤ hi32 (cS uP 29 x) * 2 ^ 72 + 1000 := by
  have F := fx_of hx
  have d := cD_near (doc_le hx)
  rw [qt_doc] at d
  have e : ((uD : Nat) : Rat) = ((uP : Nat) : Rat) * ((2 ^ 72 : Nat) : Rat) := by rw [← Rat.natCast_mul]; rfl
  rw [e, ← Rat.mul_assoc] at d
  exact near_doc (cS_bd uP_pos hx 29).1 (cS_bd uD_pos (doc_le hx) 100).1 F.cl F.ch d.1 d.2
end Go.Fx
namespace Go.Proofs.YtdlpffgekmidnaaDoor
open Go.KRun Go.Wd
set_option maxRecDepth 100000
def conFB : Con := alt 26 (g2 (plain2 fmV4)) (alt 28 gQR conFA)
theorem conFB_ok : ConOk conFB := alt_ok Tryd.func26 rfl (plain2_ok fm_calls) (alt_ok Tryd.func28 rfl gQR_ok conFA_ok)
/-- the divisor of a term -/
def ptD (n : Int) : W4 := ⟨IntKind.u64.wrap (n * IntKind.u64.wrap (n + 1)), 0, 0, 0⟩
def ptW (t s : W4) (n : Int) : W4 := W4.of ((W4.of (fmI t s)).val / (ptD n).val)
theorem pt_fits (t s : W4) (n : Int) : Fits (reckon (tabOf Tryd.prog extY conFB true) 300 55 [vW t, vW s, .int .u64 n] []) (vW (ptW t s n)) [nz2 (W4.of (fmI t s)) (ptD n), nz2 (W4.of (fmI t s)) (ptD n), nz2 (W4.of (fmI t s)) (ptD n), nz2 (W4.of (fmI t s)) (ptD n), nz2 (W4.of (fmI t s)) (ptD n), nz2 (W4.of (fmI t s)) (ptD n), nz2 (W4.of (fmI t s)) (ptD n), nz2 (W4.of (fmI t s)) (ptD n), nz2 (W4.of (fmI t s)) (ptD n), nz2 (W4.of (fmI t s)) (ptD n), nz2 (W4.of (fmI t s)) (ptD n), q2 t s] := ⟨by kernel_rfl, by kernel_rfl, by kernel_rfl, by kernel_rfl⟩
def okPt (t s : W4) (n : Int) : Bool × Bool := (decide (t.ok ∧ s.ok ∧ fmI t s < 115792089237316195423570985008687907853269984665640564039457584007913129639936 ∧ 1 ≤ n ∧ n ≤ 1000), true)
theorem pt_calls (t s : W4) (n : Int) (h : t.ok ∧ s.ok ∧ fmI t s < 115792089237316195423570985008687907853269984665640564039457584007913129639936 ∧ 1 ≤ n ∧ n ≤ 1000) (w : World) : Calls Tryd.prog 55 #[vW t, vW s, .int .u64 n] w fun e w' => e = .returned (vW (W4.of (fmI t s / (n * (n + 1))))) ∧ Tidy w w' := by
  obtain ⟨ht, hs, hf, h1, h2⟩ := h
  have h0 : 0 ≤ fmI t s := Int.ediv_nonneg (mul_bd2 ht hs).1 (by omega)
  have bn : 0 < n * (n + 1) := Int.mul_pos (by omega) (by omega)
  have bm : n * (n + 1) ≤ 1000 * 1001 := Int.mul_le_mul h2 (by omega) (by omega) (by omega)
  have ew : IntKind.u64.wrap (n * IntKind.u64.wrap (n + 1)) = n * (n + 1) := by
    rw [wrap_u64' (n := n + 1) (by omega) (by omega), wrap_u64' (by omega) (by omega)]
  have eD : ptD n = ⟨n * (n + 1), 0, 0, 0⟩ := by unfold ptD; rw [ew]
  have vD : (ptD n).val = n * (n + 1) := by rw [eD]; unfold W4.val; dsimp only; omega
  have oD : (ptD n).ok := by rw [eD]; exact ⟨⟨by dsimp only; omega, by dsimp only; omega⟩, z64, z64, z64⟩
  have e1 : ptW t s n = W4.of (fmI t s / (n * (n + 1))) := by
    unfold ptW
    rw [vD, W4.val_of, Int.emod_eq_of_lt h0 hf]
  have q : (nz2 (W4.of (fmI t s)) (ptD n)).1 = (nz2 (W4.of (fmI t s)) (ptD n)).2 := decide_eq_true ⟨W4.ok_of _, oD, by rw [vD]; omega⟩
  rw [← e1]
  exact fits_calls (tabY_ok conFB_ok) (pt_fits t s n) ((okCons q (okCons q (okCons q (okCons q (okCons q (okCons q (okCons q (okCons q (okCons q (okCons q (okCons q (okL1 (decide_eq_true ⟨ht, hs⟩)))))))))))))) (by rfl) (by rfl) w
def gPrt : Ans := fun vals s =>
  match vals with
  | [x, y, .int .u64 n] =>
    match w4 x, w4 y with
    | some a, some b => some (vW (W4.of (fmI a b / (n * (n + 1)))), s, [okPt a b n])
    | _, _ => none
  | _ => none
theorem gPrt_ok : AnsOk 55 gPrt := by
  intro vals s v s' lg h hl w
  unfold gPrt at h
  split at h
  · split at h
    · rename_i a b ha hb
      cases h
      have h1 := hl _ (List.mem_singleton.2 rfl)
      simp only [okPt, decide_eq_true_eq] at h1
      rw [w4_spec ha, w4_spec hb]
      exact pt_calls a b _ h1 w
    · cases h
  · cases h
/-! ### bounds -/
def conFC : Con := alt 19 (g2 subB) (alt 48 (g2 (plain2 addV4)) conN)
theorem conFC_ok : ConOk conFC := alt_ok Tryd.func19 rfl subB_ok (alt_ok Tryd.func48 rfl (plain2_ok add_calls) conN_ok)
def w32 : W4 := ⟨32, 0, 0, 0⟩
theorem bd_low (x : W4) : Fits (reckon (tabOf Tryd.prog extY conFC true) 300 39 [vW x] [tst true]) (.tuple #[vW ⟨0, 0, 0, 0⟩, vW (W4.of (x.val + w32.val))]) [q2 x w32, q2 x w32, (decide (x.val < w32.val), true)] := ⟨by kernel_rfl, by kernel_rfl, by kernel_rfl, by kernel_rfl⟩
theorem bd_in (x : W4) : Fits (reckon (tabOf Tryd.prog extY conFC true) 300 39 [vW x] [tst false]) (.tuple #[vW (W4.of (x.val - w32.val)), vW (W4.of (x.val + w32.val))]) [q2 x w32, q2 x w32, (decide (x.val < w32.val), false)] := ⟨by kernel_rfl, by kernel_rfl, by kernel_rfl, by kernel_rfl⟩
/-- the bounds of a sum -/
def bdV4 (x : W4) : Value := .tuple #[vW (ofN (Go.Fx.lo32 x.val)), vW (ofN (Go.Fx.hi32 x.val))]
theorem bd_calls (x : W4) (hx : x.ok) (w : World) : Calls Tryd.prog 39 #[vW x] w fun e w' => e = .returned (bdV4 x) ∧ Tidy w w' := by
  have b := W4.val_bd hx
  have v : w32.val = 32 := by rfl
  have o : w32.ok := ⟨⟨by decide, by decide⟩, z64, z64, z64⟩
  have q : (q2 x w32).1 = (q2 x w32).2 := decide_eq_true ⟨hx, o⟩
  have e2 : ofN (Go.Fx.hi32 x.val) = W4.of (x.val + w32.val) := by
    unfold ofN Go.Fx.hi32
    rw [v, Int.toNat_of_nonneg (by omega)]
  unfold bdV4
  rw [e2]
  by_cases c : x.val < w32.val
  · have e1 : ofN (Go.Fx.lo32 x.val) = ⟨0, 0, 0, 0⟩ := by
      unfold Go.Fx.lo32
      rw [show (x.val - 32).toNat = 0 by omega]
      exact ofN_zero
    rw [e1]
    exact fits_calls (tabY_ok conFC_ok) (bd_low x) (okCons q (okCons q (okL1 (decide_eq_true c)))) (by rfl) (by rfl) w
  · have e1 : ofN (Go.Fx.lo32 x.val) = W4.of (x.val - w32.val) := by
      unfold ofN Go.Fx.lo32
      rw [v, Int.toNat_of_nonneg (by omega)]
    rw [e1]
    exact fits_calls (tabY_ok conFC_ok) (bd_in x) (okCons q (okCons q (okL1 (decide_eq_false c)))) (by rfl) (by rfl) w
end Go.Proofs.YtdlpffgekmidnaaDoor
namespace Go.KRun
open Go.RowKit
theorem tidy_trans {a b c : World} (h1 : Tidy a b) (h2 : Tidy b c) : Tidy a c := by
  refine ⟨h1.1.trans (h2.1.mono h1.1.size), fun k hk hk' => ?_⟩
  by_cases h : k < b.heap.size
  · rw [h2.1.block k h]; exact h1.2 k hk h
  · exact h2.2 k (by omega) hk'
theorem tidy_alloc (w : World) (cs : Array Value) (e : TypeId) : Tidy w (w.alloc (.cells cs e (0, 0))) := by
  refine ⟨Below.alloc (Below.refl _ _) (Nat.le_refl _) _, fun k hk hk' => ?_⟩
  rw [size_alloc'] at hk'
  have : k = w.heap.size := by omega
  subst this
  exact iced_cells (heap_alloc_at w _)
theorem tidy_setCell {a w : World} (h : Tidy a w) {b : Nat} {v : Value} {t : TypeId} (hb : a.heap.size ≤ b) (hc : w.heap[b]? = some (.cells #[v] t (0, 0))) (u : Value) : Tidy a (w.setCell ⟨b, 0, none⟩ u) := by
  refine ⟨Below.setCell h.1 hb u, fun k hk hk' => ?_⟩
  by_cases hkb : k = b
  · subst hkb
    exact iced_cells (one_setCell hc)
  · rw [Below.heap_setCell w ⟨b, 0, none⟩ u k hkb]
    refine h.2 k hk ?_
    have hs : (w.setCell ⟨b, 0, none⟩ u).heap.size = w.heap.size := by simp [World.setCell]
    omega
/-! ### values that point into some blocks alone -/
def oc1 (bs : List Nat) : Value → Bool
  | .pointer (some a) => bs.contains a.block
  | .slice (some a) _ _ => bs.contains a.block
  | .iface t _ => !(Nat.beq t dead)
  | _ => true
def oc2 (bs : List Nat) : Value → Bool
  | .agg cs => cs.toList.all (oc1 bs)
  | v => oc1 bs v
def oc (bs : List Nat) : Value → Bool
  | .tuple vs => vs.toList.all (oc2 bs)
  | v => oc2 bs v
theorem mv1_on {m m' : Mp} {bs : List Nat} (h : ∀ b ∈ bs, m b = m' b) {v : Value} (hv : oc1 bs v = true) : mv1 m v = mv1 m' v := by
  unfold mv1
  split
  · simp only [oc1, List.contains_iff_mem] at hv; simp [mvA, h _ hv]
  · simp only [oc1, List.contains_iff_mem] at hv; simp [mvA, h _ hv]
  · rfl
  · rfl
theorem mv2_on {m m' : Mp} {bs : List Nat} (h : ∀ b ∈ bs, m b = m' b) {v : Value} (hv : oc2 bs v = true) : mv2 m v = mv2 m' v := by
  unfold mv2
  split
  · rename_i cs
    simp only [oc2, List.all_eq_true] at hv
    congr 1
    exact Array.map_congr_left fun x hx => mv1_on h (hv x (by simpa using hx))
  · rename_i hna
    refine mv1_on h ?_
    unfold oc2 at hv
    split at hv
    · rename_i cs; exact absurd rfl (hna cs)
    · exact hv
theorem mv_on {m m' : Mp} {bs : List Nat} (h : ∀ b ∈ bs, m b = m' b) {v : Value} (hv : oc bs v = true) : mv m v = mv m' v := by
  unfold mv
  split
  · rename_i vs
    simp only [oc, List.all_eq_true] at hv
    congr 1
    exact Array.map_congr_left fun x hx => mv2_on h (hv x (by simpa using hx))
  · rename_i hna
    refine mv2_on h ?_
    unfold oc at hv
    split at hv
    · rename_i cs; exact absurd rfl (hna cs)
    · exact hv
theorem oc_ren {bs : List Nat} {f : Nat → Nat} {n : Nat} (hf : ∀ b ∈ bs, f b < n) {v : Value} (hv : oc bs v = true) : lt n (rn f v) = true := by
  have h1 : ∀ v, oc1 bs v = true → lt1 n (rn1 f v) = true := fun v h => by
    cases v with
    | pointer a =>
      cases a with
      | none => rfl
      | some a => simp only [oc1, List.contains_iff_mem] at h; exact blt_iff.2 (hf _ h)
    | slice a l c =>
      cases a with
      | none => rfl
      | some a => simp only [oc1, List.contains_iff_mem] at h; exact blt_iff.2 (hf _ h)
    | iface t u => simp only [oc1, Bool.not_eq_true'] at h; simp [rn1, lt1, h]
    | _ => rfl
  have h2 : ∀ v, oc2 bs v = true → lt2 n (rn2 f v) = true := fun v h => by
    cases v with
    | agg cs =>
      simp only [oc2, lt2, rn2, Array.toList_map, List.all_eq_true, List.mem_map] at *
      rintro _ ⟨y, hy, rfl⟩
      exact h1 y (h y hy)
    | pointer a =>
      cases a with
      | none => rfl
      | some a => exact h1 (.pointer (some a)) h
    | slice a l c =>
      cases a with
      | none => rfl
      | some a => exact h1 (.slice (some a) l c) h
    | iface t u => exact h1 (.iface t u) h
    | _ => rfl
  cases v with
  | tuple cs =>
    simp only [oc, lt, rn, Array.toList_map, List.all_eq_true, List.mem_map] at *
    rintro _ ⟨y, hy, rfl⟩
    exact h2 y (hv y hy)
  | agg cs => exact h2 (.agg cs) hv
  | pointer a =>
    cases a with
    | none => rfl
    | some a => exact h1 (.pointer (some a)) hv
  | slice a l c =>
    cases a with
    | none => rfl
    | some a => exact h1 (.slice (some a) l c) hv
  | iface t u => exact h1 (.iface t u) hv
  | _ => rfl
/-! ### the smallest memory -/
/-- rows that are only read, no address in them -/
def Hp.rows (h : Hp) : Prop := h.l.length = h.n ∧ ∀ b x, h.blk? b = some x → ro x.2 = true ∧ (∀ v ∈ x.1, still v = true) ∧ ab x.2 = false
/-- these rows are there: block i's cells are the first of block s i's -/
def Hp.fits (h0 : Hp) (s : Nat → Nat) (h : Hp) : Prop := ∀ i x, h0.blk? i = some x → tomb x.2 = false → ∃ y r, h.blk? (s i) = some y ∧ tomb y.2 = false ∧ rt y.2 = rt x.2 ∧ y.1 = x.1 ++ r
theorem Emb.small {m : Mp} {B : Nat} {h h0 : Hp} {w : World} {s : Nat → Nat} (E : Emb m B h w) (hr : h0.rows) (hf : h0.fits s h) : Emb (fun i => m (s i)) w.heap.size h0 w where
  len := hr.1
  lies := fun b x hb hx => by
    obtain ⟨y, r, h1, h2, h3, h4⟩ := hf b x hb hx
    obtain ⟨r', z, l0, l1, _⟩ := E.lies _ _ h1 h2
    have calm := (hr.2 b x hb).2.1
    have e : x.1.map (mv1 m) = x.1.map (mv1 fun i => m (s i)) := still_map calm
    rw [h4, List.map_append] at l0 l1
    refine ⟨r.map (mv1 m) ++ r', z, ?_, ?_, fun hro => ?_⟩
    · simp at l0 ⊢; omega
    · rw [← e, l1, List.append_assoc]
    · rw [(hr.2 b x hb).1] at hro; cases hro
  low := fun b x hb hro => by rw [(hr.2 b x hb).1] at hro; cases hro
  ros := fun b x hb hx _ => by
    obtain ⟨y, r, h1, h2, _, _⟩ := hf b x hb hx
    exact E.here h1 h2
  inj := fun b b' x x' hb _ hro => by rw [(hr.2 b x hb).1] at hro; cases hro
  wf := fun b x hb v hv => still_lt (Nat.lt_of_le_of_lt (Nat.zero_le _) (Hp.blk_lt hb)) ((hr.2 b x hb).2.1 v hv)
  base := Nat.le_refl _
  ice := fun k h1 h2 => by omega
  abs := fun b x hb hx => by rw [(hr.2 b x hb).2.2] at hx; cases hx
/-- behind such a call: the value in the caller's numbers; no block of the call's own is kept -/
theorem row_calls {T : Tab} {f : Nat} {F : Func} {c : Code} (hF : T.P.funcs[f]? = some F) (hc : F.body = some c) {h0 : Hp} (hr : h0.rows) {vals : List Value} (hvals : ∀ v ∈ vals, lt h0.n v = true) {v : Value} (hv : oc (List.range h0.n) v = true)
    (hrun : Runs T c (vals ++ List.replicate (F.ntmps - vals.length) undef, h0, []) fun e y => (e = none ∨ e = some none) ∧ resS T.P F y.1 y.2.1 = some v)
    {m : Mp} {B : Nat} {h : Hp} {w : World} (E : Emb m B h w) {s : Nat → Nat} (hs : ∀ i, i < h0.n → s i < h.n) (hf : h0.fits s h) :
    Calls T.P f ((vals.map (rn s)).map (mv m)).toArray w fun e w' => e = .returned (mv m (rn s v)) ∧ Came m B h w (rn s v) h m w' := by
  have E0 := E.small hr hf
  have ev : (vals.map (rn s)).map (mv m) = vals.map (mv fun i => m (s i)) := by
    rw [List.map_map]
    exact List.map_congr_left fun y _ => mv_rn m s y
  rw [ev]
  refine calls_of_wp hF hc ?_
  have R : Rel (fun i => m (s i)) w.heap.size (vals ++ List.replicate (F.ntmps - vals.length) undef, h0, []) { tmps := (vals.map (mv fun i => m (s i))).toArray ++ Array.replicate (F.ntmps - (vals.map (mv fun i => m (s i))).toArray.size) undef, defers := [] } w := by
    refine ⟨?_, rfl, E0, ?_⟩
    · simp [mv_undef]
    · intro y hy
      rcases List.mem_append.1 hy with hy | hy
      · exact hvals y hy
      · rw [List.eq_of_mem_replicate hy]; simp [undef, lt]
  refine hrun _ _ _ w R _ fun e y he a' w' hR => ?_
  obtain ⟨hex, hres⟩ := he
  obtain ⟨m1, k1, k2, k3, _⟩ := hR
  obtain ⟨r1, r2⟩ := resS_run k2.emb k2.wf hres
  rw [← k2.tmps] at r1
  have e1 : mv m1 v = mv m (rn s v) := by
    rw [mv_rn]
    exact mv_on (fun b hb => k1 b (by simpa using hb)) hv
  rw [e1] at r1
  have td : Tidy w w' := ⟨k3, fun k h1 h2 => k2.emb.ice k h1 h2⟩
  obtain ⟨E', hb⟩ := clean_emb E td
  have post : a'.defers = [] ∧ ∃ v', (results F a'.tmps).run T.P w' = .ok v' w' ∧ (Ending.returned v' = .returned (mv m (rn s v)) ∧ Came m B h w (rn s v) h m w') :=
    ⟨k2.dfr, _, r1, rfl, ⟨Agree.refl _ _, E', hb, Nat.le_refl _, oc_ren (fun b hb => hs b (by simpa using hb)) hv⟩⟩
  rcases hex with rfl | rfl <;> exact post
/-- the same, where one block of the call's own is kept: 'k' in the small memory, the next one in the caller's -/
theorem row_calls1 {T : Tab} {f : Nat} {F : Func} {c : Code} (hF : T.P.funcs[f]? = some F) (hc : F.body = some c) {h0 : Hp} (hr : h0.rows) {vals : List Value} (hvals : ∀ v ∈ vals, lt h0.n v = true) {v : Value} {k : Nat}
    {cs : List Value} {ty : TypeId} (hcs : ∀ u ∈ cs, lt1 0 u = true) (hty : ro ty = false)
    (hrun : RunsW T c (vals ++ List.replicate (F.ntmps - vals.length) undef, h0, []) fun e y => (e = none ∨ e = some none) ∧ resS T.P F y.1 y.2.1 = some v ∧ ∃ r, y.2.1.blk? k = some (cs ++ r, ty))
    (hv0 : oc [k] v = true)
    {m : Mp} {B : Nat} {h : Hp} {w : World} (E : Emb m B h w) {s : Nat → Nat} (hf : h0.fits s h) :
    Calls T.P f ((vals.map (rn s)).map (mv m)).toArray w fun e w' => ∃ m', e = .returned (mv m' (rn (fun _ => h.n) v)) ∧ Came m B h w (rn (fun _ => h.n) v) (h.push cs ty) m' w' := by
  have E0 := E.small hr hf
  have ev : (vals.map (rn s)).map (mv m) = vals.map (mv fun i => m (s i)) := by
    rw [List.map_map]
    exact List.map_congr_left fun y _ => mv_rn m s y
  rw [ev]
  refine calls_of_wp hF hc ?_
  have R : Rel (fun i => m (s i)) w.heap.size (vals ++ List.replicate (F.ntmps - vals.length) undef, h0, []) { tmps := (vals.map (mv fun i => m (s i))).toArray ++ Array.replicate (F.ntmps - (vals.map (mv fun i => m (s i))).toArray.size) undef, defers := [] } w := by
    refine ⟨?_, rfl, E0, ?_⟩
    · simp [mv_undef]
    · intro y hy
      rcases List.mem_append.1 hy with hy | hy
      · exact hvals y hy
      · rw [List.eq_of_mem_replicate hy]; simp [undef, lt]
  refine hrun _ _ _ w R _ fun e y he m1 a' w' k2 k3 => ?_
  obtain ⟨hex, hres, r, hblk⟩ := he
  obtain ⟨r1, r2⟩ := resS_run k2.emb k2.wf hres
  rw [← k2.tmps] at r1
  have td : Tidy w w' := ⟨k3, fun k h1 h2 => k2.emb.ice k h1 h2⟩
  obtain ⟨E', hb⟩ := clean_emb E td
  have hlow : w.heap.size ≤ (m1 k).1 := k2.emb.low k _ hblk hty
  have hlie : lie w' (m1 k) (cs.map (mv1 m)) ty := by
    obtain ⟨r', z, l0, l1, l2⟩ := k2.emb.lies k _ hblk (tomb_ro hty)
    have e : cs.map (mv1 m1) = cs.map (mv1 m) := map_still hcs
    simp only [List.map_append] at l0 l1
    refine ⟨r.map (mv1 m1) ++ r', z, ?_, ?_, l2⟩
    · simp at l0 ⊢; omega
    · rw [← e, l1, List.append_assoc]
  have Ea := E'.adopt cs ty hty (fun u hu => lt1_mono (Nat.zero_le _) (hcs u hu)) hlie (Nat.le_trans E.base hlow) (fun b x hbx hx heq => by
    have := E.here hbx (tomb_ro hx)
    omega)
  have e1 : mv m1 v = mv (upd m h.n (m1 k)) (rn (fun _ => h.n) v) := by
    rw [mv_rn]
    refine mv_on (fun b hb => ?_) hv0
    rw [List.mem_singleton.1 hb]
    simp [upd]
  rw [e1] at r1
  have post : a'.defers = [] ∧ ∃ v', (results F a'.tmps).run T.P w' = .ok v' w' ∧ ∃ m', Ending.returned v' = .returned (mv m' (rn (fun _ => h.n) v)) ∧ Came m B h w (rn (fun _ => h.n) v) (h.push cs ty) m' w' :=
    ⟨k2.dfr, _, r1, upd m h.n (m1 k), rfl, ⟨upd_agree _ _ _, Ea, hb, Nat.le_succ _, oc_ren (bs := [k]) (fun b hb => by show h.n < h.n + 1; omega) hv0⟩⟩
  rcases hex with rfl | rfl <;> exact post
theorem compact {m : Mp} {B : Nat} {t t' : List Value} {h h' : Hp} {s : List Dec} {a : Act} {w : World} (R : Rel m B (t, h, s) a w) (f : Nat → Nat) (hl : h'.l.length = h'.n)
    (hb : ∀ i x, h'.blk? i = some x → (∀ v ∈ x.1, still v = true) ∧ ∃ y r, h.blk? (f i) = some y ∧ y.2 = x.2 ∧ y.1 = x.1 ++ r)
    (hi : ∀ i j x y, h'.blk? i = some x → h'.blk? j = some y → ro x.2 = false → ro y.2 = false → f i = f j → i = j)
    (ht : t'.map (mv fun i => m (f i)) = t.map (mv m)) (hw : ∀ v ∈ t', lt h'.n v = true) : Rel (fun i => m (f i)) B (t', h', s) a w := by
  have E := R.emb
  refine ⟨by rw [R.tmps]; simp only; rw [ht], R.dfr, ?_, hw⟩
  refine ⟨hl, ?_, ?_, ?_, ?_, ?_, E.base, E.ice, ?_⟩
  · intro b x hx ht
    obtain ⟨q1, y, r, q2, q3, q4⟩ := hb b x hx
    obtain ⟨r0, z, e1, e2, e3⟩ := E.lies (f b) y q2 (by rw [q3]; exact ht)
    rw [q4, List.map_append, still_map (m' := fun i => m (f i)) q1] at e1 e2
    refine ⟨r.map (mv1 m) ++ r0, z, by rw [← e1]; simp; omega, by rw [e2, List.append_assoc], by rw [← q3]; exact e3⟩
  · intro b x hx hr
    obtain ⟨_, y, r, q2, q3, _⟩ := hb b x hx
    exact E.low (f b) y q2 (by rw [q3]; exact hr)
  · intro b x hx ht hr
    obtain ⟨_, y, r, q2, q3, _⟩ := hb b x hx
    exact E.ros (f b) y q2 (by rw [q3]; exact ht) (by rw [q3]; exact hr)
  · intro b b' x x' hx hx' hr hr' he
    obtain ⟨_, y, r, q2, q3, _⟩ := hb b x hx
    obtain ⟨_, y', r', q2', q3', _⟩ := hb b' x' hx'
    exact hi b b' x x' hx hx' hr hr' (E.inj _ _ y y' q2 q2' (by rw [q3]; exact hr) (by rw [q3']; exact hr') he)
  · intro b x hx v hv
    exact still_lt (Nat.lt_of_le_of_lt (Nat.zero_le _) (Hp.blk_lt hx)) ((hb b x hx).1 v hv)
  · intro b x hx ha
    obtain ⟨q1, y, r, q2, q3, q4⟩ := hb b x hx
    obtain ⟨e1, r0, t0, z, e2, e3⟩ := E.abs (f b) y q2 (by rw [q3]; exact ha)
    rw [q3] at e1 e2 e3
    rw [q4, List.map_append, still_map (m' := fun i => m (f i)) q1] at e2 e3
    exact ⟨e1, r.map (mv1 m) ++ r0, t0, z, by rw [e2, List.append_assoc], by rw [List.length_append]; rw [List.length_append] at e3; omega⟩
/-- the temporaries that are needed, with their blocks' new numbers; the others as the world has them -/
theorem anew {m : Mp} (f : Nat → Nat) {front front' rest : List Value} (h : front'.map (rn f) = front) : (front' ++ rest.map (fun v => Value.iface dead (mv m v))).map (mv fun i => m (f i)) = (front ++ rest).map (mv m) := by
  rw [List.map_append, List.map_append, ← h, List.map_map, List.map_map]
  congr 1
  · exact List.map_congr_left fun v _ => (mv_rn m f v).symm
/-- the memory made small behind a piece of code -/
theorem RunsW.small {T : Tab} {c : Code} {x : Lf} {P : Ex → Lf → Prop} (hr : RunsW T c x P) {P' : Ex → Lf → Prop}
    (hp : ∀ e y, P e y → P' e y ∨ ∃ (front front' rest : List Value) (h h' : Hp) (s : List Dec) (f : Nat → Nat), y = (front ++ rest, h, s) ∧ front'.map (rn f) = front ∧ h'.l.length = h'.n ∧ 0 < h'.n ∧
      (∀ i x, h'.blk? i = some x → (∀ v ∈ x.1, still v = true) ∧ ∃ y r, h.blk? (f i) = some y ∧ y.2 = x.2 ∧ y.1 = x.1 ++ r) ∧
      (∀ i j x y, h'.blk? i = some x → h'.blk? j = some y → ro x.2 = false → ro y.2 = false → f i = f j → i = j) ∧ (∀ v ∈ front', lt h'.n v = true) ∧ ∀ g, P' e (front' ++ tl rest.length g, h', s)) : RunsW T c x P' := by
  intro m B a w R Q hQ
  refine hr m B a w R Q fun e y he m' a' w' R' hb' => ?_
  rcases hp e y he with h1 | ⟨front, front', rest, h, h', s, f, rfl, e1, e2, e3, e4, e5, e6, e7⟩
  · exact hQ e y h1 m' a' w' R' hb'
  · obtain ⟨g, hg⟩ := tl_of (J := rest.map (fun v => Value.iface dead (mv m' v))) (n := rest.length) (by simp)
    refine hQ e _ (e7 g) _ a' w' (compact R' f e2 e4 e5 (by rw [← hg]; exact anew f e1) ?_) hb'
    intro v hv
    rw [← hg] at hv
    rcases List.mem_append.1 hv with hv | hv
    · exact e6 v hv
    · obtain ⟨u, _, rfl⟩ := List.mem_map.1 hv
      simp [lt, lt2, lt1, e3, dead]
/-- a 'for', its memory made small behind each round -/
theorem RunsW.forLoop {T : Tab} {c : Code} {id : Nat} {x : Lf} {P : Lf → Prop} {R : Lf → Prop} (Inv : Nat → Lf → Prop)
    (round : ∀ n x, Inv n x → RunsW T c x fun e y => match e with | none => ∃ n', n' < n ∧ Inv n' y | some none => R y | some (some id') => id' = id ∧ P y) {n : Nat} (h0 : Inv n x) :
    RunsW T (.block id (.loop c)) x fun e y => match e with | none => P y | some none => R y | some (some _) => False := by
  refine RunsW.block (P1 := fun e y => match e with | none => False | some none => R y | some (some id') => id' = id ∧ P y) ?_ (fun y he => he.elim) (fun y he => he) (fun y he => he.2) (fun id' y hid he => absurd he.1 hid)
  refine RunsW.loop Inv (fun n x hI => (round n x hI).mono fun e y he => ?_) h0
  match e, he with
  | none, he => exact he
  | some none, he => exact he
  | some (some id'), he => exact he
theorem goesT_runsW {T : Tab} (hT : TabOk T) {N : Nat} {c : Code} {t : List Value} {h h' : Hp} {s s0 : List Dec} {k n : Nat} {e : Ex} {front : List Value} {cs : Log} (hG : GoesT (evC T N false c (t, h, s) ⟨[], [], []⟩) k n e front h' cs) (hcs : okLog cs) :
    RunsW T c (t, h, s0) fun e' y => e' = e ∧ (∃ g, y.1 = front ++ tl n g) ∧ y.2.1 = h' := (goesT_runs hT hG hcs).w
theorem tl_len (n : Nat) (g : Nat → Value) : (tl n g).length = n := by simp [tl]
/-- two blocks of a memory kept, the first and another one -/
def keep2 (b : Nat) (i : Nat) : Nat := if i = 0 then 0 else b
theorem blkTwo {x y : List Value × TypeId} {i : Nat} {z : List Value × TypeId} (h : (⟨2, [y, x]⟩ : Hp).blk? i = some z) : (i = 0 ∧ z = x) ∨ (i = 1 ∧ z = y) := by
  have : i < 2 := Hp.blk_lt h
  have : i = 0 ∨ i = 1 := by omega
  rcases this with rfl | rfl
  · exact .inl ⟨rfl, (Option.some.inj h).symm⟩
  · exact .inr ⟨rfl, (Option.some.inj h).symm⟩
/-- behind a round: the first block and the newest one are kept -/
theorem RunsW.two {T : Tab} {c : Code} {x0 : Lf} {ex : Ex} {front front' : List Value} {n b : Nat} {h : Hp} {x y : List Value × TypeId} (hr : RunsW T c x0 fun e z => e = ex ∧ (∃ g, z.1 = front ++ tl n g) ∧ z.2.1 = h)
    (hf : front'.map (rn (keep2 b)) = front) (hx : h.blk? 0 = some x) (hy : h.blk? b = some y) (hb : b ≠ 0) (sx : ∀ v ∈ x.1, still v = true) (sy : ∀ v ∈ y.1, still v = true) (hw : ∀ v ∈ front', lt 2 v = true) :
    RunsW T c x0 fun e z => e = ex ∧ (∃ g, z.1 = front' ++ tl n g) ∧ z.2.1 = ⟨2, [y, x]⟩ := by
  refine hr.small fun e z he => .inr ?_
  obtain ⟨rfl, ⟨g, h1⟩, h2⟩ := he
  obtain ⟨t, h', s⟩ := z
  simp only at h1 h2
  subst h1 h2
  refine ⟨front, front', tl n g, h', ⟨2, [y, x]⟩, s, keep2 b, rfl, hf, rfl, (by show 0 < 2; omega), fun i z hz => ?_, fun i j u v hi hj _ _ hij => ?_, hw, fun g' => ⟨rfl, ⟨g', by rw [tl_len]⟩, rfl⟩⟩
  · rcases blkTwo hz with ⟨rfl, rfl⟩ | ⟨rfl, rfl⟩
    · exact ⟨sx, z, [], by simpa [keep2] using hx, rfl, by simp⟩
    · exact ⟨sy, z, [], by simpa [keep2] using hy, rfl, by simp⟩
  · rcases blkTwo hi with ⟨rfl, _⟩ | ⟨rfl, _⟩ <;> rcases blkTwo hj with ⟨rfl, _⟩ | ⟨rfl, _⟩
    · rfl
    · simp [keep2] at hij; exact absurd hij.symm hb
    · simp [keep2] at hij; exact absurd hij hb
    · rfl
/-- the first blocks of a memory kept, and another one -/
def keepK (k b : Nat) (i : Nat) : Nat := if Nat.blt i k = true then i else b
theorem blkK1 {base : List (List Value × TypeId)} {k : Nat} (hk : base.length = k) {y : List Value × TypeId} {i : Nat} {z : List Value × TypeId} (h : (⟨k + 1, y :: base⟩ : Hp).blk? i = some z) : (i < k ∧ (⟨k, base⟩ : Hp).blk? i = some z) ∨ (i = k ∧ z = y) := by
  have hi : i < k + 1 := Hp.blk_lt h
  by_cases h0 : i = k
  · subst h0
    have : (⟨i + 1, y :: base⟩ : Hp).blk? i = some y := by
      unfold Hp.blk?
      rw [if_pos (blt_iff.2 (by show i < i + 1; omega))]
      show (y :: base)[i + 1 - 1 - i]? = some y
      rw [show i + 1 - 1 - i = 0 from by omega]
      rfl
    rw [this] at h
    exact .inr ⟨rfl, (Option.some.inj h).symm⟩
  · refine .inl ⟨by omega, ?_⟩
    unfold Hp.blk? at h ⊢
    rw [if_pos (blt_iff.2 (by show i < k + 1; omega))] at h
    rw [if_pos (blt_iff.2 (by show i < k; omega))]
    have e : k + 1 - 1 - i = (k - 1 - i) + 1 := by omega
    have h' : (y :: base)[k + 1 - 1 - i]? = some z := h
    rw [e, List.getElem?_cons_succ] at h'
    exact h'
/-- behind a round: the first blocks and one more are kept -/
theorem RunsW.kept {T : Tab} {c : Code} {x0 : Lf} {ex : Ex} {front front' : List Value} {n k b : Nat} {h : Hp} {base : List (List Value × TypeId)} {y : List Value × TypeId} (hr : RunsW T c x0 fun e z => e = ex ∧ (∃ g, z.1 = front ++ tl n g) ∧ z.2.1 = h)
    (hk : base.length = k) (hf : front'.map (rn (keepK k b)) = front) (hx : ∀ i x, (⟨k, base⟩ : Hp).blk? i = some x → h.blk? i = some x ∧ ∀ v ∈ x.1, still v = true) (hy : h.blk? b = some y) (hb : k ≤ b) (sy : ∀ v ∈ y.1, still v = true) (hw : ∀ v ∈ front', lt (k + 1) v = true) :
    RunsW T c x0 fun e z => e = ex ∧ (∃ g, z.1 = front' ++ tl n g) ∧ z.2.1 = ⟨k + 1, y :: base⟩ := by
  refine hr.small fun e z he => .inr ?_
  obtain ⟨rfl, ⟨g, h1⟩, h2⟩ := he
  obtain ⟨t, h', s⟩ := z
  simp only at h1 h2
  subst h1 h2
  refine ⟨front, front', tl n g, h', ⟨k + 1, y :: base⟩, s, keepK k b, rfl, hf, by simp [hk], Nat.succ_pos _, fun i z hz => ?_, fun i j u v hi hj _ _ hij => ?_, hw, fun g' => ⟨rfl, ⟨g', by rw [tl_len]⟩, rfl⟩⟩
  · rcases blkK1 hk hz with ⟨hi, hz'⟩ | ⟨rfl, rfl⟩
    · obtain ⟨q1, q2⟩ := hx i z hz'
      exact ⟨q2, z, [], by unfold keepK; rw [if_pos (blt_iff.2 hi)]; exact q1, rfl, by simp⟩
    · exact ⟨sy, z, [], by unfold keepK; rw [if_neg (by rw [blt_iff]; omega)]; exact hy, rfl, by simp⟩
  · unfold keepK at hij
    rcases blkK1 hk hi with ⟨h1, _⟩ | ⟨rfl, _⟩ <;> rcases blkK1 hk hj with ⟨h2, _⟩ | ⟨rfl, _⟩
    · rw [if_pos (blt_iff.2 h1), if_pos (blt_iff.2 h2)] at hij; exact hij
    · rw [if_pos (blt_iff.2 h1), if_neg (by rw [blt_iff]; omega)] at hij; omega
    · rw [if_pos (blt_iff.2 h2), if_neg (by rw [blt_iff]; omega)] at hij; omega
    · rfl
/-- a call with rows whose answer holds no address, and that keeps no block -/
theorem row_calls0 {T : Tab} {f : Nat} {F : Func} {c : Code} (hF : T.P.funcs[f]? = some F) (hc : F.body = some c) {h0 : Hp} (hr : h0.rows) {vals : List Value} (hvals : ∀ v ∈ vals, lt h0.n v = true) {v : Value} (hv : lt 0 v = true)
    (hrun : RunsW T c (vals ++ List.replicate (F.ntmps - vals.length) undef, h0, []) fun e y => (e = none ∨ e = some none) ∧ resS T.P F y.1 y.2.1 = some v)
    {m : Mp} {B : Nat} {h : Hp} {w : World} (E : Emb m B h w) {s : Nat → Nat} (hf : h0.fits s h) :
    Calls T.P f ((vals.map (rn s)).map (mv m)).toArray w fun e w' => ∃ m', e = .returned (mv m' v) ∧ Came m B h w v h m' w' := by
  have E0 := E.small hr hf
  have ev : (vals.map (rn s)).map (mv m) = vals.map (mv fun i => m (s i)) := by
    rw [List.map_map]
    exact List.map_congr_left fun y _ => mv_rn m s y
  rw [ev]
  refine calls_of_wp hF hc ?_
  have R : Rel (fun i => m (s i)) w.heap.size (vals ++ List.replicate (F.ntmps - vals.length) undef, h0, []) { tmps := (vals.map (mv fun i => m (s i))).toArray ++ Array.replicate (F.ntmps - (vals.map (mv fun i => m (s i))).toArray.size) undef, defers := [] } w := by
    refine ⟨?_, rfl, E0, ?_⟩
    · simp [mv_undef]
    · intro y hy
      rcases List.mem_append.1 hy with hy | hy
      · exact hvals y hy
      · rw [List.eq_of_mem_replicate hy]; simp [undef, lt]
  refine hrun _ _ _ w R _ fun e y he m1 a' w' k2 k3 => ?_
  obtain ⟨hex, hres⟩ := he
  obtain ⟨r1, r2⟩ := resS_run k2.emb k2.wf hres
  rw [← k2.tmps, mv_still hv] at r1
  have td : Tidy w w' := ⟨k3, fun k h1 h2 => k2.emb.ice k h1 h2⟩
  obtain ⟨E', hb⟩ := clean_emb E td
  have post : a'.defers = [] ∧ ∃ v', (results F a'.tmps).run T.P w' = .ok v' w' ∧ ∃ m', Ending.returned v' = .returned (mv m' v) ∧ Came m B h w v h m' w' :=
    ⟨k2.dfr, _, r1, m, by rw [mv_still hv], ⟨Agree.refl _ _, E', hb, Nat.le_refl _, lt_mono (Nat.zero_le _) hv⟩⟩
  rcases hex with rfl | rfl <;> exact post
end Go.KRun
