/-
  The program's rounding of one word, in plain terms.
-/
import Derived.Test.YteglhjkpcljpmaaG14
import Derived.Test.YteglhjkpcljpmaaG12
import Derived.Test.YteglhjkpcljpmaaG13
namespace Go.Proofs.Yteglhjkpcljpmaa
open Go.KRun Go.Wd Go.Pt Go.Rn
set_option maxRecDepth 100000

theorem w1_nat {x : Int} (h : 0 ≤ x) (h1 : x < 18446744073709551616) : (⟨x, 0, 0, 0⟩ : W4).ok ∧ (⟨x, 0, 0, 0⟩ : W4).nat = x.toNat := by
  refine ⟨⟨⟨h, h1⟩, ⟨by dsimp only; omega, by dsimp only; omega⟩, ⟨by dsimp only; omega, by dsimp only; omega⟩, ⟨by dsimp only; omega, by dsimp only; omega⟩⟩, ?_⟩
  unfold W4.nat W4.val
  simp only [Int.mul_zero, Int.add_zero]
/-- the program's rounding in plain terms -/
theorem rd_w9 (m : Int) (n : Bool) {x : W4} (hx : x.ok) {C D : Int} (h : C = D ∨ (1700 ≤ C ∧ 1700 ≤ D) ∨ (C ≤ -1700 ∧ D ≤ -1700)) : rdV m n (tw x false) (clp C - 1) = rdT (sS n (rnP m n x.nat D)) (rnF m n x.nat D) := by
  obtain ⟨p, f⟩ := same_round (m := m) (neg := n) hx false (C := clp C) (D := D) (by unfold clp; split <;> split <;> omega)
  unfold rdV
  rw [p, f]
  simp only [rT, jB, Int.sub_zero]
end Go.Proofs.Yteglhjkpcljpmaa

/-
  PLAIN ARITHMETIC: a size T times 2^E, rounded to the pattern of 32 bits next to it, with the flags. No program is named here.
-/
namespace Go.Rn
open Go.Pt

def lowEN (T : Nat) (E : Int) : Int := if lgN T E - 23 ≤ -149 then -149 else lgN T E - 23
/-- the pattern, as if there were no greatest -/
def p0N (m : Int) (neg : Bool) (T : Nat) (E : Int) : Int := (lowEN T E + 149) * 8388608 + (toQ m neg T E (lowEN T E) : Nat)
def tinyN (m : Int) (neg : Bool) (T : Nat) (E : Int) : Bool := if lgN T E = -127 then decide (toQ m neg T E (-150) < 16777216) else decide (lgN T E < -126)
def beyN (m : Int) (neg : Bool) : Int := if upR m neg true 3 = true then 2139095040 else 2139095039
def rnPN (m : Int) (neg : Bool) (T : Nat) (E : Int) : Int := if T = 0 then 0 else if 2139095040 ≤ p0N m neg T E then beyN m neg else p0N m neg T E
def rnFN (m : Int) (neg : Bool) (T : Nat) (E : Int) : Int := if T = 0 then 0 else if 2139095040 ≤ p0N m neg T E then 20 else if toL T E (lowEN T E) = true then (if tinyN m neg T E = true then 24 else 16) else 0
theorem rnP_swMN (m : Int) (neg : Bool) (T : Nat) (E : Int) : rnPN (swM m) (!neg) T E = rnPN m neg T E := by
  unfold rnPN p0N beyN
  simp only [upR_swM, toQ_swM]
theorem rnF_swMN (m : Int) (neg : Bool) (T : Nat) (E : Int) : rnFN (swM m) (!neg) T E = rnFN m neg T E := by
  unfold rnFN p0N tinyN
  simp only [toQ_swM]
theorem lowE_scaleN {T : Nat} (h : T ≠ 0) (j : Nat) (E : Int) : lowEN (T * 2 ^ j) (E - j) = lowEN T E := by unfold lowEN; rw [lgN_scale h]
theorem p0_scaleN {T : Nat} (h : T ≠ 0) (m : Int) (neg : Bool) (j : Nat) (E : Int) : p0N m neg (T * 2 ^ j) (E - j) = p0N m neg T E := by unfold p0N; rw [lowE_scaleN h, toQ_scale]
theorem tiny_scaleN {T : Nat} (h : T ≠ 0) (m : Int) (neg : Bool) (j : Nat) (E : Int) : tinyN m neg (T * 2 ^ j) (E - j) = tinyN m neg T E := by unfold tinyN; rw [lgN_scale h, toQ_scale]
theorem rnP_scaleN (m : Int) (neg : Bool) (T j : Nat) (E : Int) : rnPN m neg (T * 2 ^ j) (E - j) = rnPN m neg T E := by
  unfold rnPN
  simp only [scale_ne]
  by_cases h : T = 0
  · rw [if_pos h, if_pos h]
  · rw [if_neg h, if_neg h, p0_scaleN h]
theorem rnF_scaleN (m : Int) (neg : Bool) (T j : Nat) (E : Int) : rnFN m neg (T * 2 ^ j) (E - j) = rnFN m neg T E := by
  unfold rnFN
  simp only [scale_ne]
  by_cases h : T = 0
  · rw [if_pos h, if_pos h]
  · rw [if_neg h, if_neg h, p0_scaleN h, tiny_scaleN h, lowE_scaleN h, toL_scale]
theorem low_hiN (m : Int) (neg : Bool) (T : Nat) (E : Int) : toQ m neg T E (lowEN T E) ≤ 16777216 := by
  refine toQ_le (n := 24) ?_
  unfold lowEN lgN
  split <;> omega
theorem low_loN {m : Int} {neg : Bool} {T : Nat} {E : Int} (hT : T ≠ 0) (h : -149 ≤ lgN T E - 23) : 8388608 ≤ toQ m neg T E (lowEN T E) := by
  refine toQ_ge (n := 23) hT ?_
  unfold lowEN lgN at *
  split <;> omega
theorem p0_monoN {m : Int} {neg : Bool} {T U : Nat} {E : Int} (hT : T ≠ 0) (h : T ≤ U) : p0N m neg T E ≤ p0N m neg U E := by
  have hl := lgN_mono E h
  unfold p0N
  by_cases he : lowEN T E = lowEN U E
  · rw [he]
    have := toQ_mono (m := m) (neg := neg) (E := E) (lowEN U E) h
    omega
  · have h1 := low_hiN m neg T E
    have h3 : -149 ≤ lgN U E - 23 ∧ lowEN T E + 1 ≤ lowEN U E := by
      unfold lowEN at he ⊢
      split at he <;> split at he <;> (try split) <;> (try split) <;> omega
    have h2 := low_loN (m := m) (neg := neg) (T := U) (E := E) (by omega) h3.1
    omega
theorem lowE_geN (T : Nat) (E : Int) : -149 ≤ lowEN T E := by unfold lowEN; split <;> omega
theorem p0_nonnegN (m : Int) (neg : Bool) (T : Nat) (E : Int) : 0 ≤ p0N m neg T E := by
  have := lowE_geN T E
  unfold p0N
  omega
theorem bey_orN (m : Int) (neg : Bool) : beyN m neg = 2139095040 ∨ beyN m neg = 2139095039 := by unfold beyN; split <;> simp
theorem rnP_bdN (m : Int) (neg : Bool) (T : Nat) (E : Int) : 0 ≤ rnPN m neg T E ∧ rnPN m neg T E ≤ 2139095040 := by
  have h := p0_nonnegN m neg T E
  have hb := bey_orN m neg
  unfold rnPN
  split
  · omega
  · split <;> omega
theorem rnP_monoN {m : Int} {neg : Bool} {T U : Nat} {E : Int} (h : T ≤ U) : rnPN m neg T E ≤ rnPN m neg U E := by
  have hU := rnP_bdN m neg U E
  by_cases hT : T = 0
  · unfold rnPN at *
    rw [if_pos hT]
    exact hU.1
  · have hp := p0_monoN (m := m) (neg := neg) (E := E) hT h
    have hb := bey_orN m neg
    unfold rnPN
    rw [if_neg hT, if_neg (show ¬ U = 0 by omega)]
    split <;> split <;> omega
/-- not the pattern's own number -/
def inexN (T : Nat) (E : Int) : Bool := decide (T ≠ 0) && (decide (2139095040 ≤ p0N 2 false T E) || toL T E (lowEN T E))
theorem p0_cutN (neg : Bool) (T : Nat) (E : Int) : p0N 2 neg T E = p0N 2 false T E := by
  have : ∀ n o c, upR 2 n o c = false := fun n o c => by unfold upR; split <;> simp
  unfold p0N toQ rq
  simp only [this]
def cutPN (T : Nat) (E : Int) : Int := rnPN 2 false T E
theorem rnP_cutN (neg : Bool) (T : Nat) (E : Int) : rnPN 2 neg T E = cutPN T E := by
  unfold cutPN rnPN
  rw [p0_cutN neg]
  simp [beyN, upR]
theorem p0_gupN (m : Int) (neg : Bool) (T : Nat) (E : Int) : p0N m neg T E = p0N 2 false T E + (if gup m neg T E (lowEN T E) = true then 1 else 0) := by
  have h := toQ_gup m neg T E (lowEN T E)
  rw [← p0_cutN neg]
  unfold p0N
  rw [h]
  split <;> omega
theorem cutP_eqN {T : Nat} {E : Int} (hT : T ≠ 0) : cutPN T E = if 2139095040 ≤ p0N 2 false T E then 2139095039 else p0N 2 false T E := by
  unfold cutPN rnPN
  rw [if_neg hT]
  simp [beyN, upR]
theorem exact_ofN {m : Int} {neg : Bool} {T : Nat} {E : Int} (h : inexN T E = false) : rnPN m neg T E = cutPN T E ∧ rnFN m neg T E = 0 := by
  by_cases hT : T = 0
  · unfold cutPN rnPN rnFN; simp [hT]
  · have h' := h
    unfold inexN at h'
    simp only [ne_eq, hT, not_false_eq_true, decide_true, Bool.true_and, Bool.or_eq_false_iff, decide_eq_false_iff_not] at h'
    have hg := gup_lost (m := m) (neg := neg) h'.2
    have hp := p0_gupN m neg T E
    rw [hg] at hp
    simp only [Bool.false_eq_true, if_false, Int.add_zero] at hp
    rw [cutP_eqN hT]
    unfold rnPN rnFN
    rw [hp]
    simp [hT, h'.1, h'.2]
theorem inex_FN {m : Int} {neg : Bool} {T : Nat} {E : Int} (h : inexN T E = true) : rnFN m neg T E = 16 ∨ rnFN m neg T E = 20 ∨ rnFN m neg T E = 24 := by
  unfold inexN at h
  simp only [ne_eq, Bool.and_eq_true, Bool.or_eq_true, decide_eq_true_eq] at h
  have hp := p0_gupN m neg T E
  unfold rnFN
  rw [if_neg h.1]
  split
  · simp
  · rename_i h2
    rcases h.2 with h3 | h3
    · exfalso; apply h2; rw [hp]; split <;> omega
    · rw [if_pos h3]
      split <;> simp
theorem cut_bdN {T : Nat} {E : Int} (h : inexN T E = true) : 0 ≤ cutPN T E ∧ cutPN T E ≤ 2139095039 := by
  have h0 := p0_nonnegN 2 false T E
  unfold inexN at h
  simp only [ne_eq, Bool.and_eq_true, Bool.or_eq_true, decide_eq_true_eq] at h
  rw [cutP_eqN h.1]
  split <;> omega
theorem inex_PN {m : Int} {neg : Bool} {T : Nat} {E : Int} (h : inexN T E = true) : rnPN m neg T E = cutPN T E ∨ rnPN m neg T E = cutPN T E + 1 := by
  have hi := h
  unfold inexN at h
  simp only [ne_eq, Bool.and_eq_true, Bool.or_eq_true, decide_eq_true_eq] at h
  have hb := bey_orN m neg
  have hp := p0_gupN m neg T E
  rw [cutP_eqN h.1]
  unfold rnPN
  rw [if_neg h.1, hp]
  by_cases hg : gup m neg T E (lowEN T E) = true
  · rw [if_pos hg]
    by_cases h4 : 2139095040 ≤ p0N 2 false T E
    · rw [if_pos h4, if_pos (by omega)]; omega
    · rw [if_neg h4]
      by_cases h5 : 2139095040 ≤ p0N 2 false T E + 1
      · rw [if_pos h5]; omega
      · rw [if_neg h5]; omega
  · rw [if_neg hg]
    by_cases h4 : 2139095040 ≤ p0N 2 false T E
    · rw [if_pos h4, if_pos (by omega)]; omega
    · rw [if_neg h4, if_neg (by omega)]; omega
theorem inex_sideN {neg : Bool} {T : Nat} {E : Int} (h : inexN T E = true) : rnPN 3 neg T E = cutPN T E + (if neg = true then 0 else 1) ∧ rnPN 4 neg T E = cutPN T E + (if neg = true then 1 else 0) := by
  have hi := h
  unfold inexN at h
  simp only [ne_eq, Bool.and_eq_true, Bool.or_eq_true, decide_eq_true_eq] at h
  have hp3 := p0_gupN 3 neg T E
  have hp4 := p0_gupN 4 neg T E
  rw [cutP_eqN h.1]
  unfold rnPN
  rw [if_neg h.1, if_neg h.1]
  by_cases h4 : 2139095040 ≤ p0N 2 false T E
  · rw [if_pos (show 2139095040 ≤ p0N 3 neg T E by rw [hp3]; split <;> omega), if_pos (show 2139095040 ≤ p0N 4 neg T E by rw [hp4]; split <;> omega), if_pos h4]
    cases neg <;> simp [beyN, upR]
  · rw [if_neg h4]
    have hl : toL T E (lowEN T E) = true := by
      rcases h.2 with h5 | h5
      · exact absurd h5 h4
      · exact h5
    obtain ⟨g3, g4, _⟩ := gup_side (neg := neg) hl
    rw [g3] at hp3
    rw [g4] at hp4
    cases neg
    · simp only [Bool.not_false, if_true, Bool.false_eq_true, if_false, Int.add_zero] at *
      rw [hp3, hp4, if_neg h4]
      refine ⟨?_, rfl⟩
      split
      · simp [beyN, upR]; omega
      · rfl
    · simp only [Bool.not_true, if_true, Bool.false_eq_true, if_false, Int.add_zero] at *
      rw [hp3, hp4, if_neg h4]
      refine ⟨rfl, ?_⟩
      split
      · simp [beyN, upR]; omega
      · rfl
theorem own_eqN {m : Int} {neg : Bool} {S : Nat} {x : Int} (hx : -149 ≤ x) (hS : S < 16777216) (h : x = -149 ∨ 8388608 ≤ S) (hb : (x + 149) * 8388608 + (S : Int) < 2139095040) (h0 : S = 0 → x = -149) :
    rnPN m neg S x = (x + 149) * 8388608 + (S : Int) ∧ rnFN m neg S x = 0 := by
  by_cases hz : S = 0
  · have := h0 hz
    subst hz
    subst this
    simp [rnPN, rnFN]
  · have hl : bitLen S ≤ 24 := len_le hS
    have he : lowEN S x = x := by
      unfold lowEN lgN
      rcases h with h | h
      · rw [if_pos (by omega)]; omega
      · have := le_len (T := S) (k := 23) h
        split <;> omega
    have hq : ∀ n, toQ n neg S x x = S := fun n => by unfold toQ; rw [if_pos (by omega), Int.sub_self]; simp
    have ht : toL S x x = false := by unfold toL; rw [if_pos (by omega)]
    unfold rnPN rnFN p0N
    rw [he, hq, ht, if_neg hz, if_neg hz, if_neg (by omega), if_neg (by omega)]
    simp
theorem rnP_mNN (m : Int) (neg : Bool) (T : Nat) (E : Int) : rnPN (mN m) neg T E = rnPN m neg T E := by
  unfold rnPN p0N beyN
  simp only [toQ_mN, upR_mN]
theorem rnF_mNN (m : Int) (neg : Bool) (T : Nat) (E : Int) : rnFN (mN m) neg T E = rnFN m neg T E := by
  unfold rnFN p0N tinyN
  simp only [toQ_mN]
/-- beyond all patterns -/
theorem p0_bigN {m : Int} {neg : Bool} {T : Nat} {E : Int} (hT : T ≠ 0) (h : 128 ≤ lgN T E) : 2139095040 ≤ p0N m neg T E := by
  have hq := low_loN (m := m) (neg := neg) (T := T) (E := E) hT (by omega)
  have hl : lowEN T E = lgN T E - 23 := by unfold lowEN; rw [if_neg (by omega)]
  unfold p0N
  rw [hl] at hq ⊢
  omega
theorem big_eqN {m : Int} {neg : Bool} {T : Nat} {E : Int} (hT : T ≠ 0) (h : 128 ≤ lgN T E) : rnPN m neg T E = beyN m neg ∧ rnFN m neg T E = 20 := by
  have := p0_bigN (m := m) (neg := neg) hT h
  unfold rnPN rnFN
  rw [if_neg hT, if_neg hT, if_pos this, if_pos this]
  exact ⟨rfl, rfl⟩
theorem len53N {q : Nat} (h0 : 8388608 ≤ q) (h1 : q ≤ 16777216) : bitLen q = if q = 16777216 then 25 else 24 := by
  split
  · rename_i h; rw [h]; exact len_uniq (k := 24) (by decide) (by decide)
  · exact len_uniq (k := 23) h0 (show q < 2 ^ 24 by have : (2 : Nat) ^ 24 = 16777216 := rfl; omega)
/-- Underflow -/
theorem tiny_docN {m : Int} {neg : Bool} {T : Nat} {E : Int} (hT : T ≠ 0) : decide ((bitLen (toQ m neg T E (lgN T E - 23)) : Int) + (lgN T E + 1) - 24 ≤ -126) = tinyN m neg T E := by
  have h0 : 8388608 ≤ toQ m neg T E (lgN T E - 23) := toQ_ge (n := 23) hT (by unfold lgN; omega)
  have h1 : toQ m neg T E (lgN T E - 23) ≤ 16777216 := toQ_le (n := 24) (by unfold lgN; omega)
  have hl := len53N h0 h1
  unfold tinyN
  by_cases he : lgN T E = -127
  · have e : lgN T E - 23 = -150 := by omega
    rw [e] at h0 h1 hl ⊢
    rw [if_pos he, hl]
    congr 1
    simp only [eq_iff_iff]
    split <;> omega
  · rw [if_neg he, hl]
    congr 1
    simp only [eq_iff_iff]
    split <;> omega
/-- Overflow -/
theorem over_docN {m : Int} {neg : Bool} {T : Nat} {E : Int} (hT : T ≠ 0) : decide ((bitLen (toQ m neg T E (lowEN T E)) : Int) + lowEN T E > 128) = decide (2139095040 ≤ p0N m neg T E) := by
  have h1 := low_hiN m neg T E
  have hle := lowE_geN T E
  congr 1
  simp only [eq_iff_iff]
  unfold p0N
  by_cases hn : lowEN T E = -149
  · have hl : bitLen (toQ m neg T E (lowEN T E)) ≤ 25 := by
      have : toQ m neg T E (lowEN T E) < 2 ^ 25 := by have e : (2 : Nat) ^ 25 = 33554432 := rfl; omega
      exact len_le this
    omega
  · have h0 := low_loN (m := m) (neg := neg) (E := E) hT (by unfold lowEN at hn; split at hn <;> omega)
    have hl := len53N h0 h1
    rw [hl]
    split <;> omega
end Go.Rn

/-
  PLAIN ARITHMETIC: products of patterns' numbers, and with a third one added, rounded; what rounding a product left.
-/
namespace Go.Rn
open Go.Nt Go.Wd Go.Pt

/-- a product's sign, size and power -/
def prN (a b : Int) : Bool := sgn a != sgn b
def prV (a b : Int) : Nat := (sg a).toNat * (sg b).toNat
def prE (a b : Int) : Int := xp a + xp b
theorem prN_comm (a b : Int) : prN a b = prN b a := by unfold prN; cases sgn a <;> cases sgn b <;> rfl
theorem prV_comm (a b : Int) : prV a b = prV b a := Nat.mul_comm _ _
theorem prE_comm (a b : Int) : prE a b = prE b a := by unfold prE; omega
theorem prE_bd (a b : Int) : -2148 ≤ prE a b ∧ prE a b ≤ 1944 := by
  have h1 := xp_bd a
  have h2 := xp_bd b
  unfold prE
  omega
theorem prV_lt (a b : Int) : prV a b < 81129638414606681695789005144064 := by
  have h1 := sg_lt a
  have h2 := sg_lt b
  have := Nat.mul_le_mul (show (sg a).toNat ≤ 9007199254740991 by omega) (show (sg b).toNat ≤ 9007199254740991 by omega)
  unfold prV
  omega
theorem may_prod (a b : Int) : May (prE a b) (prV a b) := by
  have h1 := prE_bd a b
  have h2 := prV_lt a b
  refine ⟨?_, by omega, by omega⟩
  have : (2 : Nat) ^ 128 = 340282366920938463463374607431768211456 := rfl
  omega
/-- the product, rounded -/
def mlP (m a b : Int) : Int := rnP m (prN a b) (prV a b) (prE a b)
def mlF (m a b : Int) : Int := rnF m (prN a b) (prV a b) (prE a b)
theorem ml_comm (m a b : Int) : mlP m a b = mlP m b a ∧ mlF m a b = mlF m b a := by
  unfold mlP mlF
  rw [prN_comm, prV_comm, prE_comm]
  exact ⟨rfl, rfl⟩
theorem ml_bd (m a b : Int) : 0 ≤ mlP m a b ∧ mlP m a b ≤ 9218868437227405312 := rnP_bd _ _ _ _
/-- the product and a third number, in units of 2^-2148; its sign; rounded -/
def fsI (a b c : Int) : Int := smI (-2148) (prN a b) (prE a b) (prV a b) (sgn c) (xp c) (sg c).toNat
def fsN (m a b c : Int) : Bool := sgS m (prN a b) (sgn c) (fsI a b c)
def fsP (m a b c : Int) : Int := rnP m (fsN m a b c) (fsI a b c).natAbs (-2148)
def fsF (m a b c : Int) : Int := rnF m (fsN m a b c) (fsI a b c).natAbs (-2148)
theorem fsI_comm (a b c : Int) : fsI a b c = fsI b a c := by unfold fsI; rw [prN_comm, prV_comm, prE_comm]
theorem fsN_comm (m a b c : Int) : fsN m a b c = fsN m b a c := by unfold fsN; rw [fsI_comm, prN_comm]
theorem fs_comm (m a b c : Int) : fsP m a b c = fsP m b a c ∧ fsF m a b c = fsF m b a c := by
  unfold fsP fsF
  rw [fsN_comm, fsI_comm]
  exact ⟨rfl, rfl⟩
theorem fs_bd (m a b c : Int) : 0 ≤ fsP m a b c ∧ fsP m a b c ≤ 9218868437227405312 := rnP_bd _ _ _ _

/-! ### with nothing added -/
theorem szF_zero (F E : Int) : szF F E 0 = 0 := by unfold szF; simp
theorem fs_zero {m a b c : Int} (h0 : sg c = 0) (hs : sgn c = prN a b) : fsN m a b c = prN a b ∧ fsP m a b c = mlP m a b ∧ fsF m a b c = mlF m a b := by
  have hE := prE_bd a b
  have e0 : fsI a b c = sgI (prN a b) (szF (-2148) (prE a b) (prV a b)) := by
    unfold fsI smI
    rw [h0, Int.toNat_zero, szF_zero]
    cases sgn c <;> simp [sgI]
  have ea : (fsI a b c).natAbs = szF (-2148) (prE a b) (prV a b) := by rw [e0]; exact sgI_abs _ _
  have hn : fsN m a b c = prN a b := by
    unfold fsN sgS
    by_cases hz : fsI a b c = 0
    · rw [if_pos hz, hs, if_pos rfl]
    · rw [if_neg hz, e0]
      refine (sgI_neg fun h => hz ?_).1
      rw [e0, h]
      cases prN a b <;> rfl
  have sp := rnP_scale m (prN a b) (prV a b) (prE a b - -2148).toNat (prE a b)
  have sf := rnF_scale m (prN a b) (prV a b) (prE a b - -2148).toNat (prE a b)
  have eE : prE a b - ((prE a b - -2148).toNat : Int) = -2148 := by omega
  rw [eE] at sp sf
  refine ⟨hn, ?_, ?_⟩
  · unfold fsP mlP; rw [hn, ea]; exact sp
  · unfold fsF mlF; rw [hn, ea]; exact sf

/-! ### times 1 -/
theorem one_num : sgn 4607182418800017408 = false ∧ xp 4607182418800017408 = -52 ∧ sg 4607182418800017408 = 4503599627370496 := by decide
theorem ml_one {m a : Int} (hf : ex a ≠ 2047) : prN a 4607182418800017408 = sgn a ∧ mlP m a 4607182418800017408 = mag a ∧ mlF m a 4607182418800017408 = 0 := by
  obtain ⟨o1, o2, o3⟩ := one_num
  have hn : prN a 4607182418800017408 = sgn a := by unfold prN; rw [o1]; cases sgn a <;> rfl
  have hv : prV a 4607182418800017408 = (sg a).toNat * 2 ^ 52 := by unfold prV; rw [o3]; rfl
  have he : prE a 4607182418800017408 = xp a - ((52 : Nat) : Int) := by unfold prE; rw [o2]; omega
  obtain ⟨q1, q2⟩ := own_pat (m := m) (neg := sgn a) hf
  unfold mlP mlF
  rw [hn, hv, he, rnP_scale, rnF_scale, q1, q2]
  exact ⟨rfl, rfl, rfl⟩

/-! ### the other sign -/
theorem prN_ng {a : Int} (ha : U a) (b : Int) : prN (ng a) b = !prN a b := by
  unfold prN
  rw [(ng_parts ha).2.1]
  cases sgn a <;> cases sgn b <;> rfl
theorem ml_ng {m a : Int} (ha : U a) (b : Int) : mlP (swM m) (ng a) b = mlP m a b ∧ mlF (swM m) (ng a) b = mlF m a b := by
  obtain ⟨e1, e2, _⟩ := ng_num ha
  unfold mlP mlF
  have eV : prV (ng a) b = prV a b := by unfold prV; rw [e2]
  have eE : prE (ng a) b = prE a b := by unfold prE; rw [e1]
  rw [prN_ng ha, eV, eE, rnP_swM, rnF_swM]
  exact ⟨rfl, rfl⟩
theorem ml_ng2 {m a b : Int} (ha : U a) (hb : U b) : prN (ng a) (ng b) = prN a b ∧ mlP m (ng a) (ng b) = mlP m a b ∧ mlF m (ng a) (ng b) = mlF m a b := by
  obtain ⟨e1, e2, _⟩ := ng_num ha
  obtain ⟨f1, f2, _⟩ := ng_num hb
  have eN : prN (ng a) (ng b) = prN a b := by rw [prN_ng ha, prN_comm, prN_ng hb, Bool.not_not, prN_comm]
  have eV : prV (ng a) (ng b) = prV a b := by unfold prV; rw [e2, f2]
  have eE : prE (ng a) (ng b) = prE a b := by unfold prE; rw [e1, f1]
  unfold mlP mlF
  rw [eN, eV, eE]
  exact ⟨rfl, rfl, rfl⟩

/-! ### a pattern that was rounded, as a number -/
theorem pat_num {e : Int} {q : Nat} (he : -1074 ≤ e) (hq : q ≤ 9007199254740992) (hlo : e = -1074 ∨ 4503599627370496 ≤ q) (hb : (e + 1074) * 4503599627370496 + (q : Int) < 9218868437227405312) :
    uV ((e + 1074) * 4503599627370496 + (q : Int)) = q * 2 ^ (e + 1074).toNat := by
  obtain ⟨j, hj⟩ : ∃ j : Nat, e = (j : Int) - 1074 := ⟨(e + 1074).toNat, by omega⟩
  have ej : (e + 1074).toNat = j := by omega
  have ej' : e + 1074 = (j : Int) := by omega
  rw [ej, ej']
  rw [ej'] at hb
  clear ej ej'
  unfold uV szF xp sg
  by_cases c0 : q < 4503599627370496
  · have j0 : j = 0 := by omega
    subst j0
    have ee : ex (((0 : Nat) : Int) * 4503599627370496 + (q : Int)) = 0 := by unfold ex; omega
    have ef : fr (((0 : Nat) : Int) * 4503599627370496 + (q : Int)) = (q : Int) := by unfold fr; omega
    rw [ee, ef]
    simp
  · by_cases c1 : q = 9007199254740992
    · have ee : ex ((j : Int) * 4503599627370496 + (q : Int)) = (j : Int) + 2 := by unfold ex; omega
      have ef : fr ((j : Int) * 4503599627370496 + (q : Int)) = 0 := by unfold fr; omega
      rw [ee, ef, if_neg (by omega), if_neg (by omega), if_neg (by omega), if_neg (by omega)]
      have e1 : ((j : Int) + 2 - 1075 - -1074).toNat = j + 1 := by omega
      rw [e1, c1, Nat.pow_succ]
      have e2 : ((0 : Int) + 4503599627370496).toNat = 4503599627370496 := rfl
      rw [e2]
      omega
    · have ee : ex ((j : Int) * 4503599627370496 + (q : Int)) = (j : Int) + 1 := by unfold ex; omega
      have ef : fr ((j : Int) * 4503599627370496 + (q : Int)) = (q : Int) - 4503599627370496 := by unfold fr; omega
      rw [ee, ef, if_neg (by omega), if_neg (by omega), if_neg (by omega), if_neg (by omega)]
      have e1 : ((j : Int) + 1 - 1075 - -1074).toNat = j := by omega
      have e2 : ((q : Int) - 4503599627370496 + 4503599627370496).toNat = q := by omega
      rw [e1, e2]
/-- what was rounded, and is finite -/
theorem rn_num {m : Int} {n : Bool} {T : Nat} {E : Int} (hT : T ≠ 0) (h : rnF m n T E = 0 ∨ rnF m n T E = 16 ∨ rnF m n T E = 24) :
    p0 m n T E < 9218868437227405312 ∧ rnP m n T E = p0 m n T E ∧ uV (rnP m n T E) = toQ m n T E (lowE T E) * 2 ^ (lowE T E + 1074).toNat ∧ (rnF m n T E = 0 ↔ toL T E (lowE T E) = false) := by
  have hb : p0 m n T E < 9218868437227405312 := by
    unfold rnF at h
    rw [if_neg hT] at h
    by_cases hc : 9218868437227405312 ≤ p0 m n T E
    · rw [if_pos hc] at h; omega
    · omega
  have hp : rnP m n T E = p0 m n T E := by unfold rnP; rw [if_neg hT, if_neg (by omega)]
  have hlo : lowE T E = -1074 ∨ 4503599627370496 ≤ toQ m n T E (lowE T E) := by
    by_cases h1 : lowE T E = -1074
    · exact .inl h1
    · right
      refine low_lo hT ?_
      unfold lowE at h1
      split at h1 <;> omega
  refine ⟨hb, hp, ?_, ?_⟩
  · rw [hp]
    exact pat_num (lowE_ge T E) (low_hi m n T E) hlo hb
  · unfold rnF
    rw [if_neg hT, if_neg (by omega)]
    cases toL T E (lowE T E) with
    | false => simp
    | true =>
      rw [if_pos rfl]
      split <;> simp

/-! ### what rounding to the nearest left -/
theorem rest_half (n : Bool) (T k : Nat) : (T : Int) - (rq 0 n T k : Int) * (2 ^ k : Nat) ≤ (2 ^ k : Nat) / 2 ∧ (rq 0 n T k : Int) * (2 ^ k : Nat) - (T : Int) ≤ (2 ^ k : Nat) / 2 := by
  have hd := Nat.div_add_mod T (2 ^ k)
  have hp : 0 < 2 ^ k := Nat.pow_pos (by omega)
  have hm := Nat.mod_lt T hp
  unfold rq upR restC
  generalize T / 2 ^ k = q at *
  generalize T % 2 ^ k = r at *
  generalize 2 ^ k = P at *
  have e1 : ((q + 1 : Nat) : Int) * (P : Int) = (P : Int) * q + P := by rw [Int.natCast_add, Int.add_mul]; simp [Int.mul_comm]
  have e0 : ((q + 0 : Nat) : Int) * (P : Int) = (P : Int) * q := by rw [Nat.add_zero, Int.mul_comm]
  have hd' : (P : Int) * q + r = T := by rw [← hd]; simp
  by_cases h0 : r = 0
  · simp only [h0, if_true, Bool.false_eq_true, if_false]
    rw [e0]
    omega
  · by_cases h1 : 2 * r < P
    · simp [h0, h1]
      rw [Int.mul_comm]
      omega
    · by_cases h2 : 2 * r = P
      · by_cases ho : odd q = true
        · simp [h0, h2, ho]
          rw [Int.add_mul, Int.mul_comm]
          omega
        · simp [h0, h2, ho]
          rw [Int.mul_comm]
          omega
      · simp [h0, h1, h2]
        rw [Int.add_mul, Int.mul_comm]
        omega
/-- few bits need no rounding -/
theorem few_bits {m k : Int} {n s : Bool} {D A : Nat} {E : Int} (hE : -1074 ≤ E) (hD : D < 9007199254740992) (hDA : D ≤ A) (hA : p0 k s A E < 9218868437227405312) : rnF m n D E = 0 := by
  by_cases h0 : D = 0
  · rw [h0]; simp [rnF]
  · have hlow : lowE D E ≤ E := by
      have := len_le (T := D) (k := 53) (by have : (2 : Nat) ^ 53 = 9007199254740992 := rfl; omega)
      unfold lowE lgN
      split <;> omega
    have hl : toL D E (lowE D E) = false := by unfold toL; rw [if_pos hlow]
    have hp : p0 m n D E = p0 k s D E := by unfold p0 toQ; rw [if_pos hlow, if_pos hlow]
    have hmo := p0_mono (m := k) (neg := s) (E := E) h0 hDA
    unfold rnF
    rw [if_neg h0, hp, if_neg (by omega), hl]
    simp
/-- both sizes plain: the product, rounded to the nearest, in units of 2^-1074 -/
theorem prod_near {n : Bool} {A : Nat} {E : Int} (hE : -1074 ≤ E) (h0 : 20282409603651670423947251286016 ≤ A) (h1 : A < 81129638414606681695789005144064) (hf : rnF 0 n A E = 0 ∨ rnF 0 n A E = 16) :
    ∃ d : Int, d.natAbs < 9007199254740992 ∧ d.natAbs ≤ A ∧ p0 0 n A E < 9218868437227405312 ∧ ((A * 2 ^ (E + 1074).toNat : Nat) : Int) - (uV (rnP 0 n A E) : Int) = d * (2 ^ (E + 1074).toNat : Nat) ∧ (rnF 0 n A E = 0 ↔ d = 0) := by
  obtain ⟨q1, q2, q3, q4⟩ := rn_num (m := 0) (n := n) (T := A) (E := E) (by omega) (by omega)
  have b1 : 105 ≤ bitLen A := le_len (k := 104) (by have : (2 : Nat) ^ 104 = 20282409603651670423947251286016 := rfl; omega)
  have b2 : bitLen A ≤ 106 := len_le (by have : (2 : Nat) ^ 106 = 81129638414606681695789005144064 := rfl; omega)
  obtain ⟨k, hk⟩ : ∃ k : Nat, k = bitLen A - 53 := ⟨_, rfl⟩
  have hlow : lowE A E = E + k := by unfold lowE lgN; split <;> omega
  have ek : (E + (k : Int) - E).toNat = k := by omega
  have hQ : toQ 0 n A E (lowE A E) = rq 0 n A k := by
    rw [hlow]; unfold toQ; rw [if_neg (by omega), ek]
  have hL : toL A E (lowE A E) = decide (A % 2 ^ k ≠ 0) := by
    rw [hlow]; unfold toL; rw [if_neg (by omega), ek]
  have hP : 2 ^ k ≤ 9007199254740992 := by
    have := Nat.pow_le_pow_right (show 0 < 2 by omega) (show k ≤ 53 by omega)
    have e : (2 : Nat) ^ 53 = 9007199254740992 := rfl
    omega
  have hp : 0 < 2 ^ k := Nat.pow_pos (by omega)
  have hh := rest_half n A k
  refine ⟨(A : Int) - (rq 0 n A k : Int) * (2 ^ k : Nat), by omega, by omega, q1, ?_, ?_⟩
  · have e1 : (lowE A E + 1074).toNat = k + (E + 1074).toNat := by rw [hlow]; omega
    rw [q3, hQ, e1, Nat.pow_add, ← Nat.mul_assoc, Int.sub_mul]
    simp only [Int.natCast_mul]
  · rw [q4, hL]
    constructor
    · intro h
      have hz : A % 2 ^ k = 0 := by simpa using h
      have := Nat.div_add_mod A (2 ^ k)
      rw [rq_exact hz, ← Int.natCast_mul, Nat.mul_comm]
      omega
    · intro h
      have h2 : A = rq 0 n A k * 2 ^ k := by
        have h3 : (A : Int) = ((rq 0 n A k * 2 ^ k : Nat) : Int) := by rw [Int.natCast_mul]; omega
        exact Int.ofNat.inj h3
      rw [h2, Nat.mul_mod_left]
      rfl
/-- the sum in units of 2^-1074, where the product's power allows it -/
theorem fs_scaled {j : Nat} (hj : (j : Int) = 1074) {a b c : Int} (hE : -1074 ≤ prE a b) : fsI a b c = (sgI (prN a b) (prV a b * 2 ^ (prE a b + 1074).toNat) + pvI c) * ((2 ^ j : Nat) : Int) := by
  have hc := xp_bd c
  have e := smI_low (F := -2148) (G := -1074) (Ex := prE a b) (Ey := xp c) (by omega) hE hc.1 (prN a b) (sgn c) (prV a b) (sg c).toNat
  have e1 : ((-1074 : Int) - -2148).toNat = j := by omega
  rw [e1] at e
  unfold fsI
  rw [e]
  congr 1
theorem fs_round {j : Nat} (hj : (j : Int) = 1074) {m a b c : Int} {S : Int} (hS : fsI a b c = S * ((2 ^ j : Nat) : Int)) : fsN m a b c = sgS m (prN a b) (sgn c) S ∧ fsP m a b c = rnP m (fsN m a b c) S.natAbs (-1074) ∧ fsF m a b c = rnF m (fsN m a b c) S.natAbs (-1074) := by
  have hK : 0 < 2 ^ j := Nat.pow_pos (by omega)
  have ea : (fsI a b c).natAbs = S.natAbs * 2 ^ j := by rw [hS, Int.natAbs_mul, Int.natAbs_natCast]
  have eE : (-1074 : Int) - (j : Int) = -2148 := by omega
  have sp := rnP_scale m (fsN m a b c) S.natAbs j (-1074)
  have sf := rnF_scale m (fsN m a b c) S.natAbs j (-1074)
  rw [eE] at sp sf
  refine ⟨?_, ?_, ?_⟩
  · unfold fsN; rw [hS, sgS_mul m _ _ _ hK]
  · rw [← sp]; unfold fsP; rw [ea]
  · rw [← sf]; unfold fsF; rw [ea]
end Go.Rn
