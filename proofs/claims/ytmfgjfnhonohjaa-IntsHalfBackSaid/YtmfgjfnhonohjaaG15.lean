/-
  PLAIN ARITHMETIC: products of patterns' numbers, and with a third one added, rounded; what rounding a product left.
-/
import Derived.Test.YtmfgjfnhonohjaaG13
namespace Go.Rn
open Go.Nt Go.Wd Go.Pt

/-- a product's sign, size and power -/
def prN (a b : Int) : Bool := sgn a != sgn b
def prV (a b : Int) : Nat := (sg a).toNat * (sg b).toNat
def prE (a b : Int) : Int := xp a + xp b
theorem prN_comm (a b : Int) : prN a b = prN b a := by unfold prN; cases sgn a <;> cases sgn b <;> rfl
theorem prV_comm (a b : Int) : prV a b = prV b a := Nat.mul_comm _ _
theorem prE_comm (a b : Int) : prE a b = prE b a := by unfold prE; omega
theorem prE_bd (a b : Int) : -2148 ≤ prE a b ∧ prE a b ≤ 1944 := by
  have h1 := xp_bd a
  have h2 := xp_bd b
  unfold prE
  omega
theorem prV_lt (a b : Int) : prV a b < 81129638414606681695789005144064 := by
  have h1 := sg_lt a
  have h2 := sg_lt b
  have := Nat.mul_le_mul (show (sg a).toNat ≤ 9007199254740991 by omega) (show (sg b).toNat ≤ 9007199254740991 by omega)
  unfold prV
  omega
theorem may_prod (a b : Int) : May (prE a b) (prV a b) := by
  have h1 := prE_bd a b
  have h2 := prV_lt a b
  refine ⟨?_, by omega, by omega⟩
  have : (2 : Nat) ^ 128 = 340282366920938463463374607431768211456 := rfl
  omega
/-- the product, rounded -/
def mlP (m a b : Int) : Int := rnP m (prN a b) (prV a b) (prE a b)
def mlF (m a b : Int) : Int := rnF m (prN a b) (prV a b) (prE a b)
theorem ml_comm (m a b : Int) : mlP m a b = mlP m b a ∧ mlF m a b = mlF m b a := by
  unfold mlP mlF
  rw [prN_comm, prV_comm, prE_comm]
  exact ⟨rfl, rfl⟩
theorem ml_bd (m a b : Int) : 0 ≤ mlP m a b ∧ mlP m a b ≤ 9218868437227405312 := rnP_bd _ _ _ _
/-- the product and a third number, in units of 2^-2148; its sign; rounded -/
def fsI (a b c : Int) : Int := smI (-2148) (prN a b) (prE a b) (prV a b) (sgn c) (xp c) (sg c).toNat
def fsN (m a b c : Int) : Bool := sgS m (prN a b) (sgn c) (fsI a b c)
def fsP (m a b c : Int) : Int := rnP m (fsN m a b c) (fsI a b c).natAbs (-2148)
def fsF (m a b c : Int) : Int := rnF m (fsN m a b c) (fsI a b c).natAbs (-2148)
theorem fsI_comm (a b c : Int) : fsI a b c = fsI b a c := by unfold fsI; rw [prN_comm, prV_comm, prE_comm]
theorem fsN_comm (m a b c : Int) : fsN m a b c = fsN m b a c := by unfold fsN; rw [fsI_comm, prN_comm]
theorem fs_comm (m a b c : Int) : fsP m a b c = fsP m b a c ∧ fsF m a b c = fsF m b a c := by
  unfold fsP fsF
  rw [fsN_comm, fsI_comm]
  exact ⟨rfl, rfl⟩
theorem fs_bd (m a b c : Int) : 0 ≤ fsP m a b c ∧ fsP m a b c ≤ 9218868437227405312 := rnP_bd _ _ _ _

/-! ### with nothing added -/
theorem szF_zero (F E : Int) : szF F E 0 = 0 := by unfold szF; simp
theorem fs_zero {m a b c : Int} (h0 : sg c = 0) (hs : sgn c = prN a b) : fsN m a b c = prN a b ∧ fsP m a b c = mlP m a b ∧ fsF m a b c = mlF m a b := by
  have hE := prE_bd a b
  have e0 : fsI a b c = sgI (prN a b) (szF (-2148) (prE a b) (prV a b)) := by
    unfold fsI smI
    rw [h0, Int.toNat_zero, szF_zero]
    cases sgn c <;> simp [sgI]
  have ea : (fsI a b c).natAbs = szF (-2148) (prE a b) (prV a b) := by rw [e0]; exact sgI_abs _ _
  have hn : fsN m a b c = prN a b := by
    unfold fsN sgS
    by_cases hz : fsI a b c = 0
    · rw [if_pos hz, hs, if_pos rfl]
    · rw [if_neg hz, e0]
      refine (sgI_neg fun h => hz ?_).1
      rw [e0, h]
      cases prN a b <;> rfl
  have sp := rnP_scale m (prN a b) (prV a b) (prE a b - -2148).toNat (prE a b)
  have sf := rnF_scale m (prN a b) (prV a b) (prE a b - -2148).toNat (prE a b)
  have eE : prE a b - ((prE a b - -2148).toNat : Int) = -2148 := by omega
  rw [eE] at sp sf
  refine ⟨hn, ?_, ?_⟩
  · unfold fsP mlP; rw [hn, ea]; exact sp
  · unfold fsF mlF; rw [hn, ea]; exact sf

/-! ### times 1 -/
theorem one_num : sgn 4607182418800017408 = false ∧ xp 4607182418800017408 = -52 ∧ sg 4607182418800017408 = 4503599627370496 := by decide
theorem ml_one {m a : Int} (hf : ex a ≠ 2047) : prN a 4607182418800017408 = sgn a ∧ mlP m a 4607182418800017408 = mag a ∧ mlF m a 4607182418800017408 = 0 := by
  obtain ⟨o1, o2, o3⟩ := one_num
  have hn : prN a 4607182418800017408 = sgn a := by unfold prN; rw [o1]; cases sgn a <;> rfl
  have hv : prV a 4607182418800017408 = (sg a).toNat * 2 ^ 52 := by unfold prV; rw [o3]; rfl
  have he : prE a 4607182418800017408 = xp a - ((52 : Nat) : Int) := by unfold prE; rw [o2]; omega
  obtain ⟨q1, q2⟩ := own_pat (m := m) (neg := sgn a) hf
  unfold mlP mlF
  rw [hn, hv, he, rnP_scale, rnF_scale, q1, q2]
  exact ⟨rfl, rfl, rfl⟩

/-! ### the other sign -/
theorem prN_ng {a : Int} (ha : U a) (b : Int) : prN (ng a) b = !prN a b := by
  unfold prN
  rw [(ng_parts ha).2.1]
  cases sgn a <;> cases sgn b <;> rfl
theorem ml_ng {m a : Int} (ha : U a) (b : Int) : mlP (swM m) (ng a) b = mlP m a b ∧ mlF (swM m) (ng a) b = mlF m a b := by
  obtain ⟨e1, e2, _⟩ := ng_num ha
  unfold mlP mlF
  have eV : prV (ng a) b = prV a b := by unfold prV; rw [e2]
  have eE : prE (ng a) b = prE a b := by unfold prE; rw [e1]
  rw [prN_ng ha, eV, eE, rnP_swM, rnF_swM]
  exact ⟨rfl, rfl⟩
theorem ml_ng2 {m a b : Int} (ha : U a) (hb : U b) : prN (ng a) (ng b) = prN a b ∧ mlP m (ng a) (ng b) = mlP m a b ∧ mlF m (ng a) (ng b) = mlF m a b := by
  obtain ⟨e1, e2, _⟩ := ng_num ha
  obtain ⟨f1, f2, _⟩ := ng_num hb
  have eN : prN (ng a) (ng b) = prN a b := by rw [prN_ng ha, prN_comm, prN_ng hb, Bool.not_not, prN_comm]
  have eV : prV (ng a) (ng b) = prV a b := by unfold prV; rw [e2, f2]
  have eE : prE (ng a) (ng b) = prE a b := by unfold prE; rw [e1, f1]
  unfold mlP mlF
  rw [eN, eV, eE]
  exact ⟨rfl, rfl, rfl⟩

/-! ### a pattern that was rounded, as a number -/
theorem pat_num {e : Int} {q : Nat} (he : -1074 ≤ e) (hq : q ≤ 9007199254740992) (hlo : e = -1074 ∨ 4503599627370496 ≤ q) (hb : (e + 1074) * 4503599627370496 + (q : Int) < 9218868437227405312) :
    uV ((e + 1074) * 4503599627370496 + (q : Int)) = q * 2 ^ (e + 1074).toNat := by
  obtain ⟨j, hj⟩ : ∃ j : Nat, e = (j : Int) - 1074 := ⟨(e + 1074).toNat, by omega⟩
  have ej : (e + 1074).toNat = j := by omega
  have ej' : e + 1074 = (j : Int) := by omega
  rw [ej, ej']
  rw [ej'] at hb
  clear ej ej'
  unfold uV szF xp sg
  by_cases c0 : q < 4503599627370496
  · have j0 : j = 0 := by omega
    subst j0
    have ee : ex (((0 : Nat) : Int) * 4503599627370496 + (q : Int)) = 0 := by unfold ex; omega
    have ef : fr (((0 : Nat) : Int) * 4503599627370496 + (q : Int)) = (q : Int) := by unfold fr; omega
    rw [ee, ef]
    simp
  · by_cases c1 : q = 9007199254740992
    · have ee : ex ((j : Int) * 4503599627370496 + (q : Int)) = (j : Int) + 2 := by unfold ex; omega
      have ef : fr ((j : Int) * 4503599627370496 + (q : Int)) = 0 := by unfold fr; omega
      rw [ee, ef, if_neg (by omega), if_neg (by omega), if_neg (by omega), if_neg (by omega)]
      have e1 : ((j : Int) + 2 - 1075 - -1074).toNat = j + 1 := by omega
      rw [e1, c1, Nat.pow_succ]
      have e2 : ((0 : Int) + 4503599627370496).toNat = 4503599627370496 := rfl
      rw [e2]
      omega
    · have ee : ex ((j : Int) * 4503599627370496 + (q : Int)) = (j : Int) + 1 := by unfold ex; omega
      have ef : fr ((j : Int) * 4503599627370496 + (q : Int)) = (q : Int) - 4503599627370496 := by unfold fr; omega
      rw [ee, ef, if_neg (by omega), if_neg (by omega), if_neg (by omega), if_neg (by omega)]
      have e1 : ((j : Int) + 1 - 1075 - -1074).toNat = j := by omega
      have e2 : ((q : Int) - 4503599627370496 + 4503599627370496).toNat = q := by omega
      rw [e1, e2]
/-- what was rounded, and is finite -/
theorem rn_num {m : Int} {n : Bool} {T : Nat} {E : Int} (hT : T ≠ 0) (h : rnF m n T E = 0 ∨ rnF m n T E = 16 ∨ rnF m n T E = 24) :
    p0 m n T E < 9218868437227405312 ∧ rnP m n T E = p0 m n T E ∧ uV (rnP m n T E) = toQ m n T E (lowE T E) * 2 ^ (lowE T E + 1074).toNat ∧ (rnF m n T E = 0 ↔ toL T E (lowE T E) = false) := by
  have hb : p0 m n T E < 9218868437227405312 := by
    unfold rnF at h
    rw [if_neg hT] at h
    by_cases hc : 9218868437227405312 ≤ p0 m n T E
    · rw [if_pos hc] at h; omega
    · omega
  have hp : rnP m n T E = p0 m n T E := by unfold rnP; rw [if_neg hT, if_neg (by omega)]
  have hlo : lowE T E = -1074 ∨ 4503599627370496 ≤ toQ m n T E (lowE T E) := by
    by_cases h1 : lowE T E = -1074
    · exact .inl h1
    · right
      refine low_lo hT ?_
      unfold lowE at h1
      split at h1 <;> omega
  refine ⟨hb, hp, ?_, ?_⟩
  · rw [hp]
    exact pat_num (lowE_ge T E) (low_hi m n T E) hlo hb
  · unfold rnF
    rw [if_neg hT, if_neg (by omega)]
    cases toL T E (lowE T E) with
    | false => simp
    | true =>
      rw [if_pos rfl]
      split <;> simp

/-! ### what rounding to the nearest left -/
theorem rest_half (n : Bool) (T k : Nat) : (T : Int) - (rq 0 n T k : Int) * (2 ^ k : Nat) ≤ (2 ^ k : Nat) / 2 ∧ (rq 0 n T k : Int) * (2 ^ k : Nat) - (T : Int) ≤ (2 ^ k : Nat) / 2 := by
  have hd := Nat.div_add_mod T (2 ^ k)
  have hp : 0 < 2 ^ k := Nat.pow_pos (by omega)
  have hm := Nat.mod_lt T hp
  unfold rq upR restC
  generalize T / 2 ^ k = q at *
  generalize T % 2 ^ k = r at *
  generalize 2 ^ k = P at *
  have e1 : ((q + 1 : Nat) : Int) * (P : Int) = (P : Int) * q + P := by rw [Int.natCast_add, Int.add_mul]; simp [Int.mul_comm]
  have e0 : ((q + 0 : Nat) : Int) * (P : Int) = (P : Int) * q := by rw [Nat.add_zero, Int.mul_comm]
  have hd' : (P : Int) * q + r = T := by rw [← hd]; simp
  by_cases h0 : r = 0
  · simp only [h0, if_true, Bool.false_eq_true, if_false]
    rw [e0]
    omega
  · by_cases h1 : 2 * r < P
    · simp [h0, h1]
      rw [Int.mul_comm]
      omega
    · by_cases h2 : 2 * r = P
      · by_cases ho : odd q = true
        · simp [h0, h2, ho]
          rw [Int.add_mul, Int.mul_comm]
          omega
        · simp [h0, h2, ho]
          rw [Int.mul_comm]
          omega
      · simp [h0, h1, h2]
        rw [Int.add_mul, Int.mul_comm]
        omega
/-- few bits need no rounding -/
theorem few_bits {m k : Int} {n s : Bool} {D A : Nat} {E : Int} (hE : -1074 ≤ E) (hD : D < 9007199254740992) (hDA : D ≤ A) (hA : p0 k s A E < 9218868437227405312) : rnF m n D E = 0 := by
  by_cases h0 : D = 0
  · rw [h0]; simp [rnF]
  · have hlow : lowE D E ≤ E := by
      have := len_le (T := D) (k := 53) (by have : (2 : Nat) ^ 53 = 9007199254740992 := rfl; omega)
      unfold lowE lgN
      split <;> omega
    have hl : toL D E (lowE D E) = false := by unfold toL; rw [if_pos hlow]
    have hp : p0 m n D E = p0 k s D E := by unfold p0 toQ; rw [if_pos hlow, if_pos hlow]
    have hmo := p0_mono (m := k) (neg := s) (E := E) h0 hDA
    unfold rnF
    rw [if_neg h0, hp, if_neg (by omega), hl]
    simp
/-- both sizes plain: the product, rounded to the nearest, in units of 2^-1074 -/
theorem prod_near {n : Bool} {A : Nat} {E : Int} (hE : -1074 ≤ E) (h0 : 20282409603651670423947251286016 ≤ A) (h1 : A < 81129638414606681695789005144064) (hf : rnF 0 n A E = 0 ∨ rnF 0 n A E = 16) :
    ∃ d : Int, d.natAbs < 9007199254740992 ∧ d.natAbs ≤ A ∧ p0 0 n A E < 9218868437227405312 ∧ ((A * 2 ^ (E + 1074).toNat : Nat) : Int) - (uV (rnP 0 n A E) : Int) = d * (2 ^ (E + 1074).toNat : Nat) ∧ (rnF 0 n A E = 0 ↔ d = 0) := by
  obtain ⟨q1, q2, q3, q4⟩ := rn_num (m := 0) (n := n) (T := A) (E := E) (by omega) (by omega)
  have b1 : 105 ≤ bitLen A := le_len (k := 104) (by have : (2 : Nat) ^ 104 = 20282409603651670423947251286016 := rfl; omega)
  have b2 : bitLen A ≤ 106 := len_le (by have : (2 : Nat) ^ 106 = 81129638414606681695789005144064 := rfl; omega)
  obtain ⟨k, hk⟩ : ∃ k : Nat, k = bitLen A - 53 := ⟨_, rfl⟩
  have hlow : lowE A E = E + k := by unfold lowE lgN; split <;> omega
  have ek : (E + (k : Int) - E).toNat = k := by omega
  have hQ : toQ 0 n A E (lowE A E) = rq 0 n A k := by
    rw [hlow]; unfold toQ; rw [if_neg (by omega), ek]
  have hL : toL A E (lowE A E) = decide (A % 2 ^ k ≠ 0) := by
    rw [hlow]; unfold toL; rw [if_neg (by omega), ek]
  have hP : 2 ^ k ≤ 9007199254740992 := by
    have := Nat.pow_le_pow_right (show 0 < 2 by omega) (show k ≤ 53 by omega)
    have e : (2 : Nat) ^ 53 = 9007199254740992 := rfl
    omega
  have hp : 0 < 2 ^ k := Nat.pow_pos (by omega)
  have hh := rest_half n A k
  refine ⟨(A : Int) - (rq 0 n A k : Int) * (2 ^ k : Nat), by omega, by omega, q1, ?_, ?_⟩
  · have e1 : (lowE A E + 1074).toNat = k + (E + 1074).toNat := by rw [hlow]; omega
    rw [q3, hQ, e1, Nat.pow_add, ← Nat.mul_assoc, Int.sub_mul]
    simp only [Int.natCast_mul]
  · rw [q4, hL]
    constructor
    · intro h
      have hz : A % 2 ^ k = 0 := by simpa using h
      have := Nat.div_add_mod A (2 ^ k)
      rw [rq_exact hz, ← Int.natCast_mul, Nat.mul_comm]
      omega
    · intro h
      have h2 : A = rq 0 n A k * 2 ^ k := by
        have h3 : (A : Int) = ((rq 0 n A k * 2 ^ k : Nat) : Int) := by rw [Int.natCast_mul]; omega
        exact Int.ofNat.inj h3
      rw [h2, Nat.mul_mod_left]
      rfl
/-- the sum in units of 2^-1074, where the product's power allows it -/
theorem fs_scaled {j : Nat} (hj : (j : Int) = 1074) {a b c : Int} (hE : -1074 ≤ prE a b) : fsI a b c = (sgI (prN a b) (prV a b * 2 ^ (prE a b + 1074).toNat) + pvI c) * ((2 ^ j : Nat) : Int) := by
  have hc := xp_bd c
  have e := smI_low (F := -2148) (G := -1074) (Ex := prE a b) (Ey := xp c) (by omega) hE hc.1 (prN a b) (sgn c) (prV a b) (sg c).toNat
  have e1 : ((-1074 : Int) - -2148).toNat = j := by omega
  rw [e1] at e
  unfold fsI
  rw [e]
  congr 1
theorem fs_round {j : Nat} (hj : (j : Int) = 1074) {m a b c : Int} {S : Int} (hS : fsI a b c = S * ((2 ^ j : Nat) : Int)) : fsN m a b c = sgS m (prN a b) (sgn c) S ∧ fsP m a b c = rnP m (fsN m a b c) S.natAbs (-1074) ∧ fsF m a b c = rnF m (fsN m a b c) S.natAbs (-1074) := by
  have hK : 0 < 2 ^ j := Nat.pow_pos (by omega)
  have ea : (fsI a b c).natAbs = S.natAbs * 2 ^ j := by rw [hS, Int.natAbs_mul, Int.natAbs_natCast]
  have eE : (-1074 : Int) - (j : Int) = -2148 := by omega
  have sp := rnP_scale m (fsN m a b c) S.natAbs j (-1074)
  have sf := rnF_scale m (fsN m a b c) S.natAbs j (-1074)
  rw [eE] at sp sf
  refine ⟨?_, ?_, ?_⟩
  · unfold fsN; rw [hS, sgS_mul m _ _ _ hK]
  · rw [← sp]; unfold fsP; rw [ea]
  · rw [← sf]; unfold fsF; rw [ea]
end Go.Rn

/-
  PLAIN ARITHMETIC: square roots of whole numbers; the steps that go down to one.
-/
namespace Go.Wd

theorem sq_nonneg' (x : Int) : 0 ≤ x * x := by
  rcases Int.le_total 0 x with h | h
  · exact Int.mul_nonneg h h
  · exact Int.mul_nonneg_of_nonpos_of_nonpos h h
theorem four_le (x z : Int) : 4 * (x * z) ≤ (x + z) * (x + z) := by
  have h := sq_nonneg' (x - z)
  rw [Int.sub_mul, Int.mul_sub, Int.mul_sub, Int.mul_comm z x] at h
  rw [Int.add_mul, Int.mul_add, Int.mul_add, Int.mul_comm z x]
  omega
theorem sq_mono {x y : Int} (h0 : 0 ≤ x) (h : x ≤ y) : x * x ≤ y * y := Int.mul_le_mul h h h0 (by omega)
theorem sq_dbl (x : Int) : 2 * x * (2 * x) = 4 * (x * x) := by
  rw [Int.mul_assoc, Int.mul_left_comm x 2 x]
  omega
theorem sq_suc (x : Int) : (x + 1) * (x + 1) = x * x + 2 * x + 1 := by
  rw [Int.add_mul, Int.mul_add]
  omega
/-- a step is never below the root -/
theorem mid_up {x a : Int} (hx : 1 ≤ x) (ha : 0 ≤ a) : a < ((x + a / x) / 2 + 1) * ((x + a / x) / 2 + 1) := by
  have y0 : 0 ≤ a / x := Int.ediv_nonneg ha (by omega)
  have e := Int.mul_ediv_add_emod a x
  have l := Int.emod_lt_of_pos a (show 0 < x by omega)
  have f := four_le x (a / x + 1)
  have s := sq_mono (x := x + (a / x + 1)) (y := 2 * ((x + a / x) / 2 + 1)) (by omega) (by omega)
  rw [sq_dbl] at s
  rw [Int.mul_add, Int.mul_one] at f
  omega
theorem mid_lim {x a : Int} (hx : 1 ≤ x) (h : a < (x + 1) * (x + 1)) : a / x < x + 3 := by
  apply Int.ediv_lt_of_lt_mul (by omega)
  rw [sq_suc] at h
  rw [Int.add_mul]
  omega
theorem mid_one {x a : Int} (hx : 1 ≤ x) (ha : 1 ≤ a) : 1 ≤ (x + a / x) / 2 := by
  have y0 : 0 ≤ a / x := Int.ediv_nonneg (by omega) (by omega)
  by_cases h : x = 1
  · subst h
    rw [Int.ediv_one]
    omega
  · omega
/-- a step that does not go down: the root is reached -/
theorem mid_end {x a : Int} (hx : 1 ≤ x) (h : x ≤ (x + a / x) / 2) : x * x ≤ a := by
  have e := Int.mul_ediv_add_emod a x
  have l := Int.emod_nonneg a (show x ≠ 0 by omega)
  have m : x * x ≤ x * (a / x) := Int.mul_le_mul_of_nonneg_left (by omega) (by omega)
  omega
/-- one more bit of a root -/
def sqB (n : Nat) : Nat → Nat
  | 0 => if 1 ≤ n then 1 else 0
  | r + 1 => if (r + 2) * (r + 2) ≤ n then r + 2 else r + 1
def isqf : Nat → Nat → Nat
  | 0, _ => 0
  | k + 1, n => sqB n (2 * isqf k (n / 4))
theorem sqB_eq (n r : Nat) : sqB n r = if (r + 1) * (r + 1) ≤ n then r + 1 else r := by
  cases r <;> rfl
theorem isqf_spec (k : Nat) : ∀ n, n < 4 ^ k → isqf k n * isqf k n ≤ n ∧ n < (isqf k n + 1) * (isqf k n + 1) := by
  induction k with
  | zero => intro n h; simp at h; subst h; exact ⟨by decide, by decide⟩
  | succ k ih =>
    intro n h
    obtain ⟨h1, h2⟩ := ih (n / 4) (by rw [Nat.pow_succ] at h; omega)
    show sqB n (2 * isqf k (n / 4)) * sqB n (2 * isqf k (n / 4)) ≤ n ∧ n < (sqB n (2 * isqf k (n / 4)) + 1) * (sqB n (2 * isqf k (n / 4)) + 1)
    rw [sqB_eq]
    generalize isqf k (n / 4) = r at *
    have e1 : 2 * r * (2 * r) = 4 * (r * r) := by rw [Nat.mul_assoc, Nat.mul_left_comm r 2 r]; omega
    have e2 : (r + 1) * (r + 1) = r * r + 2 * r + 1 := by rw [Nat.add_mul, Nat.mul_add]; omega
    have e3 : (2 * r + 1) * (2 * r + 1) = 4 * (r * r) + 4 * r + 1 := by rw [Nat.add_mul, Nat.mul_add, e1]; omega
    have e4 : (2 * r + 1 + 1) * (2 * r + 1 + 1) = 4 * (r * r) + 8 * r + 4 := by rw [Nat.add_mul, Nat.mul_add, e3]; omega
    split
    · rename_i h
      exact ⟨h, by omega⟩
    · exact ⟨by omega, by omega⟩
def isq (n : Nat) : Nat := isqf 128 n
theorem isq_spec {n : Nat} (h : n < 115792089237316195423570985008687907853269984665640564039457584007913129639936) : isq n * isq n ≤ n ∧ n < (isq n + 1) * (isq n + 1) := isqf_spec 128 n (by have : (4 : Nat) ^ 128 = 115792089237316195423570985008687907853269984665640564039457584007913129639936 := rfl; omega)
theorem isq_one {n : Nat} {x : Int} (hn : n < 115792089237316195423570985008687907853269984665640564039457584007913129639936) (h0 : 0 ≤ x) (h1 : x * x ≤ n) (h2 : (n : Int) < (x + 1) * (x + 1)) : x = (isq n : Nat) := by
  obtain ⟨s1, s2⟩ := isq_spec hn
  have s1 : ((isq n : Nat) : Int) * (isq n : Nat) ≤ n := by exact_mod_cast s1
  have s2 : (n : Int) < ((isq n : Nat) + 1) * ((isq n : Nat) + 1) := by exact_mod_cast s2
  rcases Int.lt_trichotomy x (isq n : Nat) with h | h | h
  · have := sq_mono (x := x + 1) (y := (isq n : Nat)) (by omega) (by omega)
    omega
  · exact h
  · have := sq_mono (x := ((isq n : Nat) : Int) + 1) (y := x) (by omega) (by omega)
    omega
end Go.Wd

/-
  PLAIN ARITHMETIC: quotients of patterns' numbers, and their roots, rounded.
-/
namespace Go.Rn
open Go.Nt Go.Wd Go.Pt

/-- a number's quotient, with a last bit for what is left -/
def dvK (A B k : Nat) : Nat := 2 * (A * 2 ^ k / B) + (if A * 2 ^ k % B = 0 then 0 else 1)
theorem mod_scale {A B : Nat} (k : Nat) : A * 2 ^ k % (B * 2 ^ k) = A % B * 2 ^ k := Nat.mul_mod_mul_right (2 ^ k) A B
theorem dvK_div (A B k j : Nat) : dvK A B (k + j) / 2 ^ (j + 1) = A * 2 ^ k / B := by
  have hp : 0 < 2 ^ j := Nat.pow_pos (by omega)
  have e1 : A * 2 ^ (k + j) / B / 2 ^ j = A * 2 ^ k / B := by
    rw [Nat.div_div_eq_div_mul, Nat.pow_add, ← Nat.mul_assoc, Nat.mul_div_mul_right _ _ hp]
  have : dvK A B (k + j) / 2 = A * 2 ^ (k + j) / B := by unfold dvK; split <;> omega
  rw [Nat.pow_succ, Nat.mul_comm (2 ^ j) 2, ← Nat.div_div_eq_div_mul, this, e1]
theorem dvK_stk (A B k j : Nat) : stk (dvK A B (k + j)) (j + 1) = dvK A B k := by
  have hp : 0 < 2 ^ j := Nat.pow_pos (by omega)
  have e1 : A * 2 ^ (k + j) / B / 2 ^ j = A * 2 ^ k / B := by
    rw [Nat.div_div_eq_div_mul, Nat.pow_add, ← Nat.mul_assoc, Nat.mul_div_mul_right _ _ hp]
  have e2 := dvK_div A B k j
  have e3 : dvK A B (k + j) % 2 ^ (j + 1) = 0 ↔ A * 2 ^ k % B = 0 := by
    have d2 : dvK A B (k + j) / 2 = A * 2 ^ (k + j) / B := by unfold dvK; split <;> omega
    have m2 : dvK A B (k + j) % 2 = if A * 2 ^ (k + j) % B = 0 then 0 else 1 := by unfold dvK; split <;> omega
    rw [Nat.pow_succ, Nat.mul_comm (2 ^ j) 2, Nat.mod_mul, d2, m2]
    have e : A * 2 ^ (k + j) % B + B * (A * 2 ^ (k + j) / B % 2 ^ j) = A * 2 ^ k % B * 2 ^ j := by
      rw [← Nat.mod_mul, ← mod_scale, Nat.mul_assoc, ← Nat.pow_add]
    constructor
    · intro h
      have h1 : A * 2 ^ (k + j) % B = 0 := by
        by_cases h0 : A * 2 ^ (k + j) % B = 0
        · exact h0
        · rw [if_neg h0] at h; omega
      have h2 : A * 2 ^ (k + j) / B % 2 ^ j = 0 := by omega
      rw [h1, h2, Nat.mul_zero] at e
      rcases Nat.mul_eq_zero.1 e.symm with h3 | h3
      · exact h3
      · omega
    · intro h
      rw [h, Nat.zero_mul] at e
      have h1 : A * 2 ^ (k + j) % B = 0 := by omega
      rw [if_pos h1]
      rcases Nat.mul_eq_zero.1 (show B * (A * 2 ^ (k + j) / B % 2 ^ j) = 0 by omega) with h2 | h2
      · rw [h2, Nat.div_zero, Nat.zero_mod]
      · rw [h2]
  unfold stk
  rw [e2]
  by_cases h : A * 2 ^ k % B = 0
  · rw [if_pos (e3.2 h)]; unfold dvK; rw [if_pos h]
  · rw [if_neg (fun h' => h (e3.1 h'))]; unfold dvK; rw [if_neg h]
theorem dvK_len {A B k : Nat} (hA : A ≠ 0) (hB : B ≠ 0) (h : B < 9007199254740992) (hk : 106 ≤ k) : 54 ≤ bitLen (A * 2 ^ k / B) := by
  refine le_len (k := 53) ?_
  rw [Nat.le_div_iff_mul_le (by omega)]
  have h1 : 2 ^ 106 ≤ 2 ^ k := Nat.pow_le_pow_right (by omega) hk
  have h2 : 2 ^ k ≤ A * 2 ^ k := Nat.le_mul_of_pos_left _ (by omega)
  have h3 : 2 ^ 53 * B ≤ 2 ^ 53 * 2 ^ 53 := Nat.mul_le_mul_left _ (by omega)
  rw [← Nat.pow_add] at h3
  exact Nat.le_trans h3 (Nat.le_trans h1 h2)
/-- a quotient with fewer bits is rounded the same -/
theorem dvK_round {m E : Int} {n : Bool} {A B k j : Nat} (hB : B ≠ 0) (h : B < 9007199254740992) (hk : 106 ≤ k) : rnP m n (dvK A B k) (E + j) = rnP m n (dvK A B (k + j)) E ∧ rnF m n (dvK A B k) (E + j) = rnF m n (dvK A B (k + j)) E := by
  have r := stk_round (m := m) (neg := n) (A := dvK A B (k + j)) (d := j + 1) (F := E) (by
    by_cases hA : A = 0
    · left; subst hA; unfold dvK; simp
    · right
      rw [dvK_div]
      exact dvK_len hA hB h hk)
  rw [dvK_stk, show E + ((j + 1 : Nat) : Int) - 1 = E + (j : Int) by omega] at r
  exact r
/-- a quotient's size, its power; rounded -/
def dvT (a b : Int) : Nat := dvK (sg a).toNat (sg b).toNat 128
def dvE (a b : Int) : Int := xp a - xp b - 129
def dvP (m a b : Int) : Int := rnP m (prN a b) (dvT a b) (dvE a b)
def dvF (m a b : Int) : Int := rnF m (prN a b) (dvT a b) (dvE a b)
theorem dv_bd (m a b : Int) : 0 ≤ dvP m a b ∧ dvP m a b ≤ 9218868437227405312 := rnP_bd _ _ _ _
theorem dvE_bd (a b : Int) : -2175 ≤ dvE a b ∧ dvE a b ≤ 1917 := by
  have h1 := xp_bd a
  have h2 := xp_bd b
  unfold dvE
  omega
/-- the document's quotient -/
theorem dv_doc {m a b : Int} (hb : sg b ≠ 0) : rnP m (prN a b) (dvK (sg a).toNat (sg b).toNat 120) (xp a - xp b - 121) = dvP m a b ∧ rnF m (prN a b) (dvK (sg a).toNat (sg b).toNat 120) (xp a - xp b - 121) = dvF m a b := by
  have h := sg_lt b
  have r := dvK_round (m := m) (E := dvE a b) (n := prN a b) (A := (sg a).toNat) (B := (sg b).toNat) (k := 120) (j := 8) (by omega) (by omega) (by omega)
  rw [show dvE a b + ((8 : Nat) : Int) = xp a - xp b - 121 by unfold dvE; omega] at r
  exact r
/-- a quotient that needs no rest -/
theorem dvK_mul {A B C k : Nat} (hB : B ≠ 0) (h : A * 2 ^ k = C * B) : dvK A B k = C * 2 ^ 1 := by
  unfold dvK
  rw [h, Nat.mul_div_cancel _ (by omega), Nat.mul_mod_left, if_pos rfl]
  omega
theorem dv_one {m a : Int} (hf : ex a ≠ 2047) : prN a 4607182418800017408 = sgn a ∧ dvP m a 4607182418800017408 = mag a ∧ dvF m a 4607182418800017408 = 0 := by
  obtain ⟨o1, o2, o3⟩ := one_num
  have hn : prN a 4607182418800017408 = sgn a := by unfold prN; rw [o1]; cases sgn a <;> rfl
  have hv : dvT a 4607182418800017408 = (sg a).toNat * 2 ^ 77 := by
    unfold dvT
    rw [o3, dvK_mul (C := (sg a).toNat * 2 ^ 76) (by decide) (by rw [Nat.mul_assoc]; rfl), Nat.mul_assoc]
  have he : dvE a 4607182418800017408 = xp a - ((77 : Nat) : Int) := by unfold dvE; rw [o2]; omega
  obtain ⟨q1, q2⟩ := own_pat (m := m) (neg := sgn a) hf
  unfold dvP dvF
  rw [hn, hv, he, rnP_scale, rnF_scale, q1, q2]
  exact ⟨rfl, rfl, rfl⟩
theorem prN_self (a : Int) : prN a a = false := by unfold prN; cases sgn a <;> rfl
theorem dv_self {m a : Int} (h : sg a ≠ 0) : prN a a = false ∧ dvP m a a = 4607182418800017408 ∧ dvF m a a = 0 := by
  have h0 := sg_lt a
  have hv : dvT a a = 4503599627370496 * 2 ^ 77 := by
    unfold dvT
    rw [dvK_mul (C := 2 ^ 128) (by omega) (Nat.mul_comm _ _)]
  have he : dvE a a = -52 - ((77 : Nat) : Int) := by unfold dvE; omega
  obtain ⟨o1, o2, o3⟩ := one_num
  obtain ⟨q1, q2⟩ := own_pat (m := m) (neg := false) (p := 4607182418800017408) (by decide)
  rw [o2, o3] at q1 q2
  unfold dvP dvF
  rw [prN_self, hv, he, rnP_scale, rnF_scale]
  exact ⟨rfl, q1, q2⟩
theorem prN_ng2 {b : Int} (hb : U b) (a : Int) : prN a (ng b) = !prN a b := by rw [prN_comm, prN_ng hb, prN_comm]
theorem dv_ng {m b : Int} (hb : U b) (a : Int) : dvP (swM m) a (ng b) = dvP m a b ∧ dvF (swM m) a (ng b) = dvF m a b := by
  obtain ⟨e1, e2, _⟩ := ng_num hb
  have eT : dvT a (ng b) = dvT a b := by unfold dvT; rw [e2]
  have eE : dvE a (ng b) = dvE a b := by unfold dvE; rw [e1]
  unfold dvP dvF
  rw [prN_ng2 hb, eT, eE, rnP_swM, rnF_swM]
  exact ⟨rfl, rfl⟩

/-! ### roots -/
/-- a number's root, with a last bit for what is left -/
def rtK (X : Nat) : Nat := 2 * isq X + (if isq X * isq X = X then 0 else 1)
def lim : Nat := 115792089237316195423570985008687907853269984665640564039457584007913129639936
theorem isq_uniq {X r : Nat} (hX : X < lim) (h1 : r * r ≤ X) (h2 : X < (r + 1) * (r + 1)) : isq X = r := by
  have h1 : (r : Int) * r ≤ X := by exact_mod_cast h1
  have h2 : (X : Int) < ((r : Int) + 1) * ((r : Int) + 1) := by exact_mod_cast h2
  have := isq_one hX (x := r) (by omega) h1 h2
  omega
theorem sq_four (r j : Nat) : r * 2 ^ j * (r * 2 ^ j) = r * r * 4 ^ j := by
  rw [show (4 : Nat) = 2 * 2 from rfl, Nat.mul_pow, Nat.mul_mul_mul_comm]
theorem isq_cut {X : Nat} (j : Nat) (h : X * 4 ^ j < lim) : isq (X * 4 ^ j) / 2 ^ j = isq X := by
  have hp : 0 < 2 ^ j := Nat.pow_pos (by omega)
  have hq : 0 < 4 ^ j := Nat.pow_pos (by omega)
  have hX : X < lim := Nat.lt_of_le_of_lt (Nat.le_mul_of_pos_right X hq) h
  obtain ⟨s1, s2⟩ := isq_spec h
  generalize isq (X * 4 ^ j) = r at *
  refine (isq_uniq hX ?_ ?_).symm
  · have h1 : r / 2 ^ j * 2 ^ j ≤ r := Nat.div_mul_le_self r _
    have h2 := Nat.mul_le_mul h1 h1
    rw [sq_four] at h2
    exact Nat.le_of_mul_le_mul_right (Nat.le_trans h2 s1) hq
  · have h1 : r + 1 ≤ (r / 2 ^ j + 1) * 2 ^ j := by
      have := Nat.lt_mul_div_succ r hp
      rw [Nat.mul_comm] at this
      exact this
    have h2 := Nat.mul_le_mul h1 h1
    rw [sq_four] at h2
    exact Nat.lt_of_mul_lt_mul_right (Nat.lt_of_lt_of_le s2 h2)
theorem isq_sq {r : Nat} (h : r * r < lim) : isq (r * r) = r := isq_uniq h (Nat.le_refl _) (by rw [Nat.add_mul, Nat.mul_add]; omega)
theorem rtK_stk {X : Nat} (j : Nat) (h : X * 4 ^ j < lim) : stk (rtK (X * 4 ^ j)) (j + 1) = rtK X := by
  have hp : 0 < 2 ^ j := Nat.pow_pos (by omega)
  have hq : 0 < 4 ^ j := Nat.pow_pos (by omega)
  have e1 := isq_cut j h
  have d2 : rtK (X * 4 ^ j) / 2 = isq (X * 4 ^ j) := by unfold rtK; split <;> omega
  have m2 : rtK (X * 4 ^ j) % 2 = if isq (X * 4 ^ j) * isq (X * 4 ^ j) = X * 4 ^ j then 0 else 1 := by unfold rtK; split <;> omega
  have e2 : rtK (X * 4 ^ j) / 2 ^ (j + 1) = isq X := by rw [Nat.pow_succ, Nat.mul_comm (2 ^ j) 2, ← Nat.div_div_eq_div_mul, d2, e1]
  have e3 : rtK (X * 4 ^ j) % 2 ^ (j + 1) = 0 ↔ isq X * isq X = X := by
    rw [Nat.pow_succ, Nat.mul_comm (2 ^ j) 2, Nat.mod_mul, d2, m2]
    constructor
    · intro h0
      have h1 : isq (X * 4 ^ j) * isq (X * 4 ^ j) = X * 4 ^ j := by
        by_cases h1 : isq (X * 4 ^ j) * isq (X * 4 ^ j) = X * 4 ^ j
        · exact h1
        · rw [if_neg h1] at h0; omega
      have h2 : isq (X * 4 ^ j) % 2 ^ j = 0 := by omega
      have h3 : isq X * 2 ^ j = isq (X * 4 ^ j) := by
        have := Nat.div_add_mod (isq (X * 4 ^ j)) (2 ^ j)
        rw [e1, h2, Nat.mul_comm] at this
        omega
      rw [← h3, sq_four] at h1
      exact Nat.eq_of_mul_eq_mul_right hq h1
    · intro h0
      have h3 : isq (X * 4 ^ j) = isq X * 2 ^ j := by
        have : isq X * 2 ^ j * (isq X * 2 ^ j) = X * 4 ^ j := by rw [sq_four, h0]
        rw [← this]
        exact isq_sq (by rw [this]; exact h)
      have h4 : isq (X * 4 ^ j) * isq (X * 4 ^ j) = X * 4 ^ j := by rw [h3, sq_four, h0]
      rw [if_pos h4, h3, Nat.mul_mod_left]
  unfold stk
  rw [e2]
  by_cases h0 : isq X * isq X = X
  · rw [if_pos (e3.2 h0)]; unfold rtK; rw [if_pos h0]
  · rw [if_neg (fun h' => h0 (e3.1 h'))]; unfold rtK; rw [if_neg h0]
theorem rtK_round {m E : Int} {n : Bool} {X j : Nat} (h : X * 4 ^ j < lim) (h0 : 2 ^ 106 ≤ X) : rnP m n (rtK X) (E + j) = rnP m n (rtK (X * 4 ^ j)) E ∧ rnF m n (rtK X) (E + j) = rnF m n (rtK (X * 4 ^ j)) E := by
  have hq : 0 < 4 ^ j := Nat.pow_pos (by omega)
  have hX : X < lim := Nat.lt_of_le_of_lt (Nat.le_mul_of_pos_right X hq) h
  have r := stk_round (m := m) (neg := n) (A := rtK (X * 4 ^ j)) (d := j + 1) (F := E) (.inr (by
    have d2 : rtK (X * 4 ^ j) / 2 = isq (X * 4 ^ j) := by unfold rtK; split <;> omega
    rw [Nat.pow_succ, Nat.mul_comm (2 ^ j) 2, ← Nat.div_div_eq_div_mul, d2, isq_cut j h]
    refine le_len (k := 53) ?_
    obtain ⟨_, s2⟩ := isq_spec hX
    rcases Nat.lt_or_ge (isq X) (2 ^ 53) with hl | hl
    · have := Nat.mul_le_mul hl hl
      rw [← Nat.pow_add] at this
      have h1 := Nat.lt_of_lt_of_le s2 this
      omega
    · exact hl))
  rw [rtK_stk j h, show E + ((j + 1 : Nat) : Int) - 1 = E + (j : Int) by omega] at r
  exact r
/-- what a root is found of; its power; rounded -/
def rtU (a : Int) : Nat := 128 + (xp a % 2).toNat
def rtX (a : Int) : Nat := (sg a).toNat * 2 ^ rtU a
def rtE (a : Int) : Int := (xp a - rtU a) / 2 - 1
def rtP (m a : Int) : Int := rnP m false (rtK (rtX a)) (rtE a)
def rtF (m a : Int) : Int := rnF m false (rtK (rtX a)) (rtE a)
theorem rt_bd (m a : Int) : 0 ≤ rtP m a ∧ rtP m a ≤ 9218868437227405312 := rnP_bd _ _ _ _
theorem rtU_bd (a : Int) : 128 ≤ rtU a ∧ rtU a ≤ 129 := by unfold rtU; omega
theorem rtX_lt (a : Int) (j : Nat) (hj : j ≤ 12) : rtX a * 2 ^ j < 2 ^ 194 := by
  have h := sg_lt a
  have u := rtU_bd a
  unfold rtX
  rw [Nat.mul_assoc, ← Nat.pow_add]
  have h1 : 2 ^ (rtU a + j) ≤ 2 ^ 141 := Nat.pow_le_pow_right (by omega) (by omega)
  have h2 : (sg a).toNat * 2 ^ (rtU a + j) ≤ 9007199254740991 * 2 ^ 141 := Nat.mul_le_mul (by omega) h1
  exact Nat.lt_of_le_of_lt h2 (by decide)
theorem rtX_ge {a : Int} (h : sg a ≠ 0) : 2 ^ 106 ≤ rtX a := by
  have h0 := sg_lt a
  have u := rtU_bd a
  unfold rtX
  exact Nat.le_trans (Nat.pow_le_pow_right (by omega) (show 106 ≤ rtU a by omega)) (Nat.le_mul_of_pos_left _ (by omega))
/-- the document's root -/
theorem rt_doc {m a : Int} (h : sg a ≠ 0) : rnP m false (rtK (rtX a * 2 ^ 12)) (rtE a - 6) = rtP m a ∧ rnF m false (rtK (rtX a * 2 ^ 12)) (rtE a - 6) = rtF m a := by
  have hl : rtX a * 4 ^ 6 < lim := Nat.lt_trans (rtX_lt a 12 (by omega)) (by decide)
  have r := rtK_round (m := m) (E := rtE a - 6) (n := false) (X := rtX a) (j := 6) hl (rtX_ge h)
  rw [show rtE a - 6 + ((6 : Nat) : Int) = rtE a by omega] at r
  exact ⟨r.1.symm, r.2.symm⟩
end Go.Rn
