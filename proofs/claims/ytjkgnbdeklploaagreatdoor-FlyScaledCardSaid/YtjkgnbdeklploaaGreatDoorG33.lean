/-
  FlS, FlW
-/
import Derived.Test.YtjkgnbdeklploaaGreatDoorG31
namespace Go.Proofs.YtjkgnbdeklploaaGreatDoor
open Go.KRun Go.Wd Go.Pt Go.Rn
set_option maxRecDepth 100000
def sc (p : Int) : Int := if mag p = 0 then p else p + 1351079888211148800
/-- finite, so many units at least in its number's last place, and not too great -/
def Sz (j k : Nat) (p : Int) : Prop := U p ∧ cl p ≤ 2 ∧ 2 ^ j ∣ uV p ∧ uV p ≤ 2 ^ (1074 + k)
theorem two_pos (n : Nat) : 0 < 2 ^ n := Nat.pow_pos (by omega)
theorem add_two {a b c : Nat} (h : c = a + b) : 2 ^ c = 2 ^ a * 2 ^ b := by rw [h, Nat.pow_add]
theorem mul_two {a b c x y : Nat} (h : c = a + b) (hx : 2 ^ a ∣ x) (hy : 2 ^ b ∣ y) : 2 ^ c ∣ x * y := by rw [add_two h]; exact Nat.mul_dvd_mul hx hy
theorem mulI_two {a b c : Nat} {x : Int} (h : c = a + b) (hx : ((2 ^ a : Nat) : Int) ∣ x) : ((2 ^ c : Nat) : Int) ∣ x * ((2 ^ b : Nat) : Int) := by rw [add_two h, Int.natCast_mul]; exact Int.mul_dvd_mul hx (Int.dvd_refl _)
theorem le_two {b x y A : Nat} (hx : x ≤ A) (hy : y ≤ 2 ^ b) : x * y ≤ A * 2 ^ b := Nat.mul_le_mul hx hy
theorem le_two1 {b x A : Nat} (hx : x ≤ A) : x * 2 ^ b ≤ A * 2 ^ b := Nat.mul_le_mul_right _ hx
theorem z_two (n : Nat) : 0 = 0 * 2 ^ n := (Nat.zero_mul _).symm
theorem rc_two (a : Int) (b c : Nat) : a * ((2 ^ b : Nat) : Int) * ((2 ^ c : Nat) : Int) = a * ((2 ^ c : Nat) : Int) * ((2 ^ b : Nat) : Int) := Int.mul_right_comm _ _ _
theorem two_le {a b : Nat} (h : a ≤ b) : 2 ^ a ≤ 2 ^ b := Nat.pow_le_pow_right (by omega) h
theorem uV_eq (p : Int) : uV p = (sg p).toNat * 2 ^ (xp p + 1074).toNat := by
  unfold uV szF
  congr 2
theorem pow_lt_of {a b : Nat} (h : 2 ^ a < 2 ^ b) : a < b := (Nat.pow_lt_pow_iff_right (by omega)).1 h
theorem pow_le_of {a b : Nat} (h : 2 ^ a ≤ 2 ^ b) : a ≤ b := (Nat.pow_le_pow_iff_right (by omega)).1 h
theorem Sz.ex {j k : Nat} {p : Int} (h : Sz j k p) (hj : 843 ≤ j) (h0 : mag p ≠ 0) : 792 ≤ ex p ∧ ex p ≤ 1023 + k := by
  obtain ⟨e8, h8⟩ : ∃ e : Nat, e = 843 := ⟨_, rfl⟩
  obtain ⟨hu, hc, hd, hk⟩ := h
  have hx := fin_ex hc
  have hne : uV p ≠ 0 := fun e => h0 ((uV_zero hx).1 e)
  have hge : 2 ^ e8 ≤ uV p := Nat.le_trans (two_le (a := e8) (by omega)) (Nat.le_of_dvd (by omega) hd)
  have hb := ex_lt p
  have hf := fr_lt p
  have e := uV_eq p
  by_cases hz : Go.Pt.ex p = 0
  · exfalso
    have : uV p = (fr p).toNat := by
      rw [e]
      unfold sg xp
      rw [if_pos hz, if_pos hz]
      simp
    have h2 : (2 : Nat) ^ 52 ≤ 2 ^ e8 := Nat.pow_le_pow_right (by omega) (by omega)
    have h3 : (2 : Nat) ^ 52 = 4503599627370496 := rfl
    omega
  · have es : sg p = fr p + 4503599627370496 := by unfold sg; rw [if_neg hz, if_neg hx]
    have ee : xp p = Go.Pt.ex p - 1075 := by unfold xp; rw [if_neg hz, if_neg hx]
    obtain ⟨q, hq⟩ : ∃ q : Nat, Go.Pt.ex p = q + 1 := ⟨(Go.Pt.ex p - 1).toNat, by omega⟩
    have e2 : (xp p + 1074).toNat = q := by omega
    rw [e2] at e
    have h53 : (2 : Nat) ^ 53 = 9007199254740992 := rfl
    have h52 : (2 : Nat) ^ 52 = 4503599627370496 := rfl
    have l1 : uV p < 2 ^ (53 + q) := by
      rw [e, Nat.pow_add]
      exact Nat.mul_lt_mul_of_pos_right (by omega) (Nat.pow_pos (by omega))
    have l2 : 2 ^ (52 + q) ≤ uV p := by
      rw [e, Nat.pow_add]
      exact Nat.mul_le_mul_right _ (by omega)
    have a1 := pow_lt_of (Nat.lt_of_le_of_lt hge l1)
    have a2 := pow_le_of (Nat.le_trans l2 hk)
    omega
theorem Sz.sc {j k : Nat} {p : Int} {c : Nat} (h3 : c = 300) (h : Sz j k p) (hj : 843 ≤ j) (hk : k ≤ 300) : U (sc p) ∧ cl (sc p) ≤ 2 ∧ sgn (sc p) = sgn p ∧ uV (sc p) = uV p * 2 ^ c ∧ pvI (sc p) = pvI p * ((2 ^ c : Nat) : Int) := by
  have hx := fin_ex h.2.1
  by_cases h0 : mag p = 0
  · have e : Go.Proofs.YtjkgnbdeklploaaGreatDoor.sc p = p := by unfold Go.Proofs.YtjkgnbdeklploaaGreatDoor.sc; rw [if_pos h0]
    have z : uV p = 0 := (uV_zero hx).2 h0
    rw [e]
    refine ⟨h.1, h.2.1, rfl, by rw [z]; exact z_two c, ?_⟩
    unfold pvI
    rw [z]
    cases sgn p <;> simp [sgI]
  · obtain ⟨b1, b2⟩ := h.ex hj h0
    have e : Go.Proofs.YtjkgnbdeklploaaGreatDoor.sc p = p + 1351079888211148800 := by unfold Go.Proofs.YtjkgnbdeklploaaGreatDoor.sc; rw [if_neg h0]
    have hu := h.1
    rw [e]
    have e1 : Go.Pt.ex (p + 1351079888211148800) = Go.Pt.ex p + 300 := by unfold Go.Pt.ex U at *; omega
    have e2 : fr (p + 1351079888211148800) = fr p := by unfold fr; omega
    have e3 : sgn (p + 1351079888211148800) = sgn p := by
      have : (9223372036854775808 ≤ p + 1351079888211148800) ↔ 9223372036854775808 ≤ p := by unfold Go.Pt.ex U at *; omega
      simpa [sgn] using this
    have e4 : sg (p + 1351079888211148800) = sg p ∧ xp (p + 1351079888211148800) = xp p + 300 := by
      unfold sg xp
      rw [e1, e2, if_neg (by omega), if_neg (by omega), if_neg (by omega), if_neg (by omega), if_neg (by omega), if_neg (by omega), if_neg (by omega), if_neg (by omega)]
      exact ⟨rfl, by omega⟩
    have e5 : uV (p + 1351079888211148800) = uV p * 2 ^ c := by
      rw [uV_eq, uV_eq, e4.1, e4.2]
      have : (xp p + 300 + 1074).toNat = (xp p + 1074).toNat + c := by have := xp_bd p; omega
      rw [this, Nat.pow_add, Nat.mul_assoc]
    refine ⟨by unfold Go.Pt.ex U at *; omega, ?_, e3, e5, ?_⟩
    · have : cl (p + 1351079888211148800) = 2 := by
        unfold cl
        rw [e1, if_neg (by omega), if_neg (by omega)]
      omega
    · unfold pvI
      rw [e3, e5, sgI_mul]
/-! ### rounding, a power of two further up -/
theorem toQ_shift (m : Int) (n : Bool) (T : Nat) (E e : Int) : toQ m n T (E + 300) (e + 300) = toQ m n T E e ∧ toL T (E + 300) (e + 300) = toL T E e := by
  unfold toQ toL
  have h1 : (e + 300 ≤ E + 300) ↔ e ≤ E := by omega
  have h2 : E + 300 - (e + 300) = E - e := by omega
  have h3 : e + 300 - (E + 300) = e - E := by omega
  simp only [h1, h2, h3, and_self]
theorem rn_shift {m : Int} {n : Bool} {T : Nat} {E : Int} (hT : T ≠ 0) (hl : -1022 ≤ lgN T E) (hb : p0 m n T E + 1351079888211148800 < 9218868437227405312) : rnP m n T (E + 300) = rnP m n T E + 1351079888211148800 ∧ rnF m n T (E + 300) = rnF m n T E := by
  have hlg : lgN T (E + 300) = lgN T E + 300 := by unfold lgN; omega
  have hlow : lowE T (E + 300) = lowE T E + 300 := by unfold lowE; rw [hlg]; split <;> split <;> omega
  obtain ⟨q1, q2⟩ := toQ_shift m n T E (lowE T E)
  have hp : p0 m n T (E + 300) = p0 m n T E + 1351079888211148800 := by unfold p0; rw [hlow, q1]; omega
  have ht : ∀ F, lgN T F ≥ -1022 → tiny m n T F = false := fun F hF => by
    unfold tiny
    rw [if_neg (by omega)]
    exact decide_eq_false (by omega)
  have a1 : rnP m n T (E + 300) = p0 m n T (E + 300) := by unfold rnP; rw [if_neg hT, if_neg (by omega)]
  have a2 : rnP m n T E = p0 m n T E := by unfold rnP; rw [if_neg hT, if_neg (by omega)]
  have b1 : rnF m n T (E + 300) = if toL T (E + 300) (lowE T (E + 300)) = true then 16 else 0 := by
    unfold rnF
    rw [if_neg hT, if_neg (by omega), ht _ (by omega)]
    simp
  have b2 : rnF m n T E = if toL T E (lowE T E) = true then 16 else 0 := by
    unfold rnF
    rw [if_neg hT, if_neg (by omega), ht _ (by omega)]
    simp
  rw [a1, a2, b1, b2, hp, hlow, q2]
  exact ⟨rfl, rfl⟩
/-- what is rounded: where its number's last place is, and how great it is -/
theorem rn_size {n : Bool} {T j b : Nat} {E : Int} {w k : Nat} (hT : T ≠ 0) (hj : 2 ^ j ∣ T) (hb : T < 2 ^ b) (hw : (w : Int) = E + j + 1074) (hw5 : 843 ≤ w) (hk : (b : Int) + E = k) (hk3 : k ≤ 300) :
    -1022 ≤ lgN T E ∧ p0 0 n T E + 1351079888211148800 < 9218868437227405312 ∧ 2 ^ w ∣ uV (rnP 0 n T E) ∧ uV (rnP 0 n T E) ≤ 2 ^ (1074 + k) ∧ rnP 0 n T E < 9218868437227405312 := by
  have l1 : j + 1 ≤ bitLen T := le_len (Nat.le_of_dvd (by omega) hj)
  have l2 : bitLen T ≤ b := len_le hb
  have hlg : -1022 ≤ lgN T E := by unfold lgN; omega
  have hlow : lowE T E = E + (bitLen T : Nat) - 53 := by unfold lowE lgN at *; split <;> omega
  have hhi := low_hi 0 n T E
  have hp : p0 0 n T E + 1351079888211148800 < 9218868437227405312 := by unfold p0; omega
  have hF : rnF 0 n T E = 0 ∨ rnF 0 n T E = 16 ∨ rnF 0 n T E = 24 := by
    unfold rnF
    rw [if_neg hT, if_neg (by omega)]
    split
    · split <;> simp
    · simp
  obtain ⟨r1, r2, r3, _⟩ := rn_num hT hF
  refine ⟨hlg, hp, ?_, ?_, by omega⟩
  · rw [r3]
    by_cases hlw : E + j ≤ lowE T E
    · have : (lowE T E + 1074).toNat = ((lowE T E + 1074).toNat - w) + w := by omega
      rw [this, Nat.pow_add, ← Nat.mul_assoc]
      exact Nat.dvd_mul_left _ _
    · obtain ⟨q, rfl⟩ := hj
      unfold toQ
      by_cases hle : lowE (2 ^ j * q) E ≤ E
      · rw [if_pos hle]
        have h1 : 2 ^ j * q * 2 ^ (E - lowE (2 ^ j * q) E).toNat * 2 ^ (lowE (2 ^ j * q) E + 1074).toNat = 2 ^ w * q := by
          have e2 : w = j + ((E - lowE (2 ^ j * q) E).toNat + (lowE (2 ^ j * q) E + 1074).toNat) := by omega
          rw [e2, Nat.pow_add, Nat.pow_add, Nat.mul_assoc, Nat.mul_right_comm]
        rw [h1]
        exact Nat.dvd_mul_right _ _
      · rw [if_neg hle]
        obtain ⟨d, hd⟩ : ∃ d : Nat, d = (lowE (2 ^ j * q) E - E).toNat := ⟨_, rfl⟩
        obtain ⟨r, hr⟩ : ∃ r : Nat, j = r + d := ⟨j - d, by omega⟩
        have e1 : 2 ^ j * q = 2 ^ r * q * 2 ^ d := by rw [hr, Nat.pow_add, Nat.mul_right_comm]
        rw [← hd]
        have e3 : rq 0 n (2 ^ j * q) d = 2 ^ r * q := by
          rw [rq_exact (by rw [e1, Nat.mul_mod_left]), e1, Nat.mul_div_cancel _ (Nat.pow_pos (by omega))]
        rw [e3]
        have e4 : w = r + (lowE (2 ^ j * q) E + 1074).toNat := by omega
        have h1 : 2 ^ r * q * 2 ^ (lowE (2 ^ j * q) E + 1074).toNat = 2 ^ w * q := by rw [e4, Nat.pow_add, Nat.mul_right_comm]
        rw [h1]
        exact Nat.dvd_mul_right _ _
  · rw [r3]
    have hq : toQ 0 n T E (lowE T E) ≤ 2 ^ 53 := hhi
    have e1 : 53 + (lowE T E + 1074).toNat ≤ 1074 + k := by omega
    calc toQ 0 n T E (lowE T E) * 2 ^ (lowE T E + 1074).toNat ≤ 2 ^ 53 * 2 ^ (lowE T E + 1074).toNat := Nat.mul_le_mul_right _ hq
      _ = 2 ^ (53 + (lowE T E + 1074).toNat) := (Nat.pow_add _ _ _).symm
      _ ≤ 2 ^ (1074 + k) := Nat.pow_le_pow_right (by omega) e1
/-- what is rounded, and that times a power of two, alike -/
theorem rn_both {c : Nat} (h3 : c = 300) {nn : Bool} {S : Int} {j b : Nat} {E : Int} {w k : Nat} (hj : 2 ^ j ∣ S.natAbs) (hb : S.natAbs < 2 ^ b) (hw : (w : Int) = E + j + 1074) (hw5 : 843 ≤ w) (hk : (b : Int) + E = k) (hk3 : k ≤ 300) :
    sS nn (rnP 0 nn (S * ((2 ^ c : Nat) : Int)).natAbs E) = sc (sS nn (rnP 0 nn S.natAbs E)) ∧ rnF 0 nn (S * ((2 ^ c : Nat) : Int)).natAbs E = rnF 0 nn S.natAbs E ∧ Sz w k (sS nn (rnP 0 nn S.natAbs E)) := by
  have eA : (S * ((2 ^ c : Nat) : Int)).natAbs = S.natAbs * 2 ^ c := by rw [Int.natAbs_mul, Int.natAbs_natCast]
  have sp := rnP_scale 0 nn S.natAbs c (E + 300)
  have sf := rnF_scale 0 nn S.natAbs c (E + 300)
  have eE : E + 300 - ((c : Nat) : Int) = E := by omega
  rw [eE] at sp sf
  rw [eA, sp, sf]
  by_cases h0 : S.natAbs = 0
  · rw [h0]
    have z : ∀ F, rnP 0 nn 0 F = 0 ∧ rnF 0 nn 0 F = 0 := fun F => by simp [rnP, rnF]
    rw [(z _).1, (z _).1, (z _).2, (z _).2]
    have zz : mag (sS nn 0) = 0 ∧ U (sS nn 0) ∧ cl (sS nn 0) ≤ 2 ∧ uV (sS nn 0) = 0 := by cases nn <;> decide
    refine ⟨?_, rfl, zz.2.1, zz.2.2.1, by rw [zz.2.2.2]; exact Nat.dvd_zero _, by rw [zz.2.2.2]; exact Nat.zero_le _⟩
    unfold Go.Proofs.YtjkgnbdeklploaaGreatDoor.sc
    rw [if_pos zz.1]
  · obtain ⟨q1, q2, q3, q4, q5⟩ := rn_size (n := nn) h0 hj hb hw hw5 hk hk3
    obtain ⟨s1, s2⟩ := rn_shift h0 q1 q2
    have hlo := rnP_bd 0 nn S.natAbs E
    obtain ⟨m1, m2, m3, m4⟩ := sS_mag (n := nn) (r := rnP 0 nn S.natAbs E) hlo.1 (by omega)
    have hne : rnP 0 nn S.natAbs E ≠ 0 := by
      intro hz
      have hd := q3
      have hrF : rnF 0 nn S.natAbs E = 0 ∨ rnF 0 nn S.natAbs E = 16 ∨ rnF 0 nn S.natAbs E = 24 := by
        unfold rnF
        rw [if_neg h0, if_neg (by omega)]
        split
        · split <;> simp
        · simp
      obtain ⟨_, r2, _, _⟩ := rn_num h0 hrF
      have hq := low_lo (m := 0) (neg := nn) h0 (show -1074 ≤ lgN S.natAbs E - 52 by omega)
      have hl := lowE_ge S.natAbs E
      rw [r2] at hz
      unfold p0 at hz
      omega
    refine ⟨?_, s2, m3, ?_, by rw [m4]; exact q3, by rw [m4]; exact q4⟩
    · rw [s1]
      unfold Go.Proofs.YtjkgnbdeklploaaGreatDoor.sc
      rw [m1, if_neg hne]
      unfold sS
      split <;> omega
    · exact (mag_cl _).2.2.2 (by rw [m1]; exact q5)
/-! ### sums, and products with a third number added -/
theorem sg_dvd {j : Nat} {n : Bool} {A : Nat} (h : 2 ^ j ∣ A) : ((2 ^ j : Nat) : Int) ∣ sgI n A := by
  cases n
  · exact Int.natCast_dvd_natCast.2 h
  · exact Int.dvd_neg.2 (Int.natCast_dvd_natCast.2 h)
theorem abs_dvd {j : Nat} {S : Int} (h : ((2 ^ j : Nat) : Int) ∣ S) : 2 ^ j ∣ S.natAbs := Int.natCast_dvd_natCast.1 (Int.dvd_natAbs.2 h)
theorem abs_sg (n : Bool) (A : Nat) : (sgI n A).natAbs = A := sgI_abs n A
theorem su_sc {j k : Nat} {a b : Int} (ha : Sz j k a) (hb : Sz j k b) (hj : 843 ≤ j) (hk : k ≤ 290) : suP 0 (sc a) (sc b) = sc (suP 0 a b) ∧ suF 0 (sc a) (sc b) = suF 0 a b ∧ Sz j (k + 2) (suP 0 a b) := by
  obtain ⟨c3, h3⟩ : ∃ c : Nat, c = 300 := ⟨_, rfl⟩
  obtain ⟨ua, ca, na, va, pa⟩ := ha.sc h3 hj (by omega)
  obtain ⟨ub, cb, nb, vb, pb⟩ := hb.sc h3 hj (by omega)
  obtain ⟨x1, x2⟩ := suP_fin (m := 0) ha.2.1 hb.2.1
  obtain ⟨y1, y2⟩ := suP_fin (m := 0) ca cb
  have ep : psI (sc a) (sc b) = psI a b * ((2 ^ c3 : Nat) : Int) := by unfold psI; rw [pa, pb, Int.add_mul]
  have en : adN 0 (sc a) (sc b) = adN 0 a b := by unfold adN; rw [ep, na, nb, sgS_mul _ _ _ _ (two_pos c3)]
  have hd : 2 ^ j ∣ (psI a b).natAbs := abs_dvd (Int.dvd_add (sg_dvd ha.2.2.1) (sg_dvd hb.2.2.1))
  have hlt : (psI a b).natAbs < 2 ^ (1074 + k + 2) := by
    have h1 : (psI a b).natAbs ≤ uV a + uV b := by
      have := Int.natAbs_add_le (pvI a) (pvI b)
      unfold pvI at this
      rw [abs_sg, abs_sg] at this
      exact this
    have h2 := ha.2.2.2
    have h3 := hb.2.2.2
    have h4 : (2 : Nat) ^ (1074 + k + 2) = 4 * 2 ^ (1074 + k) := by rw [Nat.pow_add, Nat.mul_comm]
    have h5 : 0 < (2 : Nat) ^ (1074 + k) := Nat.pow_pos (by omega)
    omega
  obtain ⟨r1, r2, r3⟩ := rn_both h3 (nn := adN 0 a b) (E := -1074) (w := j) (k := k + 2) hd hlt (by omega) hj (by omega) (by omega)
  rw [x1, x2, y1, y2]
  unfold adP adF
  rw [en, ep]
  exact ⟨r1, r2, r3⟩
theorem fs_num {m : Nat} (hm : m = 1074) (a p c : Int) : fsI a p c = sgI (prN a p) (uV a * uV p) + pvI c * ((2 ^ m : Nat) : Int) := by
  have h1 := xp_bd a
  have h2 := xp_bd p
  have h3 := xp_bd c
  unfold fsI smI
  congr 1
  · congr 1
    unfold szF
    rw [uV_eq, uV_eq]
    unfold prV prE
    have : (xp a + xp p - -2148).toNat = (xp a + 1074).toNat + (xp p + 1074).toNat := by omega
    rw [this, Nat.pow_add]
    simp only [Nat.mul_assoc, Nat.mul_left_comm]
  · unfold pvI
    rw [← sgI_mul]
    congr 1
    unfold szF
    rw [uV_eq]
    have : (xp c - -2148).toNat = (xp c + 1074).toNat + m := by omega
    rw [this, Nat.pow_add, Nat.mul_assoc]
/-- a point's part -/
def Pz (p : Int) : Prop := U p ∧ cl p ≤ 2 ∧ 2 ^ 1018 ∣ uV p ∧ uV p ≤ 2 ^ 1074
theorem fm_sc {k : Nat} {a p c : Int} (ha : Sz 899 k a) (hp : Pz p) (hc : Sz 843 k c) (hk : k ≤ 290) : fmP 0 (sc a) p (sc c) = sc (fmP 0 a p c) ∧ fmF 0 (sc a) p (sc c) = fmF 0 a p c ∧ Sz 843 (k + 2) (fmP 0 a p c) := by
  obtain ⟨c3, h3⟩ : ∃ c : Nat, c = 300 := ⟨_, rfl⟩
  obtain ⟨d9, h9⟩ : ∃ d : Nat, d = 1917 := ⟨_, rfl⟩
  obtain ⟨m4, q4⟩ : ∃ d : Nat, d = 1074 := ⟨_, rfl⟩
  have hpz : uV p ≤ 2 ^ m4 := by subst q4; exact hp.2.2.2
  obtain ⟨ua, ca, na, va, pa⟩ := ha.sc h3 (by omega) (by omega)
  obtain ⟨uc, cc, nc, vc, pc⟩ := hc.sc h3 (by omega) (by omega)
  obtain ⟨x1, x2⟩ := fmP_fin (m := 0) ha.2.1 hp.2.1 hc.2.1
  obtain ⟨y1, y2⟩ := fmP_fin (m := 0) ca hp.2.1 cc
  have en' : prN (sc a) p = prN a p := by unfold prN; rw [na]
  have ep : fsI (sc a) p (sc c) = fsI a p c * ((2 ^ c3 : Nat) : Int) := by
    rw [fs_num q4, fs_num q4, en', va, pc, Int.add_mul, Nat.mul_right_comm, sgI_mul]
    congr 1
    exact rc_two _ c3 m4
  have en : fsN 0 (sc a) p (sc c) = fsN 0 a p c := by unfold fsN; rw [ep, en', nc, sgS_mul _ _ _ _ (two_pos c3)]
  have hd : 2 ^ d9 ∣ (fsI a p c).natAbs := by
    rw [fs_num q4]
    refine abs_dvd (Int.dvd_add (sg_dvd ?_) ?_)
    · exact mul_two (a := 899) (b := 1018) (c := d9) (by omega) ha.2.2.1 hp.2.2.1
    · exact mulI_two (a := 843) (b := m4) (c := d9) (by omega) (sg_dvd (j := 843) (n := sgn c) (A := uV c) hc.2.2.1)
  have hlt : (fsI a p c).natAbs < 2 ^ (2148 + k + 2) := by
    have h1 : (fsI a p c).natAbs ≤ uV a * uV p + uV c * 2 ^ m4 := by
      rw [fs_num q4]
      refine Nat.le_trans (Int.natAbs_add_le _ _) ?_
      rw [abs_sg, Int.natAbs_mul, Int.natAbs_natCast]
      unfold pvI
      rw [abs_sg]
      exact Nat.le_refl _
    have h2 : uV a * uV p ≤ 2 ^ (1074 + k) * 2 ^ m4 := le_two ha.2.2.2 hpz
    have h3 : uV c * 2 ^ m4 ≤ 2 ^ (1074 + k) * 2 ^ m4 := le_two1 hc.2.2.2
    have h4 : (2 : Nat) ^ (2148 + k + 2) = 4 * (2 ^ (1074 + k) * 2 ^ m4) := by
      rw [show 2148 + k + 2 = 2 + ((1074 + k) + m4) by omega, Nat.pow_add, Nat.pow_add 2 (1074 + k)]
    have h5 : 0 < (2 : Nat) ^ (1074 + k) * 2 ^ m4 := Nat.mul_pos (Nat.pow_pos (by omega)) (Nat.pow_pos (by omega))
    omega
  obtain ⟨r1, r2, r3⟩ := rn_both h3 (nn := fsN 0 a p c) (E := -2148) (w := 843) (k := k + 2) hd hlt (by omega) (by omega) (by omega) (by omega)
  rw [x1, x2, y1, y2]
  unfold fsP fsF
  rw [en, ep]
  exact ⟨r1, r2, r3⟩
theorem ng_sc {j k : Nat} {p : Int} (h : Sz j k p) (hj : 843 ≤ j) (hk : k ≤ 300) : Sz j k (ng p) ∧ sc (ng p) = ng (sc p) := by
  obtain ⟨p1, p2, p3, p4, p5⟩ := ng_parts h.1
  obtain ⟨n1, n2, n3, n4, n5⟩ := ng_num h.1
  refine ⟨⟨p1, by rw [n3]; exact h.2.1, by rw [n4]; exact h.2.2.1, by rw [n4]; exact h.2.2.2⟩, ?_⟩
  unfold sc
  rw [p5]
  by_cases h0 : mag p = 0
  · rw [if_pos h0, if_pos h0]
  · rw [if_neg h0, if_neg h0]
    obtain ⟨b1, b2⟩ := h.ex hj h0
    have hu := h.1
    clear p1 p2 p3 p4 p5 n1 n2 n3 n4 n5
    unfold ng
    unfold Go.Pt.ex at b1 b2
    unfold U at hu
    omega
theorem Sz.mono {j j' k k' : Nat} {p : Int} (h : Sz j k p) (hj : j' ≤ j) (hk : k ≤ k') : Sz j' k' p :=
  ⟨h.1, h.2.1, Nat.dvd_trans (Nat.pow_dvd_pow 2 hj) h.2.2.1, Nat.le_trans h.2.2.2 (Nat.pow_le_pow_right (by omega) (by omega))⟩
def sc2 (x : PR) : PR := (sc x.1, sc x.2)
def Z2 (j k : Nat) (x : PR) : Prop := Sz j k x.1 ∧ Sz j k x.2
def ZA (j k : Nat) (l : List PR) : Prop := ∀ x ∈ l, Z2 j k x
theorem Z2.mono {j j' k k' : Nat} {x : PR} (h : Z2 j k x) (hj : j' ≤ j) (hk : k ≤ k') : Z2 j' k' x := ⟨h.1.mono hj hk, h.2.mono hj hk⟩
theorem ZA.mono {j j' k k' : Nat} {l : List PR} (h : ZA j k l) (hj : j' ≤ j) (hk : k ≤ k') : ZA j' k' l := fun x hx => (h x hx).mono hj hk
theorem sz_zero (j k : Nat) : Sz j k 0 := by
  have e : uV 0 = 0 := by decide
  exact ⟨by unfold U; omega, by decide, by rw [e]; exact Nat.dvd_zero _, by rw [e]; exact Nat.zero_le _⟩
theorem z2_zero (j k : Nat) : Z2 j k (0, 0) := ⟨sz_zero j k, sz_zero j k⟩
theorem sc2_zero : sc2 (0, 0) = (0, 0) := by decide
/-- a step alike: its answer, and its flags -/
def St (j k : Nat) (v v' : PR) (o o' : OpR) : Prop := v' = sc2 v ∧ Z2 j k v ∧ o'.1 = o.1
theorem ad2_sc {j k : Nat} {x y : PR} (hx : Z2 j k x) (hy : Z2 j k y) (hj : 843 ≤ j) (hk : k ≤ 290) : St j (k + 2) (ad2 x y) (ad2 (sc2 x) (sc2 y)) (opA x y) (opA (sc2 x) (sc2 y)) := by
  obtain ⟨a1, a2, a3⟩ := su_sc hx.1 hy.1 hj hk
  obtain ⟨b1, b2, b3⟩ := su_sc hx.2 hy.2 hj hk
  refine ⟨?_, ⟨a3, b3⟩, ?_⟩
  · unfold ad2 sc2; rw [a1, b1]
  · unfold opA sc2; simp only [a2, b2]
theorem sb2_sc {j k : Nat} {x y : PR} (hx : Z2 j k x) (hy : Z2 j k y) (hj : 843 ≤ j) (hk : k ≤ 290) : St j (k + 2) (sb2 x y) (sb2 (sc2 x) (sc2 y)) (opS x y) (opS (sc2 x) (sc2 y)) := by
  obtain ⟨n1, m1⟩ := ng_sc hy.1 hj (by omega)
  obtain ⟨n2, m2⟩ := ng_sc hy.2 hj (by omega)
  obtain ⟨a1, a2, a3⟩ := su_sc hx.1 n1 hj hk
  obtain ⟨b1, b2, b3⟩ := su_sc hx.2 n2 hj hk
  refine ⟨?_, ⟨a3, b3⟩, ?_⟩
  · unfold sb2 sc2; simp only [← m1, ← m2]; rw [a1, b1]
  · unfold opS sc2; simp only [← m1, ← m2, a2, b2]
theorem mo2_sc {k : Nat} {x c : PR} {p : Int} (hx : Z2 899 k x) (hp : Pz p) (hc : Z2 843 k c) (hk : k ≤ 290) : St 843 (k + 2) (mo2 x p c) (mo2 (sc2 x) p (sc2 c)) (opM x p c) (opM (sc2 x) p (sc2 c)) := by
  obtain ⟨a1, a2, a3⟩ := fm_sc hx.1 hp hc.1 hk
  obtain ⟨b1, b2, b3⟩ := fm_sc hx.2 hp hc.2 hk
  refine ⟨?_, ⟨a3, b3⟩, ?_⟩
  · unfold mo2 sc2; rw [a1, b1]
  · unfold opM sc2; simp only [a2, b2]
theorem tn2_sc {j k : Nat} {x : PR} {t : Bool} (hx : Z2 j k x) (hj : 843 ≤ j) (hk : k ≤ 300) : tn2 (sc2 x) t = sc2 (tn2 x t) ∧ Z2 j k (tn2 x t) := by
  obtain ⟨n1, m1⟩ := ng_sc hx.1 hj hk
  obtain ⟨n2, m2⟩ := ng_sc hx.2 hj hk
  cases t
  · exact ⟨by show (ng (sc x.2), sc x.1) = (sc (ng x.2), sc x.1); rw [m2], n2, hx.1⟩
  · exact ⟨by show (sc x.2, ng (sc x.1)) = (sc x.2, sc (ng x.1)); rw [m1], hx.2, n1⟩
/-! ### lists -/
theorem flags_app (a b : List OpR) : flags (a ++ b) = flags a ++ flags b := by unfold flags; rw [List.flatMap_append]
theorem flags_cons (a : OpR) (b : List OpR) : flags (a :: b) = a.1 ++ flags b := rfl
theorem zip_sc {f : PR → PR → PR} {o : PR → PR → OpR} {j k : Nat} (hf : ∀ {x y}, Z2 j k x → Z2 j k y → St j (k + 2) (f x y) (f (sc2 x) (sc2 y)) (o x y) (o (sc2 x) (sc2 y))) : ∀ {a b : List PR}, ZA j k a → ZA j k b → List.zipWith f (a.map sc2) (b.map sc2) = (List.zipWith f a b).map sc2 ∧ ZA j (k + 2) (List.zipWith f a b) ∧ flags (List.zipWith o (a.map sc2) (b.map sc2)) = flags (List.zipWith o a b)
  | [], _, _, _ => ⟨by simp, fun x hx => by simp at hx, by simp⟩
  | _ :: _, [], _, _ => ⟨by simp, fun x hx => by simp at hx, by simp⟩
  | x :: a, y :: b, ha, hb => by
    obtain ⟨h1, h2, h3⟩ := hf (ha x List.mem_cons_self) (hb y List.mem_cons_self)
    obtain ⟨r1, r2, r3⟩ := zip_sc hf (a := a) (b := b) (fun u hu => ha u (List.mem_cons_of_mem _ hu)) (fun u hu => hb u (List.mem_cons_of_mem _ hu))
    refine ⟨?_, fun z hz => ?_, ?_⟩
    · simp only [List.map_cons, List.zipWith_cons_cons, r1, h1]
    · rw [List.zipWith_cons_cons] at hz
      rcases List.mem_cons.1 hz with rfl | hz
      · exact h2
      · exact r2 z hz
    · simp only [List.map_cons, List.zipWith_cons_cons, flags_cons, r3, h3]
theorem zipA_sc {j k : Nat} (hj : 843 ≤ j) (hk : k ≤ 290) {a b : List PR} (ha : ZA j k a) (hb : ZA j k b) : List.zipWith ad2 (a.map sc2) (b.map sc2) = (List.zipWith ad2 a b).map sc2 ∧ ZA j (k + 2) (List.zipWith ad2 a b) ∧ flags (List.zipWith opA (a.map sc2) (b.map sc2)) = flags (List.zipWith opA a b) :=
  zip_sc (f := ad2) (o := opA) (fun {x y} p q => ad2_sc (x := x) (y := y) p q hj hk) ha hb
theorem zipS_sc {j k : Nat} (hj : 843 ≤ j) (hk : k ≤ 290) {a b : List PR} (ha : ZA j k a) (hb : ZA j k b) : List.zipWith sb2 (a.map sc2) (b.map sc2) = (List.zipWith sb2 a b).map sc2 ∧ ZA j (k + 2) (List.zipWith sb2 a b) ∧ flags (List.zipWith opS (a.map sc2) (b.map sc2)) = flags (List.zipWith opS a b) :=
  zip_sc (f := sb2) (o := opS) (fun {x y} p q => sb2_sc (x := x) (y := y) p q hj hk) ha hb
theorem scan_sc {j : Nat} (hj : 843 ≤ j) : ∀ {l : List PR} {k : Nat} {a : PR}, Z2 j k a → ZA j k l → k + 2 * l.length ≤ 290 → scanV (sc2 a) (l.map sc2) = sc2 (scanV a l) ∧ Z2 j (k + 2 * l.length) (scanV a l) ∧ flags (scanO (sc2 a) (l.map sc2)) = flags (scanO a l)
  | [], k, a, ha, _, _ => ⟨rfl, ha, rfl⟩
  | s :: l, k, a, ha, hl, hk => by
    simp only [List.length_cons] at hk
    obtain ⟨h1, h2, h3⟩ := ad2_sc ha (hl s List.mem_cons_self) hj (by omega)
    obtain ⟨r1, r2, r3⟩ := scan_sc hj (l := l) (k := k + 2) h2 (fun u hu => (hl u (List.mem_cons_of_mem _ hu)).mono (Nat.le_refl _) (by omega)) (by omega)
    refine ⟨?_, ?_, ?_⟩
    · simp only [List.map_cons, scanV]
      rw [h1, r1]
    · simp only [List.length_cons, scanV]
      exact r2.mono (Nat.le_refl _) (by omega)
    · simp only [List.map_cons, scanO, flags_cons]
      rw [h1, r3, h3]
theorem mo_sc : ∀ {l : List PR} {ps : List Int} {k : Nat} {a : PR}, Z2 843 k a → ZA 899 k l → (∀ p ∈ ps, Pz p) → k + 2 * l.length ≤ 290 → moV (sc2 a) (l.map sc2) ps = sc2 (moV a l ps) ∧ Z2 843 (k + 2 * l.length) (moV a l ps)
  | [], ps, k, a, ha, _, _, _ => ⟨rfl, ha⟩
  | s :: l, [], k, a, ha, _, _, _ => ⟨rfl, ha.mono (Nat.le_refl _) (by omega)⟩
  | s :: l, p :: ps, k, a, ha, hl, hp, hk => by
    simp only [List.length_cons] at hk
    obtain ⟨h1, h2, h3⟩ := mo2_sc (hl s List.mem_cons_self) (hp p List.mem_cons_self) ha (by omega)
    obtain ⟨r1, r2⟩ := mo_sc (l := l) (ps := ps) (k := k + 2) h2 (fun u hu => (hl u (List.mem_cons_of_mem _ hu)).mono (Nat.le_refl _) (by omega)) (fun q hq => hp q (List.mem_cons_of_mem _ hq)) (by omega)
    refine ⟨?_, ?_⟩
    · simp only [List.map_cons, moV]
      rw [h1, r1]
    · simp only [List.length_cons, moV]
      exact r2.mono (Nat.le_refl _) (by omega)
def Pz2 (l : List PR) : Prop := ∀ p ∈ l, Pz p.1 ∧ Pz p.2
theorem wav_sc : ∀ {ss ds ps : List PR} {k : Nat} {a e : PR}, Z2 843 k a → Z2 843 k e → ZA 899 k ss → ZA 899 k ds → Pz2 ps → k + 2 * ss.length ≤ 290 → flags (wavO (sc2 a) (sc2 e) (ss.map sc2) (ds.map sc2) ps) = flags (wavO a e ss ds ps)
  | [], _, _, _, _, _, _, _, _, _, _, _ => by simp [wavO]
  | _ :: _, [], _, _, _, _, _, _, _, _, _, _ => by simp [wavO]
  | _ :: _, _ :: _, [], _, _, _, _, _, _, _, _, _ => by simp [wavO]
  | s :: ss, d :: ds, p :: ps, k, a, e, ha, he, h1, h2, h3, hk => by
    simp only [List.length_cons] at hk
    obtain ⟨p1, p2⟩ := h3 p List.mem_cons_self
    obtain ⟨a1, a2, a3⟩ := mo2_sc (h1 s List.mem_cons_self) p1 ha (by omega)
    obtain ⟨b1, b2, b3⟩ := mo2_sc (h2 d List.mem_cons_self) p2 he (by omega)
    have r := wav_sc (ss := ss) (ds := ds) (ps := ps) (k := k + 2) a2 b2 (fun u hu => (h1 u (List.mem_cons_of_mem _ hu)).mono (Nat.le_refl _) (by omega)) (fun u hu => (h2 u (List.mem_cons_of_mem _ hu)).mono (Nat.le_refl _) (by omega)) (fun q hq => h3 q (List.mem_cons_of_mem _ hq)) (by omega)
    simp only [List.map_cons, wavO, flags_cons]
    rw [a1, b1, r, a3, b3]
/-! ### the points -/
def pzG (b c : Nat) (p : Int) : Bool := decide (0 ≤ p ∧ p < 18446744073709551616) && Nat.ble (Int.toNat (cl p)) 2 && (Nat.beq (uV p % 2 ^ b) 0) && Nat.ble (uV p) (2 ^ c)
theorem pzG_ok {b c : Nat} {p : Int} (h : pzG b c p = true) : U p ∧ cl p ≤ 2 ∧ 2 ^ b ∣ uV p ∧ uV p ≤ 2 ^ c := by
  unfold pzG at h
  simp only [Bool.and_eq_true, decide_eq_true_eq] at h
  obtain ⟨⟨⟨h1, h2⟩, h3⟩, h4⟩ := h
  have h2 := Nat.le_of_ble_eq_true h2
  exact ⟨h1, by omega, Nat.dvd_of_mod_eq_zero (Nat.eq_of_beq_eq_true h3), Nat.le_of_ble_eq_true h4⟩
def pzB (p : Int) : Bool := pzG 1018 1074 p
theorem pz_all : ([2, 3, 4, 5, 7, 11, 13].all fun n => (ptT n).all fun p => pzB p.1 && pzB p.2) = true := by kernel_rfl
theorem pz_of {p : Int} (h : pzB p = true) : Pz p := pzG_ok (b := 1018) (c := 1074) h
theorem pz_zero : Pz 0 := pz_of (by kernel_rfl)
theorem pts_z (n : Nat) : Pz2 (ptT n) := fun p hp => by
  obtain ⟨k, hk⟩ := List.getElem?_of_mem hp
  have h := List.all_eq_true.1 (List.all_eq_true.1 pz_all n (ptT_mem hk).1) p hp
  rw [Bool.and_eq_true] at h
  exact ⟨pz_of h.1, pz_of h.2⟩
theorem ptK_z (n h k : Nat) : Pz2 (ptK n h k) := fun p hp => by
  unfold ptK at hp
  obtain ⟨j, _, rfl⟩ := List.mem_map.1 hp
  simp only [List.getD]
  cases hq : (ptT n)[(j + 1) * k % n]? with
  | none => exact ⟨pz_zero, pz_zero⟩
  | some x => exact pts_z n x (List.mem_of_getElem? hq)
/-! ### of an odd number of numbers -/
section
variable {n h : Nat} {x0 : PR} {u v : List PR} {t : Bool} (hx : Z2 899 78 x0) (hu : ZA 899 78 u) (hv : ZA 899 78 v) (hl : u.length ≤ 50)
include hu hv in
theorem fyS_sc : fyS (u.map sc2) (v.map sc2) = (fyS u v).map sc2 ∧ ZA 899 80 (fyS u v) ∧ flags (List.zipWith opA (u.map sc2) (v.map sc2)) = flags (List.zipWith opA u v) := zipA_sc (by omega) (by omega) hu hv
include hu hv in
theorem fyD_sc : fyD (u.map sc2) (v.map sc2) = (fyD u v).map sc2 ∧ ZA 899 80 (fyD u v) ∧ flags (List.zipWith opS (u.map sc2) (v.map sc2)) = flags (List.zipWith opS u v) := zipS_sc (by omega) (by omega) hu hv
omit hx hu hv in
include hl in
theorem fyS_len : (fyS u v).length ≤ 50 ∧ (fyD u v).length ≤ 50 := by
  unfold fyS fyD
  simp only [List.length_zipWith]
  omega
include hx hu hv hl in
theorem fyA_sc (k : Nat) : fyA n h (sc2 x0) (u.map sc2) (v.map sc2) k = sc2 (fyA n h x0 u v k) ∧ Z2 843 180 (fyA n h x0 u v k) := by
  obtain ⟨s1, s2, _⟩ := fyS_sc hu hv
  have hlen := (fyS_len (v := v) hl).1
  unfold fyA
  rw [s1]
  obtain ⟨r1, r2⟩ := mo_sc (l := fyS u v) (ps := (ptK n h k).map Prod.fst) (hx.mono (j' := 843) (k' := 80) (by omega) (by omega)) s2 (fun p hp => by
    obtain ⟨q, hq, rfl⟩ := List.mem_map.1 hp
    exact (ptK_z n h k q hq).1) (by omega)
  exact ⟨r1, r2.mono (Nat.le_refl _) (by omega)⟩
include hu hv hl in
theorem fyB_sc (k : Nat) : fyB n h (u.map sc2) (v.map sc2) k = sc2 (fyB n h u v k) ∧ Z2 843 180 (fyB n h u v k) := by
  obtain ⟨s1, s2, _⟩ := fyD_sc hu hv
  have hlen := (fyS_len (v := v) hl).2
  unfold fyB
  rw [s1]
  obtain ⟨r1, r2⟩ := mo_sc (l := fyD u v) (ps := (ptK n h k).map Prod.snd) (z2_zero 843 80) s2 (fun p hp => by
    obtain ⟨q, hq, rfl⟩ := List.mem_map.1 hp
    exact (ptK_z n h k q hq).2) (by omega)
  rw [sc2_zero] at r1
  exact ⟨r1, r2.mono (Nat.le_refl _) (by omega)⟩
include hu hv hl in
theorem fyE_sc (k : Nat) : fyE n h (u.map sc2) (v.map sc2) t k = sc2 (fyE n h u v t k) ∧ Z2 843 180 (fyE n h u v t k) := by
  obtain ⟨b1, b2⟩ := fyB_sc (n := n) (h := h) hu hv hl k
  unfold fyE
  rw [b1]
  exact tn2_sc b2 (by omega) (by omega)
include hx hu hv hl in
theorem fyAs_sc : fyAs n h (sc2 x0) (u.map sc2) (v.map sc2) = (fyAs n h x0 u v).map sc2 ∧ ZA 843 180 (fyAs n h x0 u v) := by
  unfold fyAs
  rw [List.map_map]
  exact ⟨List.map_congr_left fun k _ => (fyA_sc hx hu hv hl _).1, fun p hp => by
    obtain ⟨j, _, rfl⟩ := List.mem_map.1 hp
    exact (fyA_sc hx hu hv hl _).2⟩
include hu hv hl in
theorem fyEs_sc : fyEs n h (u.map sc2) (v.map sc2) t = (fyEs n h u v t).map sc2 ∧ ZA 843 180 (fyEs n h u v t) := by
  unfold fyEs
  rw [List.map_map]
  exact ⟨List.map_congr_left fun k _ => (fyE_sc hu hv hl _).1, fun p hp => by
    obtain ⟨j, _, rfl⟩ := List.mem_map.1 hp
    exact (fyE_sc hu hv hl _).2⟩
include hx hu hv hl in
theorem fyV_sc : fyV n h (sc2 x0) (u.map sc2) (v.map sc2) t = (fyV n h x0 u v t).map sc2 ∧ ZA 843 290 (fyV n h x0 u v t) := by
  obtain ⟨s1, s2, _⟩ := fyS_sc hu hv
  obtain ⟨a1, a2⟩ := fyAs_sc (n := n) (h := h) hx hu hv hl
  obtain ⟨e1, e2⟩ := fyEs_sc (n := n) (h := h) (t := t) hu hv hl
  have hlen := (fyS_len (v := v) hl).1
  obtain ⟨r1, r2, _⟩ := scan_sc (j := 843) (by omega) (l := fyS u v) (k := 80) (hx.mono (by omega) (by omega)) (s2.mono (by omega) (by omega)) (by omega)
  obtain ⟨z1, z2, _⟩ := zipA_sc (by omega) (by omega) a2 e2
  obtain ⟨y1, y2, _⟩ := zipS_sc (by omega) (by omega) a2 e2
  unfold fyV
  refine ⟨by rw [s1, a1, e1, r1, z1, y1, List.map_cons, List.map_append, List.map_reverse], fun p hp => ?_⟩
  rcases List.mem_cons.1 hp with rfl | hp
  · exact r2.mono (Nat.le_refl _) (by omega)
  rcases List.mem_append.1 hp with hp | hp
  · exact (z2 p hp).mono (Nat.le_refl _) (by omega)
  · exact (y2 p (List.mem_reverse.1 hp)).mono (Nat.le_refl _) (by omega)
include hx hu hv hl in
theorem fyO1_sc : flags (fyO1 (sc2 x0) (u.map sc2) (v.map sc2)) = flags (fyO1 x0 u v) := by
  obtain ⟨s1, s2, s3⟩ := fyS_sc hu hv
  obtain ⟨_, _, d3⟩ := fyD_sc hu hv
  have hlen := (fyS_len (v := v) hl).1
  obtain ⟨_, _, r3⟩ := scan_sc (j := 843) (by omega) (l := fyS u v) (k := 80) (hx.mono (by omega) (by omega)) (s2.mono (by omega) (by omega)) (by omega)
  unfold fyO1
  simp only [flags_app]
  rw [s1, s3, d3, r3]
include hx hu hv hl in
theorem fyO2_sc : flags (fyO2 n h (sc2 x0) (u.map sc2) (v.map sc2)) = flags (fyO2 n h x0 u v) := by
  obtain ⟨s1, s2, _⟩ := fyS_sc hu hv
  obtain ⟨d1, d2, _⟩ := fyD_sc hu hv
  have hlen := (fyS_len (v := v) hl).1
  have e : ∀ {l : List Nat} {f g : Nat → List OpR}, (∀ k, flags (f k) = flags (g k)) → flags (l.flatMap f) = flags (l.flatMap g) := fun {l f g} hfg => by
    induction l with
    | nil => rfl
    | cons k l ih => simp only [List.flatMap_cons, flags_app, ih, hfg]
  unfold fyO2
  refine e fun k => ?_
  rw [flags_app, flags_app, s1, d1]
  have w := wav_sc (k := 80) (hx.mono (j' := 843) (k' := 80) (by omega) (by omega)) (z2_zero 843 80) s2 d2 (ptK_z n h (k + 1)) (by omega)
  rw [sc2_zero] at w
  rw [w]
  rfl
include hx hu hv hl in
theorem fyP_sc : flags (fyP n h (sc2 x0) (u.map sc2) (v.map sc2) t) = flags (fyP n h x0 u v t) ∧ flags (fyQ n h (sc2 x0) (u.map sc2) (v.map sc2) t) = flags (fyQ n h x0 u v t) := by
  obtain ⟨a1, a2⟩ := fyAs_sc (n := n) (h := h) hx hu hv hl
  obtain ⟨e1, e2⟩ := fyEs_sc (n := n) (h := h) (t := t) hu hv hl
  obtain ⟨_, _, z3⟩ := zipA_sc (by omega) (by omega) a2 e2
  obtain ⟨_, _, y3⟩ := zipS_sc (by omega) (by omega) a2 e2
  unfold fyP fyQ
  rw [a1, e1]
  exact ⟨z3, y3⟩
end
/-! ### of any number of numbers -/
theorem fl_odd (xs : List PR) (h2 : xs.length ≠ 2) (h4 : xs.length ≠ 4) (t : Bool) : flV xs t = fyV xs.length (xs.length / 2) (x0Of xs) (uOf xs) (vOf xs) t ∧ flO xs t = fyO1 (x0Of xs) (uOf xs) (vOf xs) ++ fyO2 xs.length (xs.length / 2) (x0Of xs) (uOf xs) (vOf xs) ++ fyP xs.length (xs.length / 2) (x0Of xs) (uOf xs) (vOf xs) t ++ fyQ xs.length (xs.length / 2) (x0Of xs) (uOf xs) (vOf xs) t := by
  match xs, h2, h4 with
  | [], _, _ => exact ⟨rfl, rfl⟩
  | [a], _, _ => exact ⟨rfl, rfl⟩
  | [a, b], h, _ => exact absurd rfl h
  | [a, b, c], _, _ => exact ⟨rfl, rfl⟩
  | [a, b, c, d], _, h => exact absurd rfl h
  | a :: b :: c :: d :: e :: r, _, _ => exact ⟨rfl, rfl⟩
theorem x0_sc (xs : List PR) : x0Of (xs.map sc2) = sc2 (x0Of xs) := by
  cases xs with
  | nil => exact sc2_zero.symm
  | cons a l => rfl
theorem u_sc (xs : List PR) : uOf (xs.map sc2) = (uOf xs).map sc2 ∧ vOf (xs.map sc2) = (vOf xs).map sc2 := by
  unfold uOf vOf
  rw [List.length_map]
  exact ⟨by rw [← List.map_drop, ← List.map_take], by rw [← List.map_drop, ← List.map_reverse]⟩
theorem fl_sc {xs : List PR} (h : ZA 899 78 xs) (hn : xs.length ≤ 100) (t : Bool) : flV (xs.map sc2) t = (flV xs t).map sc2 ∧ flags (flO (xs.map sc2) t) = flags (flO xs t) ∧ ZA 843 290 (flV xs t) := by
  have A : ∀ {k : Nat} {x y : PR}, k ≤ 290 → Z2 843 k x → Z2 843 k y → St 843 (k + 2) (ad2 x y) (ad2 (sc2 x) (sc2 y)) (opA x y) (opA (sc2 x) (sc2 y)) := fun hk a b => ad2_sc a b (by omega) hk
  have S : ∀ {k : Nat} {x y : PR}, k ≤ 290 → Z2 843 k x → Z2 843 k y → St 843 (k + 2) (sb2 x y) (sb2 (sc2 x) (sc2 y)) (opS x y) (opS (sc2 x) (sc2 y)) := fun hk a b => sb2_sc a b (by omega) hk
  have hz : ∀ x ∈ xs, Z2 843 78 x := fun x hx => (h x hx).mono (by omega) (by omega)
  by_cases h2 : xs.length = 2
  · match xs, h2 with
    | [a, b], _ =>
      have ha := hz a (by simp)
      have hb := hz b (by simp)
      obtain ⟨p1, p2, p3⟩ := A (by omega) ha hb
      obtain ⟨q1, q2, q3⟩ := S (by omega) ha hb
      refine ⟨?_, ?_, fun p hp => ?_⟩
      · show [ad2 (sc2 a) (sc2 b), sb2 (sc2 a) (sc2 b)] = [sc2 (ad2 a b), sc2 (sb2 a b)]
        rw [p1, q1]
      · show (opA (sc2 a) (sc2 b)).1 ++ ((opS (sc2 a) (sc2 b)).1 ++ []) = (opA a b).1 ++ ((opS a b).1 ++ [])
        rw [p3, q3]
      · have hp' : p ∈ [ad2 a b, sb2 a b] := hp
        simp only [List.mem_cons, List.not_mem_nil, or_false] at hp'
        rcases hp' with rfl | rfl
        · exact p2.mono (Nat.le_refl _) (by omega)
        · exact q2.mono (Nat.le_refl _) (by omega)
  · by_cases h4 : xs.length = 4
    · match xs, h4 with
      | [a, b, c, d], _ =>
        have ha := hz a (by simp)
        have hb := hz b (by simp)
        have hc := hz c (by simp)
        have hd := hz d (by simp)
        obtain ⟨p1, p2, p3⟩ := A (by omega) ha hc
        obtain ⟨q1, q2, q3⟩ := A (by omega) hb hd
        obtain ⟨r1, r2, r3⟩ := S (by omega) ha hc
        obtain ⟨s1, s2, s3⟩ := S (by omega) hb hd
        obtain ⟨t1, t2⟩ := tn2_sc (t := !t) s2 (by omega) (by omega)
        obtain ⟨u1, u2, u3⟩ := A (by omega) p2 q2
        obtain ⟨v1, v2, v3⟩ := S (by omega) p2 q2
        obtain ⟨w1, w2, w3⟩ := A (by omega) r2 t2
        obtain ⟨z1, z2, z3⟩ := S (by omega) r2 t2
        refine ⟨?_, ?_, fun p hp => ?_⟩
        · show [ad2 (ad2 (sc2 a) (sc2 c)) (ad2 (sc2 b) (sc2 d)), ad2 (sb2 (sc2 a) (sc2 c)) (tn2 (sb2 (sc2 b) (sc2 d)) (!t)), sb2 (ad2 (sc2 a) (sc2 c)) (ad2 (sc2 b) (sc2 d)), sb2 (sb2 (sc2 a) (sc2 c)) (tn2 (sb2 (sc2 b) (sc2 d)) (!t))] = [sc2 _, sc2 _, sc2 _, sc2 _]
          rw [p1, q1, r1, s1, t1, u1, v1, w1, z1]
        · show flags [opA (sc2 a) (sc2 c), opA (sc2 b) (sc2 d), opS (sc2 a) (sc2 c), opS (sc2 b) (sc2 d), opT (sb2 (sc2 b) (sc2 d)), opA (ad2 (sc2 a) (sc2 c)) (ad2 (sc2 b) (sc2 d)), opA (sb2 (sc2 a) (sc2 c)) (tn2 (sb2 (sc2 b) (sc2 d)) (!t)), opS (ad2 (sc2 a) (sc2 c)) (ad2 (sc2 b) (sc2 d)), opS (sb2 (sc2 a) (sc2 c)) (tn2 (sb2 (sc2 b) (sc2 d)) (!t))] = flags [opA a c, opA b d, opS a c, opS b d, opT (sb2 b d), opA (ad2 a c) (ad2 b d), opA (sb2 a c) (tn2 (sb2 b d) (!t)), opS (ad2 a c) (ad2 b d), opS (sb2 a c) (tn2 (sb2 b d) (!t))]
          simp only [flags_cons]
          rw [p3, q3, r3, s3, p1, q1, r1, s1, t1, u3, v3, w3, z3]
          rfl
        · have hp' : p ∈ [ad2 (ad2 a c) (ad2 b d), ad2 (sb2 a c) (tn2 (sb2 b d) (!t)), sb2 (ad2 a c) (ad2 b d), sb2 (sb2 a c) (tn2 (sb2 b d) (!t))] := hp
          simp only [List.mem_cons, List.not_mem_nil, or_false] at hp'
          rcases hp' with rfl | rfl | rfl | rfl
          · exact u2.mono (Nat.le_refl _) (by omega)
          · exact w2.mono (Nat.le_refl _) (by omega)
          · exact v2.mono (Nat.le_refl _) (by omega)
          · exact z2.mono (Nat.le_refl _) (by omega)
    · have hl : (xs.map sc2).length = xs.length := List.length_map _
      obtain ⟨a1, a2⟩ := fl_odd xs h2 h4 t
      obtain ⟨b1, b2⟩ := fl_odd (xs.map sc2) (by rw [hl]; exact h2) (by rw [hl]; exact h4) t
      have hx : Z2 899 78 (x0Of xs) := by
        cases xs with
        | nil => exact z2_zero _ _
        | cons a l => exact h a List.mem_cons_self
      have hu : ZA 899 78 (uOf xs) := fun x hx => h x (List.mem_of_mem_drop (List.mem_of_mem_take hx))
      have hv : ZA 899 78 (vOf xs) := fun x hx => h x (List.mem_of_mem_drop (List.mem_reverse.1 hx))
      have hlu : (uOf xs).length ≤ 50 := by unfold uOf; simp only [List.length_take]; omega
      obtain ⟨c1, c2⟩ := u_sc xs
      have hP := fyP_sc (n := xs.length) (h := xs.length / 2) (t := t) hx hu hv hlu
      rw [a1, a2, b1, b2, hl, x0_sc, c1, c2]
      refine ⟨(fyV_sc hx hu hv hlu).1, ?_, (fyV_sc hx hu hv hlu).2⟩
      simp only [flags_app]
      rw [fyO1_sc hx hu hv hlu, fyO2_sc hx hu hv hlu, hP.1, hP.2]
end Go.Proofs.YtjkgnbdeklploaaGreatDoor
