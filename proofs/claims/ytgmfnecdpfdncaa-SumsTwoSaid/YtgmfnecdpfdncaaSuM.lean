/-
  What Add answers, in plain terms.
-/
import Derived.Test.YtgmfnecdpfdncaaSuC
namespace Go.Proofs.Ytgmfnecdpfdncaa
open Go.KRun Go.Wd Go.Pt Go.Rn

theorem mag_eq (p : Int) : mag p = 4503599627370496 * ex p + fr p := by unfold mag ex fr; omega
theorem mag_cl (p : Int) : (3 < cl p ↔ 9218868437227405312 < mag p) ∧ (cl p = 3 ↔ mag p = 9218868437227405312) ∧ (cl p ≤ 2 ↔ mag p < 9218868437227405312) := by
  have h1 := mag_eq p
  have h2 := ex_lt p
  have h3 := fr_lt p
  rw [h1]
  unfold cl
  split
  · split <;> omega
  · split
    · split
      · omega
      · split <;> omega
    · omega
theorem mag_lt {p : Int} : 0 ≤ mag p ∧ mag p < 9223372036854775808 := by unfold mag; omega
theorem sS_mag {n : Bool} {r : Int} (h0 : 0 ≤ r) (h1 : r < 9223372036854775808) : mag (sS n r) = r ∧ sgn (sS n r) = n ∧ U (sS n r) ∧ uV (sS n r) = uV r := by
  have e : ex (sS n r) = ex r ∧ fr (sS n r) = fr r := by unfold ex fr sS; split <;> omega
  refine ⟨by unfold mag sS; split <;> omega, ?_, by unfold U sS; split <;> omega, ?_⟩
  · cases n
    · simp only [sS, Bool.false_eq_true, if_false, sgn]; exact decide_eq_false (by omega)
    · simp only [sS, if_true, sgn]; exact decide_eq_true (by omega)
  · unfold uV xp sg; rw [e.1, e.2]
theorem sS_own {p : Int} (hp : U p) : sS (sgn p) (mag p) = p := by
  unfold sS sgn mag U at *
  split <;> rename_i h <;> simp only [decide_eq_true_eq] at h <;> omega
theorem bNot_mag {p : Int} (hp : U p) : bNot p 9223372036854775808 = mag p := bNot_sign hp
theorem bXor_ng {p : Int} (hp : U p) : bXor p 9223372036854775808 = ng p := bXor_sign hp
theorem ng_sS {n : Bool} {r : Int} (h0 : 0 ≤ r) (h1 : r < 9223372036854775808) : ng (sS n r) = sS (!n) r := by
  cases n <;> simp [sS, ng] <;> omega
theorem ng_ng {p : Int} (hp : U p) : ng (ng p) = p := by unfold ng U at *; omega
theorem ng_ne {p : Int} (_hp : U p) : p ≠ ng p := by unfold ng; omega
theorem nan_mag : mag 9221120237041090560 = 9221120237041090560 := by decide

theorem suP_nan {m a b : Int} (h : 3 < cl a ∨ 3 < cl b) : suP m a b = 9221120237041090560 := by unfold suP; rw [if_pos h]
theorem suP_fin {m a b : Int} (ha : cl a ≤ 2) (hb : cl b ≤ 2) : suP m a b = sS (adN m a b) (adP m a b) ∧ suF m a b = adF m a b := by
  unfold suP suF
  have h0 : ¬ (3 < cl a ∨ 3 < cl b) := by omega
  have h1 : ¬ cl a = 3 := by omega
  have h2 : ¬ cl b = 3 := by omega
  rw [if_neg h0, if_neg h1, if_neg h2, if_neg h0, if_neg h1, if_neg h2]
  exact ⟨rfl, rfl⟩
theorem suP_infa {m a b : Int} (ha : cl a = 3) (hb : cl b ≤ 3) (h : ¬ (cl b = 3 ∧ a ≠ b)) : suP m a b = a ∧ suF m a b = 0 := by
  unfold suP suF
  have h0 : ¬ (3 < cl a ∨ 3 < cl b) := by omega
  rw [if_neg h0, if_pos ha, if_neg h, if_neg h0, if_pos ha, if_neg h]
  exact ⟨rfl, rfl⟩
theorem suP_infi {m a b : Int} (ha : cl a = 3) (hb : cl b = 3) (h : a ≠ b) : suP m a b = 9221120237041090560 ∧ suF m a b = 1 := by
  unfold suP suF
  have h0 : ¬ (3 < cl a ∨ 3 < cl b) := by omega
  rw [if_neg h0, if_pos ha, if_pos ⟨hb, h⟩, if_neg h0, if_pos ha, if_pos ⟨hb, h⟩]
  exact ⟨rfl, rfl⟩
theorem suP_infb {m a b : Int} (ha : cl a ≤ 2) (hb : cl b = 3) : suP m a b = b ∧ suF m a b = 0 := by
  unfold suP suF
  have h0 : ¬ (3 < cl a ∨ 3 < cl b) := by omega
  have h1 : ¬ cl a = 3 := by omega
  rw [if_neg h0, if_neg h1, if_pos hb, if_neg h0, if_neg h1, if_pos hb]
  exact ⟨rfl, rfl⟩
theorem su_comm (m a b : Int) : suP m a b = suP m b a ∧ suF m a b = suF m b a := by
  by_cases hn : 3 < cl a ∨ 3 < cl b
  · have hn' : 3 < cl b ∨ 3 < cl a := by omega
    refine ⟨by rw [suP_nan hn, suP_nan hn'], ?_⟩
    unfold suF
    rw [if_pos hn, if_pos hn']
    congr 1
    simp only [eq_iff_iff]
    omega
  · by_cases ha : cl a = 3
    · by_cases hb : cl b = 3
      · by_cases hab : a = b
        · rw [hab]; exact ⟨rfl, rfl⟩
        · rw [(suP_infi ha hb hab).1, (suP_infi ha hb hab).2, (suP_infi hb ha (fun e => hab e.symm)).1, (suP_infi hb ha (fun e => hab e.symm)).2]
          exact ⟨rfl, rfl⟩
      · obtain ⟨p1, p2⟩ := suP_infa (m := m) (b := b) ha (by omega) (fun h => hb h.1)
        obtain ⟨q1, q2⟩ := suP_infb (m := m) (a := b) (b := a) (by omega) ha
        rw [p1, p2, q1, q2]; exact ⟨rfl, rfl⟩
    · by_cases hb : cl b = 3
      · obtain ⟨p1, p2⟩ := suP_infb (m := m) (a := a) (b := b) (by omega) hb
        obtain ⟨q1, q2⟩ := suP_infa (m := m) (a := b) (b := a) hb (by omega) (fun h => ha h.1)
        rw [p1, p2, q1, q2]; exact ⟨rfl, rfl⟩
      · obtain ⟨p1, p2⟩ := suP_fin (m := m) (a := a) (b := b) (by omega) (by omega)
        obtain ⟨q1, q2⟩ := suP_fin (m := m) (a := b) (b := a) (by omega) (by omega)
        obtain ⟨r1, r2⟩ := ad_comm m a b
        rw [p1, p2, q1, q2, adN_comm, r1, r2]; exact ⟨rfl, rfl⟩
theorem ad_lt (m a b : Int) : 0 ≤ adP m a b ∧ adP m a b < 9223372036854775808 := by have := ad_bd m a b; omega
theorem su_U {m a b : Int} (ha : U a) (hb : U b) : U (suP m a b) := by
  have hN : U 9221120237041090560 := by decide
  by_cases hn : 3 < cl a ∨ 3 < cl b
  · rw [suP_nan hn]; exact hN
  · by_cases ca : cl a = 3
    · by_cases hi : cl b = 3 ∧ a ≠ b
      · rw [(suP_infi ca hi.1 hi.2).1]; exact hN
      · rw [(suP_infa ca (by omega) hi).1]; exact ha
    · by_cases cb : cl b = 3
      · rw [(suP_infb (by omega) cb).1]; exact hb
      · rw [(suP_fin (by omega) (by omega)).1]
        exact (sS_mag (ad_lt m a b).1 (ad_lt m a b).2).2.2.1
/-- nothing added -/
theorem su_zero {m a : Int} (ha : U a) (h3 : cl a ≤ 3) (h0 : mag a ≠ 0) : suP m a 0 = a ∧ suF m a 0 = 0 := by
  have c0 : cl 0 = 0 := by decide
  by_cases h : cl a = 3
  · exact suP_infa h (by omega) (fun e => by omega)
  · obtain ⟨p1, p2⟩ := suP_fin (m := m) (a := a) (b := 0) (by omega) (by omega)
    have hf : ex a ≠ 2047 := fin_ex (by omega)
    obtain ⟨q1, q2, q3⟩ := ad_zero (m := m) hf h0
    rw [p1, p2, q1, q2, q3, sS_own ha]; exact ⟨rfl, rfl⟩
/-- less itself -/
theorem su_self {m a : Int} (ha : U a) (h : cl a ≤ 2) : suP m a (ng a) = (if m = 4 then 9223372036854775808 else 0) ∧ suF m a (ng a) = 0 := by
  have hc := (ng_num ha).2.2.1
  obtain ⟨p1, p2⟩ := suP_fin (m := m) (a := a) (b := ng a) h (by omega)
  obtain ⟨_, q1, q2, q3⟩ := ad_self (m := m) ha
  rw [p1, p2, q1, q2, q3]
  refine ⟨?_, rfl⟩
  unfold sS
  by_cases hm : m = 4
  · rw [decide_eq_true hm, if_pos rfl, if_pos hm]; rfl
  · rw [decide_eq_false hm, if_neg (by simp), if_neg hm]
/-- a sum without flags -/
theorem sgI_of {S : Int} {n : Bool} (h : S ≠ 0 → n = decide (S < 0)) : sgI n S.natAbs = S := by
  by_cases h0 : S = 0
  · subst h0; cases n <;> rfl
  · rw [h h0]
    by_cases h1 : S < 0
    · rw [decide_eq_true h1]; simp only [sgI]; omega
    · rw [decide_eq_false h1]; simp only [sgI]; omega
theorem su_two {a b : Int} (ha : U a) (hb : U b) (hf : suF 0 a b = 0) (hs : mag (suP 0 a b) < 9218868437227405312) (ma : mag a < 9218868437227405312) (h0 : mag b ≠ 0) : suP 0 (suP 0 a b) (ng a) = b := by
  have ca : cl a ≤ 2 := (mag_cl a).2.2.2 ma
  have cb : cl b ≤ 2 := by
    by_cases h3 : 3 < cl b
    · rw [suP_nan (.inr h3), nan_mag] at hs; omega
    · by_cases h4 : cl b = 3
      · rw [(suP_infb ca h4).1, (mag_cl b).2.1.1 h4] at hs; omega
      · omega
  obtain ⟨p1, p2⟩ := suP_fin (m := 0) ca cb
  have hF : adF 0 a b = 0 := by rw [← p2]; exact hf
  obtain ⟨b1, b2⟩ := back_uV (m := 0) (n := adN 0 a b) (A := (psI a b).natAbs) hF
  have hl := ad_lt 0 a b
  obtain ⟨s1, s2, s3, s4⟩ := sS_mag (n := adN 0 a b) hl.1 hl.2
  have hpv : pvI (suP 0 a b) = psI a b := by
    unfold pvI
    rw [p1, s2, s4]
    show sgI (adN 0 a b) (uV (adP 0 a b)) = psI a b
    unfold adP
    rw [b2]
    refine sgI_of fun hne => ?_
    unfold adN sgS
    rw [if_neg hne]
  have cs : cl (suP 0 a b) ≤ 2 := (mag_cl _).2.2.2 hs
  obtain ⟨_, _, cng, _, nv⟩ := ng_num ha
  obtain ⟨q1, _⟩ := suP_fin (m := 0) (a := suP 0 a b) (b := ng a) cs (by omega)
  have hsum : psI (suP 0 a b) (ng a) = pvI b := by
    have e : psI (suP 0 a b) (ng a) = pvI (suP 0 a b) + pvI (ng a) := rfl
    have e2 : psI a b = pvI a + pvI b := rfl
    rw [e, hpv, nv, e2]; omega
  obtain ⟨r1, r2, _⟩ := ad_num (m := 0) (fin_ex cb) h0 hsum
  rw [q1, r1, r2, sS_own hb]
/-- the other signs -/
theorem su_ng {m a b : Int} (ha : U a) (hb : U b) : suF (swM m) (ng a) (ng b) = suF m a b ∧
    ((mag (suP m a b) = 0 ∧ mag (suP (swM m) (ng a) (ng b)) = 0) ∨ (mag (suP m a b) ≠ 0 ∧ suP m a b = 9221120237041090560 ∧ suP (swM m) (ng a) (ng b) = suP m a b) ∨ (mag (suP m a b) ≠ 0 ∧ suP m a b ≠ 9221120237041090560 ∧ suP m a b = ng (suP (swM m) (ng a) (ng b)))) := by
  have c1 := (ng_num ha).2.2.1
  have c2 := (ng_num hb).2.2.1
  have hne : a ≠ b ↔ ng a ≠ ng b := by unfold ng U at *; omega
  have m0 : mag 9221120237041090560 ≠ 0 := by decide
  by_cases hn : 3 < cl a ∨ 3 < cl b
  · have hn' : 3 < cl (ng a) ∨ 3 < cl (ng b) := by omega
    refine ⟨?_, .inr (.inl ⟨by rw [suP_nan hn]; exact m0, suP_nan hn, by rw [suP_nan hn, suP_nan hn']⟩)⟩
    unfold suF
    rw [if_pos hn, if_pos hn', c1, c2]
  · by_cases ca : cl a = 3
    · have hm : mag a = 9218868437227405312 := (mag_cl a).2.1.1 ca
      by_cases hi : cl b = 3 ∧ a ≠ b
      · obtain ⟨p1, p2⟩ := suP_infi (m := m) ca hi.1 hi.2
        obtain ⟨q1, q2⟩ := suP_infi (m := swM m) (a := ng a) (b := ng b) (by omega) (by omega) (hne.1 hi.2)
        rw [p1, p2, q1, q2]
        exact ⟨rfl, .inr (.inl ⟨m0, rfl, rfl⟩)⟩
      · obtain ⟨p1, p2⟩ := suP_infa (m := m) ca (by omega) hi
        obtain ⟨q1, q2⟩ := suP_infa (m := swM m) (a := ng a) (b := ng b) (by omega) (by omega) (fun h => hi ⟨by omega, hne.2 h.2⟩)
        rw [p1, p2, q1, q2, ng_ng ha]
        refine ⟨rfl, .inr (.inr ⟨by omega, fun e => ?_, rfl⟩)⟩
        rw [e, nan_mag] at hm; omega
    · by_cases cb : cl b = 3
      · have hm : mag b = 9218868437227405312 := (mag_cl b).2.1.1 cb
        obtain ⟨p1, p2⟩ := suP_infb (m := m) (a := a) (by omega) cb
        obtain ⟨q1, q2⟩ := suP_infb (m := swM m) (a := ng a) (b := ng b) (by omega) (by omega)
        rw [p1, p2, q1, q2, ng_ng hb]
        refine ⟨rfl, .inr (.inr ⟨by omega, fun e => ?_, rfl⟩)⟩
        rw [e, nan_mag] at hm; omega
      · obtain ⟨p1, p2⟩ := suP_fin (m := m) (a := a) (b := b) (by omega) (by omega)
        obtain ⟨q1, q2⟩ := suP_fin (m := swM m) (a := ng a) (b := ng b) (by omega) (by omega)
        obtain ⟨r1, r2, r3⟩ := ad_ng (m := m) ha hb
        have hl := ad_lt m a b
        have hl2 := ad_bd m a b
        rw [p1, p2, q1, q2, r1, r2]
        refine ⟨rfl, ?_⟩
        obtain ⟨s1, _⟩ := sS_mag (n := adN m a b) hl.1 hl.2
        obtain ⟨t1, _⟩ := sS_mag (n := adN (swM m) (ng a) (ng b)) hl.1 hl.2
        by_cases h0 : adP m a b = 0
        · exact .inl ⟨by rw [s1]; exact h0, by rw [t1]; exact h0⟩
        · have hp : psI a b ≠ 0 := fun e => h0 (by unfold adP; rw [e]; simp [rnP])
          refine .inr (.inr ⟨by rw [s1]; exact h0, fun e => ?_, ?_⟩)
          · rw [e, nan_mag] at s1; omega
          · rw [r3 hp, ng_sS hl.1 hl.2, Bool.not_not]
end Go.Proofs.Ytgmfnecdpfdncaa
