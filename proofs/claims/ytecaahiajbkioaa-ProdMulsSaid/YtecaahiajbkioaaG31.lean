/-
  What Add answers, in plain terms.
-/
import Derived.Test.YtecaahiajbkioaaG27
import Derived.Test.YtecaahiajbkioaaG30
import Derived.Test.YtecaahiajbkioaaG12
namespace Go.Proofs.Ytecaahiajbkioaa
open Go.KRun Go.Wd Go.Pt Go.Rn

theorem mag_eq (p : Int) : mag p = 4503599627370496 * ex p + fr p := by unfold mag ex fr; omega
theorem mag_cl (p : Int) : (3 < cl p ↔ 9218868437227405312 < mag p) ∧ (cl p = 3 ↔ mag p = 9218868437227405312) ∧ (cl p ≤ 2 ↔ mag p < 9218868437227405312) := by
  have h1 := mag_eq p
  have h2 := ex_lt p
  have h3 := fr_lt p
  rw [h1]
  unfold cl
  split
  · split <;> omega
  · split
    · split
      · omega
      · split <;> omega
    · omega
theorem mag_lt {p : Int} : 0 ≤ mag p ∧ mag p < 9223372036854775808 := by unfold mag; omega
theorem sS_mag {n : Bool} {r : Int} (h0 : 0 ≤ r) (h1 : r < 9223372036854775808) : mag (sS n r) = r ∧ sgn (sS n r) = n ∧ U (sS n r) ∧ uV (sS n r) = uV r := by
  have e : ex (sS n r) = ex r ∧ fr (sS n r) = fr r := by unfold ex fr sS; split <;> omega
  refine ⟨by unfold mag sS; split <;> omega, ?_, by unfold U sS; split <;> omega, ?_⟩
  · cases n
    · simp only [sS, Bool.false_eq_true, if_false, sgn]; exact decide_eq_false (by omega)
    · simp only [sS, if_true, sgn]; exact decide_eq_true (by omega)
  · unfold uV xp sg; rw [e.1, e.2]
theorem sS_own {p : Int} (hp : U p) : sS (sgn p) (mag p) = p := by
  unfold sS sgn mag U at *
  split <;> rename_i h <;> simp only [decide_eq_true_eq] at h <;> omega
theorem bNot_mag {p : Int} (hp : U p) : bNot p 9223372036854775808 = mag p := bNot_sign hp
theorem bXor_ng {p : Int} (hp : U p) : bXor p 9223372036854775808 = ng p := bXor_sign hp
theorem ng_sS {n : Bool} {r : Int} (h0 : 0 ≤ r) (h1 : r < 9223372036854775808) : ng (sS n r) = sS (!n) r := by
  cases n <;> simp [sS, ng] <;> omega
theorem ng_ng {p : Int} (hp : U p) : ng (ng p) = p := by unfold ng U at *; omega
theorem ng_ne {p : Int} (_hp : U p) : p ≠ ng p := by unfold ng; omega
theorem nan_mag : mag 9221120237041090560 = 9221120237041090560 := by decide

theorem suP_nan {m a b : Int} (h : 3 < cl a ∨ 3 < cl b) : suP m a b = 9221120237041090560 := by unfold suP; rw [if_pos h]
theorem suP_fin {m a b : Int} (ha : cl a ≤ 2) (hb : cl b ≤ 2) : suP m a b = sS (adN m a b) (adP m a b) ∧ suF m a b = adF m a b := by
  unfold suP suF
  have h0 : ¬ (3 < cl a ∨ 3 < cl b) := by omega
  have h1 : ¬ cl a = 3 := by omega
  have h2 : ¬ cl b = 3 := by omega
  rw [if_neg h0, if_neg h1, if_neg h2, if_neg h0, if_neg h1, if_neg h2]
  exact ⟨rfl, rfl⟩
theorem suP_infa {m a b : Int} (ha : cl a = 3) (hb : cl b ≤ 3) (h : ¬ (cl b = 3 ∧ a ≠ b)) : suP m a b = a ∧ suF m a b = 0 := by
  unfold suP suF
  have h0 : ¬ (3 < cl a ∨ 3 < cl b) := by omega
  rw [if_neg h0, if_pos ha, if_neg h, if_neg h0, if_pos ha, if_neg h]
  exact ⟨rfl, rfl⟩
theorem suP_infi {m a b : Int} (ha : cl a = 3) (hb : cl b = 3) (h : a ≠ b) : suP m a b = 9221120237041090560 ∧ suF m a b = 1 := by
  unfold suP suF
  have h0 : ¬ (3 < cl a ∨ 3 < cl b) := by omega
  rw [if_neg h0, if_pos ha, if_pos ⟨hb, h⟩, if_neg h0, if_pos ha, if_pos ⟨hb, h⟩]
  exact ⟨rfl, rfl⟩
theorem suP_infb {m a b : Int} (ha : cl a ≤ 2) (hb : cl b = 3) : suP m a b = b ∧ suF m a b = 0 := by
  unfold suP suF
  have h0 : ¬ (3 < cl a ∨ 3 < cl b) := by omega
  have h1 : ¬ cl a = 3 := by omega
  rw [if_neg h0, if_neg h1, if_pos hb, if_neg h0, if_neg h1, if_pos hb]
  exact ⟨rfl, rfl⟩
theorem su_comm (m a b : Int) : suP m a b = suP m b a ∧ suF m a b = suF m b a := by
  by_cases hn : 3 < cl a ∨ 3 < cl b
  · have hn' : 3 < cl b ∨ 3 < cl a := by omega
    refine ⟨by rw [suP_nan hn, suP_nan hn'], ?_⟩
    unfold suF
    rw [if_pos hn, if_pos hn']
    congr 1
    simp only [eq_iff_iff]
    omega
  · by_cases ha : cl a = 3
    · by_cases hb : cl b = 3
      · by_cases hab : a = b
        · rw [hab]; exact ⟨rfl, rfl⟩
        · rw [(suP_infi ha hb hab).1, (suP_infi ha hb hab).2, (suP_infi hb ha (fun e => hab e.symm)).1, (suP_infi hb ha (fun e => hab e.symm)).2]
          exact ⟨rfl, rfl⟩
      · obtain ⟨p1, p2⟩ := suP_infa (m := m) (b := b) ha (by omega) (fun h => hb h.1)
        obtain ⟨q1, q2⟩ := suP_infb (m := m) (a := b) (b := a) (by omega) ha
        rw [p1, p2, q1, q2]; exact ⟨rfl, rfl⟩
    · by_cases hb : cl b = 3
      · obtain ⟨p1, p2⟩ := suP_infb (m := m) (a := a) (b := b) (by omega) hb
        obtain ⟨q1, q2⟩ := suP_infa (m := m) (a := b) (b := a) hb (by omega) (fun h => ha h.1)
        rw [p1, p2, q1, q2]; exact ⟨rfl, rfl⟩
      · obtain ⟨p1, p2⟩ := suP_fin (m := m) (a := a) (b := b) (by omega) (by omega)
        obtain ⟨q1, q2⟩ := suP_fin (m := m) (a := b) (b := a) (by omega) (by omega)
        obtain ⟨r1, r2⟩ := ad_comm m a b
        rw [p1, p2, q1, q2, adN_comm, r1, r2]; exact ⟨rfl, rfl⟩
theorem ad_lt (m a b : Int) : 0 ≤ adP m a b ∧ adP m a b < 9223372036854775808 := by have := ad_bd m a b; omega
theorem su_U {m a b : Int} (ha : U a) (hb : U b) : U (suP m a b) := by
  have hN : U 9221120237041090560 := by decide
  by_cases hn : 3 < cl a ∨ 3 < cl b
  · rw [suP_nan hn]; exact hN
  · by_cases ca : cl a = 3
    · by_cases hi : cl b = 3 ∧ a ≠ b
      · rw [(suP_infi ca hi.1 hi.2).1]; exact hN
      · rw [(suP_infa ca (by omega) hi).1]; exact ha
    · by_cases cb : cl b = 3
      · rw [(suP_infb (by omega) cb).1]; exact hb
      · rw [(suP_fin (by omega) (by omega)).1]
        exact (sS_mag (ad_lt m a b).1 (ad_lt m a b).2).2.2.1
/-- nothing added -/
theorem su_zero {m a : Int} (ha : U a) (h3 : cl a ≤ 3) (h0 : mag a ≠ 0) : suP m a 0 = a ∧ suF m a 0 = 0 := by
  have c0 : cl 0 = 0 := by decide
  by_cases h : cl a = 3
  · exact suP_infa h (by omega) (fun e => by omega)
  · obtain ⟨p1, p2⟩ := suP_fin (m := m) (a := a) (b := 0) (by omega) (by omega)
    have hf : ex a ≠ 2047 := fin_ex (by omega)
    obtain ⟨q1, q2, q3⟩ := ad_zero (m := m) hf h0
    rw [p1, p2, q1, q2, q3, sS_own ha]; exact ⟨rfl, rfl⟩
/-- less itself -/
theorem su_self {m a : Int} (ha : U a) (h : cl a ≤ 2) : suP m a (ng a) = (if m = 4 then 9223372036854775808 else 0) ∧ suF m a (ng a) = 0 := by
  have hc := (ng_num ha).2.2.1
  obtain ⟨p1, p2⟩ := suP_fin (m := m) (a := a) (b := ng a) h (by omega)
  obtain ⟨_, q1, q2, q3⟩ := ad_self (m := m) ha
  rw [p1, p2, q1, q2, q3]
  refine ⟨?_, rfl⟩
  unfold sS
  by_cases hm : m = 4
  · rw [decide_eq_true hm, if_pos rfl, if_pos hm]; rfl
  · rw [decide_eq_false hm, if_neg (by simp), if_neg hm]
/-- a sum without flags -/
theorem sgI_of {S : Int} {n : Bool} (h : S ≠ 0 → n = decide (S < 0)) : sgI n S.natAbs = S := by
  by_cases h0 : S = 0
  · subst h0; cases n <;> rfl
  · rw [h h0]
    by_cases h1 : S < 0
    · rw [decide_eq_true h1]; simp only [sgI]; omega
    · rw [decide_eq_false h1]; simp only [sgI]; omega
theorem su_two {a b : Int} (ha : U a) (hb : U b) (hf : suF 0 a b = 0) (hs : mag (suP 0 a b) < 9218868437227405312) (ma : mag a < 9218868437227405312) (h0 : mag b ≠ 0) : suP 0 (suP 0 a b) (ng a) = b := by
  have ca : cl a ≤ 2 := (mag_cl a).2.2.2 ma
  have cb : cl b ≤ 2 := by
    by_cases h3 : 3 < cl b
    · rw [suP_nan (.inr h3), nan_mag] at hs; omega
    · by_cases h4 : cl b = 3
      · rw [(suP_infb ca h4).1, (mag_cl b).2.1.1 h4] at hs; omega
      · omega
  obtain ⟨p1, p2⟩ := suP_fin (m := 0) ca cb
  have hF : adF 0 a b = 0 := by rw [← p2]; exact hf
  obtain ⟨b1, b2⟩ := back_uV (m := 0) (n := adN 0 a b) (A := (psI a b).natAbs) hF
  have hl := ad_lt 0 a b
  obtain ⟨s1, s2, s3, s4⟩ := sS_mag (n := adN 0 a b) hl.1 hl.2
  have hpv : pvI (suP 0 a b) = psI a b := by
    unfold pvI
    rw [p1, s2, s4]
    show sgI (adN 0 a b) (uV (adP 0 a b)) = psI a b
    unfold adP
    rw [b2]
    refine sgI_of fun hne => ?_
    unfold adN sgS
    rw [if_neg hne]
  have cs : cl (suP 0 a b) ≤ 2 := (mag_cl _).2.2.2 hs
  obtain ⟨_, _, cng, _, nv⟩ := ng_num ha
  obtain ⟨q1, _⟩ := suP_fin (m := 0) (a := suP 0 a b) (b := ng a) cs (by omega)
  have hsum : psI (suP 0 a b) (ng a) = pvI b := by
    have e : psI (suP 0 a b) (ng a) = pvI (suP 0 a b) + pvI (ng a) := rfl
    have e2 : psI a b = pvI a + pvI b := rfl
    rw [e, hpv, nv, e2]; omega
  obtain ⟨r1, r2, _⟩ := ad_num (m := 0) (fin_ex cb) h0 hsum
  rw [q1, r1, r2, sS_own hb]
/-- the other signs -/
theorem su_ng {m a b : Int} (ha : U a) (hb : U b) : suF (swM m) (ng a) (ng b) = suF m a b ∧
    ((mag (suP m a b) = 0 ∧ mag (suP (swM m) (ng a) (ng b)) = 0) ∨ (mag (suP m a b) ≠ 0 ∧ suP m a b = 9221120237041090560 ∧ suP (swM m) (ng a) (ng b) = suP m a b) ∨ (mag (suP m a b) ≠ 0 ∧ suP m a b ≠ 9221120237041090560 ∧ suP m a b = ng (suP (swM m) (ng a) (ng b)))) := by
  have c1 := (ng_num ha).2.2.1
  have c2 := (ng_num hb).2.2.1
  have hne : a ≠ b ↔ ng a ≠ ng b := by unfold ng U at *; omega
  have m0 : mag 9221120237041090560 ≠ 0 := by decide
  by_cases hn : 3 < cl a ∨ 3 < cl b
  · have hn' : 3 < cl (ng a) ∨ 3 < cl (ng b) := by omega
    refine ⟨?_, .inr (.inl ⟨by rw [suP_nan hn]; exact m0, suP_nan hn, by rw [suP_nan hn, suP_nan hn']⟩)⟩
    unfold suF
    rw [if_pos hn, if_pos hn', c1, c2]
  · by_cases ca : cl a = 3
    · have hm : mag a = 9218868437227405312 := (mag_cl a).2.1.1 ca
      by_cases hi : cl b = 3 ∧ a ≠ b
      · obtain ⟨p1, p2⟩ := suP_infi (m := m) ca hi.1 hi.2
        obtain ⟨q1, q2⟩ := suP_infi (m := swM m) (a := ng a) (b := ng b) (by omega) (by omega) (hne.1 hi.2)
        rw [p1, p2, q1, q2]
        exact ⟨rfl, .inr (.inl ⟨m0, rfl, rfl⟩)⟩
      · obtain ⟨p1, p2⟩ := suP_infa (m := m) ca (by omega) hi
        obtain ⟨q1, q2⟩ := suP_infa (m := swM m) (a := ng a) (b := ng b) (by omega) (by omega) (fun h => hi ⟨by omega, hne.2 h.2⟩)
        rw [p1, p2, q1, q2, ng_ng ha]
        refine ⟨rfl, .inr (.inr ⟨by omega, fun e => ?_, rfl⟩)⟩
        rw [e, nan_mag] at hm; omega
    · by_cases cb : cl b = 3
      · have hm : mag b = 9218868437227405312 := (mag_cl b).2.1.1 cb
        obtain ⟨p1, p2⟩ := suP_infb (m := m) (a := a) (by omega) cb
        obtain ⟨q1, q2⟩ := suP_infb (m := swM m) (a := ng a) (b := ng b) (by omega) (by omega)
        rw [p1, p2, q1, q2, ng_ng hb]
        refine ⟨rfl, .inr (.inr ⟨by omega, fun e => ?_, rfl⟩)⟩
        rw [e, nan_mag] at hm; omega
      · obtain ⟨p1, p2⟩ := suP_fin (m := m) (a := a) (b := b) (by omega) (by omega)
        obtain ⟨q1, q2⟩ := suP_fin (m := swM m) (a := ng a) (b := ng b) (by omega) (by omega)
        obtain ⟨r1, r2, r3⟩ := ad_ng (m := m) ha hb
        have hl := ad_lt m a b
        have hl2 := ad_bd m a b
        rw [p1, p2, q1, q2, r1, r2]
        refine ⟨rfl, ?_⟩
        obtain ⟨s1, _⟩ := sS_mag (n := adN m a b) hl.1 hl.2
        obtain ⟨t1, _⟩ := sS_mag (n := adN (swM m) (ng a) (ng b)) hl.1 hl.2
        by_cases h0 : adP m a b = 0
        · exact .inl ⟨by rw [s1]; exact h0, by rw [t1]; exact h0⟩
        · have hp : psI a b ≠ 0 := fun e => h0 (by unfold adP; rw [e]; simp [rnP])
          refine .inr (.inr ⟨by rw [s1]; exact h0, fun e => ?_, ?_⟩)
          · rw [e, nan_mag] at s1; omega
          · rw [r3 hp, ng_sS hl.1 hl.2, Bool.not_not]
end Go.Proofs.Ytecaahiajbkioaa

/-
  What Mul and Fma answer, in plain terms.
-/
namespace Go.Proofs.Ytecaahiajbkioaa
open Go.KRun Go.Wd Go.Pt Go.Rn

theorem badB_comm (a b : Int) : badB a b = badB b a := by
  unfold badB
  congr 1
  simp only [eq_iff_iff]
  omega
theorem muP_bad {m a b : Int} (h : badB a b = true) : muP m a b = 9221120237041090560 ∧ muF m a b = 1 := by
  unfold muP muF; rw [if_pos h, if_pos h]; exact ⟨rfl, rfl⟩
theorem muP_nan {m a b : Int} (h : 3 < cl a ∨ 3 < cl b) : muP m a b = 9221120237041090560 ∧ muF m a b = if cl a = 5 ∨ cl b = 5 then 1 else 0 := by
  have hb : ¬ badB a b = true := by unfold badB; rw [decide_eq_true_iff]; omega
  unfold muP muF
  rw [if_neg hb, if_neg hb, if_pos h, if_pos h]
  exact ⟨rfl, rfl⟩
theorem muP_inf {m a b : Int} (hb : ¬ badB a b = true) (h : ¬ (3 < cl a ∨ 3 < cl b)) (hi : cl a = 3 ∨ cl b = 3) : muP m a b = sS (prN a b) inf ∧ muF m a b = 0 := by
  unfold muP muF
  rw [if_neg hb, if_neg hb, if_neg h, if_neg h, if_pos hi, if_pos hi]
  exact ⟨rfl, rfl⟩
theorem muP_fin {m a b : Int} (ha : cl a ≤ 2) (hb : cl b ≤ 2) : muP m a b = sS (prN a b) (mlP m a b) ∧ muF m a b = mlF m a b := by
  have h0 : ¬ badB a b = true := by unfold badB; rw [decide_eq_true_iff]; omega
  have h1 : ¬ (3 < cl a ∨ 3 < cl b) := by omega
  have h2 : ¬ (cl a = 3 ∨ cl b = 3) := by omega
  unfold muP muF
  rw [if_neg h0, if_neg h0, if_neg h1, if_neg h1, if_neg h2, if_neg h2]
  exact ⟨rfl, rfl⟩
theorem mu_comm (m a b : Int) : muP m a b = muP m b a ∧ muF m a b = muF m b a := by
  have e1 : (3 < cl a ∨ 3 < cl b) = (3 < cl b ∨ 3 < cl a) := by simp only [eq_iff_iff]; omega
  have e2 : (cl a = 5 ∨ cl b = 5) = (cl b = 5 ∨ cl a = 5) := by simp only [eq_iff_iff]; omega
  have e3 : (cl a = 3 ∨ cl b = 3) = (cl b = 3 ∨ cl a = 3) := by simp only [eq_iff_iff]; omega
  obtain ⟨q1, q2⟩ := ml_comm m a b
  unfold muP muF
  simp only [badB_comm a b, e1, e2, e3, prN_comm a b, q1, q2, and_self]
theorem ml_lt (m a b : Int) : 0 ≤ mlP m a b ∧ mlP m a b < 9223372036854775808 := by have := ml_bd m a b; omega
theorem fs_lt (m a b c : Int) : 0 ≤ fsP m a b c ∧ fsP m a b c < 9223372036854775808 := by have := fs_bd m a b c; omega
theorem mu_U (m a b : Int) : U (muP m a b) := by
  unfold muP
  split
  · decide
  · split
    · decide
    · split
      · exact inf_U _
      · exact (sS_mag (ml_lt m a b).1 (ml_lt m a b).2).2.2.1
theorem fm_U (m a b : Int) {c : Int} (hc : U c) : U (fmP m a b c) := by
  unfold fmP
  split
  · decide
  · split
    · decide
    · split
      · exact su_U (inf_U _) hc
      · split
        · exact hc
        · exact (sS_mag (fs_lt m a b c).1 (fs_lt m a b c).2).2.2.1
theorem fm_comm (m a b c : Int) : fmP m a b c = fmP m b a c ∧ fmF m a b c = fmF m b a c := by
  have e1 : (3 < cl a ∨ 3 < cl b ∨ 3 < cl c) = (3 < cl b ∨ 3 < cl a ∨ 3 < cl c) := by simp only [eq_iff_iff]; omega
  have e2 : (cl a = 5 ∨ cl b = 5 ∨ cl c = 5) = (cl b = 5 ∨ cl a = 5 ∨ cl c = 5) := by simp only [eq_iff_iff]; omega
  have e3 : (cl a = 3 ∨ cl b = 3) = (cl b = 3 ∨ cl a = 3) := by simp only [eq_iff_iff]; omega
  obtain ⟨q1, q2⟩ := fs_comm m a b c
  unfold fmP fmF
  simp only [badB_comm a b, e1, e2, e3, prN_comm a b, q1, q2, fsN_comm m a b c, and_self]
theorem fmP_fin {m a b c : Int} (ha : cl a ≤ 2) (hb : cl b ≤ 2) (hc : cl c ≤ 2) : fmP m a b c = sS (fsN m a b c) (fsP m a b c) ∧ fmF m a b c = fsF m a b c := by
  have h0 : ¬ badB a b = true := by unfold badB; rw [decide_eq_true_iff]; omega
  have h1 : ¬ (3 < cl a ∨ 3 < cl b ∨ 3 < cl c) := by omega
  have h2 : ¬ (cl a = 3 ∨ cl b = 3) := by omega
  have h3 : ¬ cl c = 3 := by omega
  unfold fmP fmF
  rw [if_neg h0, if_neg h0, if_neg h1, if_neg h1, if_neg h2, if_neg h2, if_neg h3, if_neg h3]
  exact ⟨rfl, rfl⟩
/-- a 0 of a sign -/
def zS (n : Bool) : Int := if n = true then 9223372036854775808 else 0
theorem zS_num (n : Bool) : cl (zS n) = 0 ∧ sg (zS n) = 0 ∧ sgn (zS n) = n ∧ U (zS n) := by cases n <;> decide
/-- with a 0 of the product's sign added the product is left -/
theorem fm_zero (m : Int) {a b : Int} : fmP m a b (zS (prN a b)) = muP m a b ∧ fmF m a b (zS (prN a b)) = muF m a b := by
  obtain ⟨z1, z2, z3, z4⟩ := zS_num (prN a b)
  by_cases hb : badB a b = true
  · obtain ⟨p1, p2⟩ := muP_bad (m := m) hb
    rw [p1, p2]; unfold fmP fmF; rw [if_pos hb, if_pos hb]; exact ⟨rfl, rfl⟩
  · by_cases hn : 3 < cl a ∨ 3 < cl b
    · obtain ⟨p1, p2⟩ := muP_nan (m := m) hn
      have hn' : 3 < cl a ∨ 3 < cl b ∨ 3 < cl (zS (prN a b)) := by omega
      rw [p1, p2]; unfold fmP fmF; rw [if_neg hb, if_neg hb, if_pos hn', if_pos hn']
      refine ⟨rfl, ?_⟩
      congr 1
      simp only [eq_iff_iff]
      omega
    · have hn' : ¬ (3 < cl a ∨ 3 < cl b ∨ 3 < cl (zS (prN a b))) := by omega
      by_cases hi : cl a = 3 ∨ cl b = 3
      · obtain ⟨p1, p2⟩ := muP_inf (m := m) hb hn hi
        have ci : cl (sS (prN a b) inf) = 3 := by cases prN a b <;> decide
        obtain ⟨q1, q2⟩ := suP_infa (m := m) (b := zS (prN a b)) ci (by omega) (fun h => by omega)
        rw [p1, p2]; unfold fmP fmF; rw [if_neg hb, if_neg hb, if_neg hn', if_neg hn', if_pos hi, if_pos hi, q1, q2]; exact ⟨rfl, rfl⟩
      · obtain ⟨p1, p2⟩ := muP_fin (m := m) (a := a) (b := b) (by omega) (by omega)
        obtain ⟨q1, q2⟩ := fmP_fin (m := m) (a := a) (b := b) (c := zS (prN a b)) (by omega) (by omega) (by omega)
        obtain ⟨r1, r2, r3⟩ := fs_zero (m := m) (a := a) (b := b) z2 z3
        rw [p1, p2, q1, q2, r1, r2, r3]; exact ⟨rfl, rfl⟩
/-- times 1 -/
theorem mu_one {m a : Int} (ha : U a) (h : cl a ≤ 3) : muP m a 4607182418800017408 = a ∧ muF m a 4607182418800017408 = 0 := by
  have c1 : cl 4607182418800017408 = 2 := by decide
  by_cases h3 : cl a = 3
  · have hb : ¬ badB a 4607182418800017408 = true := by unfold badB; rw [decide_eq_true_iff]; omega
    obtain ⟨p1, p2⟩ := muP_inf (m := m) hb (by omega) (.inl h3)
    have hn : prN a 4607182418800017408 = sgn a := by unfold prN; rw [one_num.1]; cases sgn a <;> rfl
    have hm : mag a = 9218868437227405312 := (mag_cl a).2.1.1 h3
    rw [p1, p2, hn]
    refine ⟨?_, rfl⟩
    have e := sS_own ha
    rw [hm] at e
    exact e
  · obtain ⟨p1, p2⟩ := muP_fin (m := m) (a := a) (b := 4607182418800017408) (by omega) (by omega)
    obtain ⟨q1, q2, q3⟩ := ml_one (m := m) (fin_ex (show cl a ≤ 2 by omega))
    rw [p1, p2, q1, q2, q3, sS_own ha]; exact ⟨rfl, rfl⟩
/-! ### the other signs -/
theorem badB_ng {a b : Int} (ha : U a) : badB (ng a) b = badB a b := by unfold badB; rw [(ng_num ha).2.2.1]
theorem badB_ng2 {a b : Int} (hb : U b) : badB a (ng b) = badB a b := by unfold badB; rw [(ng_num hb).2.2.1]
theorem ng_inf (n : Bool) : ng (sS n inf) = sS (!n) inf := by cases n <;> decide
theorem sS_nan {n : Bool} {r : Int} (h0 : 0 ≤ r) (h1 : r ≤ 9218868437227405312) : sS n r ≠ 9221120237041090560 := by cases n <;> simp [sS] <;> omega
theorem mu_ng {m a b : Int} (ha : U a) : muF (swM m) (ng a) b = muF m a b ∧ ((muP m a b = 9221120237041090560 ∧ muP (swM m) (ng a) b = 9221120237041090560) ∨ (muP m a b ≠ 9221120237041090560 ∧ muP m a b = ng (muP (swM m) (ng a) b))) := by
  have c1 := (ng_num ha).2.2.1
  by_cases hb : badB a b = true
  · obtain ⟨p1, p2⟩ := muP_bad (m := m) hb
    obtain ⟨q1, q2⟩ := muP_bad (m := swM m) (a := ng a) (b := b) (by rw [badB_ng ha]; exact hb)
    rw [p1, p2, q1, q2]; exact ⟨rfl, .inl ⟨rfl, rfl⟩⟩
  · have hb' : ¬ badB (ng a) b = true := by rw [badB_ng ha]; exact hb
    by_cases hn : 3 < cl a ∨ 3 < cl b
    · obtain ⟨p1, p2⟩ := muP_nan (m := m) hn
      obtain ⟨q1, q2⟩ := muP_nan (m := swM m) (a := ng a) (b := b) (by rw [c1]; exact hn)
      rw [p1, p2, q1, q2, c1]; exact ⟨rfl, .inl ⟨rfl, rfl⟩⟩
    · by_cases hi : cl a = 3 ∨ cl b = 3
      · obtain ⟨p1, p2⟩ := muP_inf (m := m) hb hn hi
        obtain ⟨q1, q2⟩ := muP_inf (m := swM m) hb' (by rw [c1]; exact hn) (by rw [c1]; exact hi)
        rw [p1, p2, q1, q2, prN_ng ha, ng_inf, Bool.not_not]
        exact ⟨rfl, .inr ⟨sS_nan (by decide) (by decide), rfl⟩⟩
      · obtain ⟨p1, p2⟩ := muP_fin (m := m) (a := a) (b := b) (by omega) (by omega)
        obtain ⟨q1, q2⟩ := muP_fin (m := swM m) (a := ng a) (b := b) (by omega) (by omega)
        obtain ⟨r1, r2⟩ := ml_ng (m := m) ha b
        have hl := ml_lt m a b
        rw [p1, p2, q1, q2, r1, r2, prN_ng ha, ng_sS hl.1 hl.2, Bool.not_not]
        exact ⟨rfl, .inr ⟨sS_nan hl.1 (ml_bd m a b).2, rfl⟩⟩
theorem mu_ng2 {m a b : Int} (ha : U a) (hb : U b) : muP m (ng a) (ng b) = muP m a b ∧ muF m (ng a) (ng b) = muF m a b := by
  have c1 := (ng_num ha).2.2.1
  have c2 := (ng_num hb).2.2.1
  obtain ⟨r0, r1, r2⟩ := ml_ng2 (m := m) ha hb
  unfold muP muF
  rw [badB_ng ha, badB_ng2 hb, c1, c2, r0, r1, r2]
  exact ⟨rfl, rfl⟩
/-! ### what rounding left -/
theorem plain_num {p : Int} (h0 : ex p ≠ 0) (h1 : ex p ≠ 2047) : cl p = 2 ∧ xp p = ex p - 1075 ∧ 4503599627370496 ≤ sg p := by
  have := fr_lt p
  refine ⟨?_, ?_, ?_⟩
  · unfold cl; rw [if_neg h0, if_neg h1]
  · unfold xp; rw [if_neg h0, if_neg h1]
  · unfold sg; rw [if_neg h0, if_neg h1]; omega
theorem rest_found {a b : Int} (a0 : ex a ≠ 0) (a1 : ex a ≠ 2047) (b0 : ex b ≠ 0) (b1 : ex b ≠ 2047) (he : 1200 ≤ ex a + ex b) (hf : muF 0 a b = 0 ∨ muF 0 a b = 16) (hp : mag (muP 0 a b) < 9218868437227405312) :
    fmF 0 a b (ng (muP 0 a b)) = 0 ∧ (mag (fmP 0 a b (ng (muP 0 a b))) ≠ 0 ↔ muF 0 a b = 16) ∧ fmP 0 a b (ng (fmP 0 a b (ng (muP 0 a b)))) = muP 0 a b := by
  obtain ⟨j, hj⟩ : ∃ j : Nat, (j : Int) = 1074 := ⟨1074, rfl⟩
  obtain ⟨ca, xa, sa⟩ := plain_num a0 a1
  obtain ⟨cb, xb, sb⟩ := plain_num b0 b1
  have hE : -1074 ≤ prE a b := by unfold prE; omega
  have hV1 := prV_lt a b
  have hV0 : 20282409603651670423947251286016 ≤ prV a b := by
    have := Nat.mul_le_mul (show 4503599627370496 ≤ (sg a).toNat by omega) (show 4503599627370496 ≤ (sg b).toNat by omega)
    unfold prV; omega
  obtain ⟨p1, p2⟩ := muP_fin (m := 0) (a := a) (b := b) (by omega) (by omega)
  rw [p2] at hf ⊢
  obtain ⟨d, d1, d2, d3, d4, d5⟩ := prod_near (n := prN a b) hE hV0 hV1 hf
  have d5' : mlF 0 a b = 0 ↔ d = 0 := d5
  have hl := ml_lt 0 a b
  obtain ⟨s1, s2, s3, s4⟩ := sS_mag (n := prN a b) hl.1 hl.2
  generalize hpp : muP 0 a b = p at *
  rw [← p1] at s1 s2 s3 s4
  have cp : cl p ≤ 2 := (mag_cl p).2.2.2 hp
  obtain ⟨_, n2, n3, _, _⟩ := ng_parts s3
  obtain ⟨_, _, cn, _, nv⟩ := ng_num s3
  have hpv : pvI p = sgI (prN a b) (uV (mlP 0 a b)) := by unfold pvI; rw [s2, s4]
  obtain ⟨V, hVd⟩ : ∃ V, V = prV a b * 2 ^ (prE a b + 1074).toNat := ⟨_, rfl⟩
  obtain ⟨K, hK⟩ : ∃ K : Nat, K = 2 ^ (prE a b + 1074).toNat := ⟨_, rfl⟩
  have hKp : 0 < K := by rw [hK]; exact Nat.pow_pos (by omega)
  have d4' : ((V : Nat) : Int) - (uV (mlP 0 a b) : Int) = d * (K : Int) := by rw [hVd, hK]; exact d4
  -- the first rest
  have f1 := fs_scaled hj (c := ng p) hE
  rw [← hVd, nv, hpv] at f1
  have hS : sgI (prN a b) V + -sgI (prN a b) (uV (mlP 0 a b)) = (if prN a b = true then -d else d) * (K : Int) := by
    cases prN a b
    · simp only [sgI, Bool.false_eq_true, if_false]; omega
    · simp only [sgI, if_true]; rw [Int.neg_mul]; omega
  rw [hS] at f1
  generalize hdd : (if prN a b = true then -d else d) = D at *
  have hDa : D.natAbs = d.natAbs := by rw [← hdd]; split <;> omega
  have hD0 : D = 0 ↔ d = 0 := by rw [← hdd]; split <;> omega
  obtain ⟨g1, g2, g3⟩ := fs_round hj (m := 0) f1
  have hab : (D * (K : Int)).natAbs = D.natAbs * K := by rw [Int.natAbs_mul, Int.natAbs_natCast]
  have hfew : ∀ n, rnF 0 n (D * (K : Int)).natAbs (-1074) = 0 := fun n => by
    have h := few_bits (m := 0) (k := 0) (n := n) (s := prN a b) (D := D.natAbs) (A := prV a b) (E := prE a b) hE (by omega) (by omega) d3
    have e := rnF_scale 0 n D.natAbs (prE a b + 1074).toNat (prE a b)
    rw [show prE a b - ((prE a b + 1074).toNat : Int) = -1074 by omega, ← hK, ← hab] at e
    rw [e]; exact h
  have F1 := hfew (fsN 0 a b (ng p))
  obtain ⟨q1, q2⟩ := fmP_fin (m := 0) (a := a) (b := b) (c := ng p) (by omega) (by omega) (by omega)
  have hr := fs_lt 0 a b (ng p)
  obtain ⟨t1, t2, t3, t4⟩ := sS_mag (n := fsN 0 a b (ng p)) hr.1 hr.2
  obtain ⟨u1, u2⟩ := back_uV F1
  rw [← g2] at u1 u2
  rw [← q1] at t1 t2 t3 t4
  have cr : cl (fmP 0 a b (ng p)) ≤ 2 := (mag_cl _).2.2.2 (by rw [t1]; exact u1)
  have hrv : pvI (fmP 0 a b (ng p)) = D * (K : Int) := by
    unfold pvI
    rw [t2, t4, u2]
    refine sgI_of fun hne => ?_
    rw [g1]
    unfold sgS
    rw [if_neg hne]
  refine ⟨by rw [q2, g3]; exact F1, ?_, ?_⟩
  · have hz := uV_zero (fin_ex cr)
    have e1 : uV (fmP 0 a b (ng p)) = 0 ↔ d = 0 := by
      rw [t4, u2, hab, Nat.mul_eq_zero]
      omega
    rw [ne_eq, ← hz, e1, ← d5']
    omega
  · obtain ⟨_, _, cn2, _, nv2⟩ := ng_num t3
    have f2 := fs_scaled hj (c := ng (fmP 0 a b (ng p))) hE
    rw [← hVd, nv2, hrv] at f2
    have hS2 : sgI (prN a b) V + -(D * (K : Int)) = pvI p := by rw [← hS, hpv]; omega
    rw [hS2] at f2
    obtain ⟨v1, v2, v3⟩ := fs_round hj (m := 0) f2
    obtain ⟨w1, w2⟩ := fmP_fin (m := 0) (a := a) (b := b) (c := ng (fmP 0 a b (ng p))) (by omega) (by omega) (by omega)
    have hu : uV p ≠ 0 := by
      rw [s4]
      intro h0
      rw [h0] at d4'
      have h2 : (V : Int) = d * (K : Int) := by omega
      have h3 : V = d.natAbs * K := by
        have := congrArg Int.natAbs h2
        rw [Int.natAbs_mul, Int.natAbs_natCast, Int.natAbs_natCast] at this
        exact this
      rw [hVd, ← hK] at h3
      have := Nat.eq_of_mul_eq_mul_right hKp h3
      omega
    obtain ⟨m1, m2⟩ := sgI_neg (n := sgn p) hu
    have hN : fsN 0 a b (ng (fmP 0 a b (ng p))) = sgn p := by
      rw [v1]
      unfold sgS
      have : pvI p ≠ 0 := m2
      rw [if_neg this]
      exact m1
    obtain ⟨o1, o2⟩ := own_uV (m := 0) (n := sgn p) (fin_ex cp)
    have habs : (pvI p).natAbs = uV p := sgI_abs _ _
    rw [w1, hN, v2, hN, habs, o1, sS_own s3]
end Go.Proofs.Ytecaahiajbkioaa

/-
  PLAIN ARITHMETIC: a product of digits to the base 65536, row by row.
-/
namespace Go.Nt

theorem vb_set {b : Nat} : ∀ {L : List Int} {j : Nat}, j < L.length → ∀ v : Int, vb b (L.set j v) + b ^ j * (L.getD j 0).toNat = vb b L + b ^ j * v.toNat
  | [], _, h, _ => by simp at h
  | x :: L, 0, _, v => by simp [vb]; omega
  | x :: L, j + 1, h, v => by
    have ih := vb_set (b := b) (L := L) (j := j) (by simpa using h) v
    have e : (x :: L).getD (j + 1) 0 = L.getD j 0 := by simp [List.getD]
    simp only [List.set, vb, e]
    have h2 := congrArg (fun t => b * t) ih
    simp only [Nat.mul_add] at h2
    rw [Nat.pow_succ, Nat.mul_comm (b ^ j) b, Nat.mul_assoc, Nat.mul_assoc]
    omega
theorem set_dg {L : List Int} (h : ∀ x ∈ L, Dg 65536 x) {v : Int} (hv : Dg 65536 v) (j : Nat) : ∀ x ∈ L.set j v, Dg 65536 x := fun x hx => by
  rcases List.mem_or_eq_of_mem_set hx with hx | rfl
  · exact h x hx
  · exact hv
/-- one step: what is carried, a digit and a product -/
theorem mul_step {L : List Int} {j : Nat} (hj : j < L.length) (hL : ∀ x ∈ L, Dg 65536 x) {c p q : Nat} (hc : c < 65536) (hp : p < 65536) (hq : q < 65536) :
    let t := c + (L.getD j 0).toNat + p * q
    vb 65536 (L.set j ((t % 65536 : Nat) : Int)) + t / 65536 * 65536 ^ (j + 1) = vb 65536 L + c * 65536 ^ j + p * q * 65536 ^ j ∧ t / 65536 < 65536 ∧ (∀ x ∈ L.set j ((t % 65536 : Nat) : Int), Dg 65536 x) := by
  intro t
  have hd : (L.getD j 0).toNat < 65536 := dg_lt hL j
  have hpq : p * q ≤ 65535 * 65535 := Nat.mul_le_mul (by omega) (by omega)
  have ht : t = c + (L.getD j 0).toNat + p * q := rfl
  refine ⟨?_, by omega, set_dg hL ⟨by omega, by omega⟩ j⟩
  have h1 := vb_set (b := 65536) hj ((t % 65536 : Nat) : Int)
  rw [Int.toNat_natCast] at h1
  have h2 := Nat.div_add_mod t 65536
  have h3 : 65536 ^ j * t = 65536 ^ j * (65536 * (t / 65536)) + 65536 ^ j * (t % 65536) := by rw [← Nat.mul_add, h2]
  have h4 : 65536 ^ j * t = 65536 ^ j * c + 65536 ^ j * (L.getD j 0).toNat + 65536 ^ j * (p * q) := by rw [ht, Nat.mul_add, Nat.mul_add]
  have h5 : t / 65536 * 65536 ^ (j + 1) = 65536 ^ j * (65536 * (t / 65536)) := by rw [Nat.pow_succ, Nat.mul_comm, Nat.mul_assoc]
  rw [h5, Nat.mul_comm c, Nat.mul_comm (p * q)]
  omega
end Go.Nt
