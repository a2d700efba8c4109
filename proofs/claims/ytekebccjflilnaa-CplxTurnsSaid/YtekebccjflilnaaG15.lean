/-
  SuM, PrM, NumCx, CxM, RunS, RunT, RunU, RunW, Hcs, ConN1
-/
import Derived.Test.YtekebccjflilnaaG14
import Derived.OneCell
namespace Go.Proofs.Ytekebccjflilnaa
open Go.KRun Go.Wd Go.Pt Go.Rn
theorem suP_nan {m a b : Int} (h : 3 < cl a ∨ 3 < cl b) : suP m a b = 9221120237041090560 := by unfold suP; rw [if_pos h]
theorem suP_fin {m a b : Int} (ha : cl a ≤ 2) (hb : cl b ≤ 2) : suP m a b = sS (adN m a b) (adP m a b) ∧ suF m a b = adF m a b := by
  unfold suP suF
  have h0 : ¬ (3 < cl a ∨ 3 < cl b) := by omega
  have h1 : ¬ cl a = 3 := by omega
  have h2 : ¬ cl b = 3 := by omega
  rw [if_neg h0, if_neg h1, if_neg h2, if_neg h0, if_neg h1, if_neg h2]
  exact ⟨rfl, rfl⟩
theorem suP_infa {m a b : Int} (ha : cl a = 3) (hb : cl b ≤ 3) (h : ¬ (cl b = 3 ∧ a ≠ b)) : suP m a b = a ∧ suF m a b = 0 := by
  unfold suP suF
  have h0 : ¬ (3 < cl a ∨ 3 < cl b) := by omega
  rw [if_neg h0, if_pos ha, if_neg h, if_neg h0, if_pos ha, if_neg h]
  exact ⟨rfl, rfl⟩
theorem suP_infi {m a b : Int} (ha : cl a = 3) (hb : cl b = 3) (h : a ≠ b) : suP m a b = 9221120237041090560 ∧ suF m a b = 1 := by
  unfold suP suF
  have h0 : ¬ (3 < cl a ∨ 3 < cl b) := by omega
  rw [if_neg h0, if_pos ha, if_pos ⟨hb, h⟩, if_neg h0, if_pos ha, if_pos ⟨hb, h⟩]
  exact ⟨rfl, rfl⟩
theorem suP_infb {m a b : Int} (ha : cl a ≤ 2) (hb : cl b = 3) : suP m a b = b ∧ suF m a b = 0 := by
  unfold suP suF
  have h0 : ¬ (3 < cl a ∨ 3 < cl b) := by omega
  have h1 : ¬ cl a = 3 := by omega
  rw [if_neg h0, if_neg h1, if_pos hb, if_neg h0, if_neg h1, if_pos hb]
  exact ⟨rfl, rfl⟩
theorem su_comm (m a b : Int) : suP m a b = suP m b a ∧ suF m a b = suF m b a := by
  by_cases hn : 3 < cl a ∨ 3 < cl b
  · have hn' : 3 < cl b ∨ 3 < cl a := by omega
    refine ⟨by rw [suP_nan hn, suP_nan hn'], ?_⟩
    unfold suF
    rw [if_pos hn, if_pos hn']
    congr 1
    simp only [eq_iff_iff]
    omega
  · by_cases ha : cl a = 3
    · by_cases hb : cl b = 3
      · by_cases hab : a = b
        · rw [hab]; exact ⟨rfl, rfl⟩
        · rw [(suP_infi ha hb hab).1, (suP_infi ha hb hab).2, (suP_infi hb ha (fun e => hab e.symm)).1, (suP_infi hb ha (fun e => hab e.symm)).2]
          exact ⟨rfl, rfl⟩
      · obtain ⟨p1, p2⟩ := suP_infa (m := m) (b := b) ha (by omega) (fun h => hb h.1)
        obtain ⟨q1, q2⟩ := suP_infb (m := m) (a := b) (b := a) (by omega) ha
        rw [p1, p2, q1, q2]; exact ⟨rfl, rfl⟩
    · by_cases hb : cl b = 3
      · obtain ⟨p1, p2⟩ := suP_infb (m := m) (a := a) (b := b) (by omega) hb
        obtain ⟨q1, q2⟩ := suP_infa (m := m) (a := b) (b := a) hb (by omega) (fun h => ha h.1)
        rw [p1, p2, q1, q2]; exact ⟨rfl, rfl⟩
      · obtain ⟨p1, p2⟩ := suP_fin (m := m) (a := a) (b := b) (by omega) (by omega)
        obtain ⟨q1, q2⟩ := suP_fin (m := m) (a := b) (b := a) (by omega) (by omega)
        obtain ⟨r1, r2⟩ := ad_comm m a b
        rw [p1, p2, q1, q2, adN_comm, r1, r2]; exact ⟨rfl, rfl⟩
theorem ad_lt (m a b : Int) : 0 ≤ adP m a b ∧ adP m a b < 9223372036854775808 := by have := ad_bd m a b; omega
theorem su_U {m a b : Int} (ha : U a) (hb : U b) : U (suP m a b) := by
  have hN : U 9221120237041090560 := by decide
  by_cases hn : 3 < cl a ∨ 3 < cl b
  · rw [suP_nan hn]; exact hN
  · by_cases ca : cl a = 3
    · by_cases hi : cl b = 3 ∧ a ≠ b
      · rw [(suP_infi ca hi.1 hi.2).1]; exact hN
      · rw [(suP_infa ca (by omega) hi).1]; exact ha
    · by_cases cb : cl b = 3
      · rw [(suP_infb (by omega) cb).1]; exact hb
      · rw [(suP_fin (by omega) (by omega)).1]
        exact (sS_mag (ad_lt m a b).1 (ad_lt m a b).2).2.2.1
/-- the other signs -/
theorem su_ng {m a b : Int} (ha : U a) (hb : U b) : suF (swM m) (ng a) (ng b) = suF m a b ∧
    ((mag (suP m a b) = 0 ∧ mag (suP (swM m) (ng a) (ng b)) = 0) ∨ (mag (suP m a b) ≠ 0 ∧ suP m a b = 9221120237041090560 ∧ suP (swM m) (ng a) (ng b) = suP m a b) ∨ (mag (suP m a b) ≠ 0 ∧ suP m a b ≠ 9221120237041090560 ∧ suP m a b = ng (suP (swM m) (ng a) (ng b)))) := by
  have c1 := (ng_num ha).2.2.1
  have c2 := (ng_num hb).2.2.1
  have hne : a ≠ b ↔ ng a ≠ ng b := by unfold ng U at *; omega
  have m0 : mag 9221120237041090560 ≠ 0 := by decide
  by_cases hn : 3 < cl a ∨ 3 < cl b
  · have hn' : 3 < cl (ng a) ∨ 3 < cl (ng b) := by omega
    refine ⟨?_, .inr (.inl ⟨by rw [suP_nan hn]; exact m0, suP_nan hn, by rw [suP_nan hn, suP_nan hn']⟩)⟩
    unfold suF
    rw [if_pos hn, if_pos hn', c1, c2]
  · by_cases ca : cl a = 3
    · have hm : mag a = 9218868437227405312 := (mag_cl a).2.1.1 ca
      by_cases hi : cl b = 3 ∧ a ≠ b
      · obtain ⟨p1, p2⟩ := suP_infi (m := m) ca hi.1 hi.2
        obtain ⟨q1, q2⟩ := suP_infi (m := swM m) (a := ng a) (b := ng b) (by omega) (by omega) (hne.1 hi.2)
        rw [p1, p2, q1, q2]
        exact ⟨rfl, .inr (.inl ⟨m0, rfl, rfl⟩)⟩
      · obtain ⟨p1, p2⟩ := suP_infa (m := m) ca (by omega) hi
        obtain ⟨q1, q2⟩ := suP_infa (m := swM m) (a := ng a) (b := ng b) (by omega) (by omega) (fun h => hi ⟨by omega, hne.2 h.2⟩)
        rw [p1, p2, q1, q2, ng_ng ha]
        refine ⟨rfl, .inr (.inr ⟨by omega, fun e => ?_, rfl⟩)⟩
        rw [e, nan_mag] at hm; omega
    · by_cases cb : cl b = 3
      · have hm : mag b = 9218868437227405312 := (mag_cl b).2.1.1 cb
        obtain ⟨p1, p2⟩ := suP_infb (m := m) (a := a) (by omega) cb
        obtain ⟨q1, q2⟩ := suP_infb (m := swM m) (a := ng a) (b := ng b) (by omega) (by omega)
        rw [p1, p2, q1, q2, ng_ng hb]
        refine ⟨rfl, .inr (.inr ⟨by omega, fun e => ?_, rfl⟩)⟩
        rw [e, nan_mag] at hm; omega
      · obtain ⟨p1, p2⟩ := suP_fin (m := m) (a := a) (b := b) (by omega) (by omega)
        obtain ⟨q1, q2⟩ := suP_fin (m := swM m) (a := ng a) (b := ng b) (by omega) (by omega)
        obtain ⟨r1, r2, r3⟩ := ad_ng (m := m) ha hb
        have hl := ad_lt m a b
        have hl2 := ad_bd m a b
        rw [p1, p2, q1, q2, r1, r2]
        refine ⟨rfl, ?_⟩
        obtain ⟨s1, _⟩ := sS_mag (n := adN m a b) hl.1 hl.2
        obtain ⟨t1, _⟩ := sS_mag (n := adN (swM m) (ng a) (ng b)) hl.1 hl.2
        by_cases h0 : adP m a b = 0
        · exact .inl ⟨by rw [s1]; exact h0, by rw [t1]; exact h0⟩
        · have hp : psI a b ≠ 0 := fun e => h0 (by unfold adP; rw [e]; simp [rnP])
          refine .inr (.inr ⟨by rw [s1]; exact h0, fun e => ?_, ?_⟩)
          · rw [e, nan_mag] at s1; omega
          · rw [r3 hp, ng_sS hl.1 hl.2, Bool.not_not]
theorem badB_comm (a b : Int) : badB a b = badB b a := by
  unfold badB
  congr 1
  simp only [eq_iff_iff]
  omega
theorem muP_bad {m a b : Int} (h : badB a b = true) : muP m a b = 9221120237041090560 ∧ muF m a b = 1 := by
  unfold muP muF; rw [if_pos h, if_pos h]; exact ⟨rfl, rfl⟩
theorem muP_nan {m a b : Int} (h : 3 < cl a ∨ 3 < cl b) : muP m a b = 9221120237041090560 ∧ muF m a b = if cl a = 5 ∨ cl b = 5 then 1 else 0 := by
  have hb : ¬ badB a b = true := by unfold badB; rw [decide_eq_true_iff]; omega
  unfold muP muF
  rw [if_neg hb, if_neg hb, if_pos h, if_pos h]
  exact ⟨rfl, rfl⟩
theorem muP_inf {m a b : Int} (hb : ¬ badB a b = true) (h : ¬ (3 < cl a ∨ 3 < cl b)) (hi : cl a = 3 ∨ cl b = 3) : muP m a b = sS (prN a b) inf ∧ muF m a b = 0 := by
  unfold muP muF
  rw [if_neg hb, if_neg hb, if_neg h, if_neg h, if_pos hi, if_pos hi]
  exact ⟨rfl, rfl⟩
theorem muP_fin {m a b : Int} (ha : cl a ≤ 2) (hb : cl b ≤ 2) : muP m a b = sS (prN a b) (mlP m a b) ∧ muF m a b = mlF m a b := by
  have h0 : ¬ badB a b = true := by unfold badB; rw [decide_eq_true_iff]; omega
  have h1 : ¬ (3 < cl a ∨ 3 < cl b) := by omega
  have h2 : ¬ (cl a = 3 ∨ cl b = 3) := by omega
  unfold muP muF
  rw [if_neg h0, if_neg h0, if_neg h1, if_neg h1, if_neg h2, if_neg h2]
  exact ⟨rfl, rfl⟩
theorem ml_lt (m a b : Int) : 0 ≤ mlP m a b ∧ mlP m a b < 9223372036854775808 := by have := ml_bd m a b; omega
theorem fs_lt (m a b c : Int) : 0 ≤ fsP m a b c ∧ fsP m a b c < 9223372036854775808 := by have := fs_bd m a b c; omega
theorem mu_U (m a b : Int) : U (muP m a b) := by
  unfold muP
  split
  · decide
  · split
    · decide
    · split
      · exact inf_U _
      · exact (sS_mag (ml_lt m a b).1 (ml_lt m a b).2).2.2.1
theorem fm_U (m a b : Int) {c : Int} (hc : U c) : U (fmP m a b c) := by
  unfold fmP
  split
  · decide
  · split
    · decide
    · split
      · exact su_U (inf_U _) hc
      · split
        · exact hc
        · exact (sS_mag (fs_lt m a b c).1 (fs_lt m a b c).2).2.2.1
theorem fmP_fin {m a b c : Int} (ha : cl a ≤ 2) (hb : cl b ≤ 2) (hc : cl c ≤ 2) : fmP m a b c = sS (fsN m a b c) (fsP m a b c) ∧ fmF m a b c = fsF m a b c := by
  have h0 : ¬ badB a b = true := by unfold badB; rw [decide_eq_true_iff]; omega
  have h1 : ¬ (3 < cl a ∨ 3 < cl b ∨ 3 < cl c) := by omega
  have h2 : ¬ (cl a = 3 ∨ cl b = 3) := by omega
  have h3 : ¬ cl c = 3 := by omega
  unfold fmP fmF
  rw [if_neg h0, if_neg h0, if_neg h1, if_neg h1, if_neg h2, if_neg h2, if_neg h3, if_neg h3]
  exact ⟨rfl, rfl⟩
/-- a 0 of a sign -/
def zS (n : Bool) : Int := if n = true then 9223372036854775808 else 0
theorem zS_num (n : Bool) : cl (zS n) = 0 ∧ sg (zS n) = 0 ∧ sgn (zS n) = n ∧ U (zS n) := by cases n <;> decide
/-- with a 0 of the product's sign added the product is left -/
theorem fm_zero (m : Int) {a b : Int} : fmP m a b (zS (prN a b)) = muP m a b ∧ fmF m a b (zS (prN a b)) = muF m a b := by
  obtain ⟨z1, z2, z3, z4⟩ := zS_num (prN a b)
  by_cases hb : badB a b = true
  · obtain ⟨p1, p2⟩ := muP_bad (m := m) hb
    rw [p1, p2]; unfold fmP fmF; rw [if_pos hb, if_pos hb]; exact ⟨rfl, rfl⟩
  · by_cases hn : 3 < cl a ∨ 3 < cl b
    · obtain ⟨p1, p2⟩ := muP_nan (m := m) hn
      have hn' : 3 < cl a ∨ 3 < cl b ∨ 3 < cl (zS (prN a b)) := by omega
      rw [p1, p2]; unfold fmP fmF; rw [if_neg hb, if_neg hb, if_pos hn', if_pos hn']
      refine ⟨rfl, ?_⟩
      congr 1
      simp only [eq_iff_iff]
      omega
    · have hn' : ¬ (3 < cl a ∨ 3 < cl b ∨ 3 < cl (zS (prN a b))) := by omega
      by_cases hi : cl a = 3 ∨ cl b = 3
      · obtain ⟨p1, p2⟩ := muP_inf (m := m) hb hn hi
        have ci : cl (sS (prN a b) inf) = 3 := by cases prN a b <;> decide
        obtain ⟨q1, q2⟩ := suP_infa (m := m) (b := zS (prN a b)) ci (by omega) (fun h => by omega)
        rw [p1, p2]; unfold fmP fmF; rw [if_neg hb, if_neg hb, if_neg hn', if_neg hn', if_pos hi, if_pos hi, q1, q2]; exact ⟨rfl, rfl⟩
      · obtain ⟨p1, p2⟩ := muP_fin (m := m) (a := a) (b := b) (by omega) (by omega)
        obtain ⟨q1, q2⟩ := fmP_fin (m := m) (a := a) (b := b) (c := zS (prN a b)) (by omega) (by omega) (by omega)
        obtain ⟨r1, r2, r3⟩ := fs_zero (m := m) (a := a) (b := b) z2 z3
        rw [p1, p2, q1, q2, r1, r2, r3]; exact ⟨rfl, rfl⟩
/-! ### the other signs -/
theorem badB_ng {a b : Int} (ha : U a) : badB (ng a) b = badB a b := by unfold badB; rw [(ng_num ha).2.2.1]
theorem badB_ng2 {a b : Int} (hb : U b) : badB a (ng b) = badB a b := by unfold badB; rw [(ng_num hb).2.2.1]
theorem ng_inf (n : Bool) : ng (sS n inf) = sS (!n) inf := by cases n <;> decide
theorem sS_nan {n : Bool} {r : Int} (h0 : 0 ≤ r) (h1 : r ≤ 9218868437227405312) : sS n r ≠ 9221120237041090560 := by cases n <;> simp [sS] <;> omega
theorem mu_ng {m a b : Int} (ha : U a) : muF (swM m) (ng a) b = muF m a b ∧ ((muP m a b = 9221120237041090560 ∧ muP (swM m) (ng a) b = 9221120237041090560) ∨ (muP m a b ≠ 9221120237041090560 ∧ muP m a b = ng (muP (swM m) (ng a) b))) := by
  have c1 := (ng_num ha).2.2.1
  by_cases hb : badB a b = true
  · obtain ⟨p1, p2⟩ := muP_bad (m := m) hb
    obtain ⟨q1, q2⟩ := muP_bad (m := swM m) (a := ng a) (b := b) (by rw [badB_ng ha]; exact hb)
    rw [p1, p2, q1, q2]; exact ⟨rfl, .inl ⟨rfl, rfl⟩⟩
  · have hb' : ¬ badB (ng a) b = true := by rw [badB_ng ha]; exact hb
    by_cases hn : 3 < cl a ∨ 3 < cl b
    · obtain ⟨p1, p2⟩ := muP_nan (m := m) hn
      obtain ⟨q1, q2⟩ := muP_nan (m := swM m) (a := ng a) (b := b) (by rw [c1]; exact hn)
      rw [p1, p2, q1, q2, c1]; exact ⟨rfl, .inl ⟨rfl, rfl⟩⟩
    · by_cases hi : cl a = 3 ∨ cl b = 3
      · obtain ⟨p1, p2⟩ := muP_inf (m := m) hb hn hi
        obtain ⟨q1, q2⟩ := muP_inf (m := swM m) hb' (by rw [c1]; exact hn) (by rw [c1]; exact hi)
        rw [p1, p2, q1, q2, prN_ng ha, ng_inf, Bool.not_not]
        exact ⟨rfl, .inr ⟨sS_nan (by decide) (by decide), rfl⟩⟩
      · obtain ⟨p1, p2⟩ := muP_fin (m := m) (a := a) (b := b) (by omega) (by omega)
        obtain ⟨q1, q2⟩ := muP_fin (m := swM m) (a := ng a) (b := b) (by omega) (by omega)
        obtain ⟨r1, r2⟩ := ml_ng (m := m) ha b
        have hl := ml_lt m a b
        rw [p1, p2, q1, q2, r1, r2, prN_ng ha, ng_sS hl.1 hl.2, Bool.not_not]
        exact ⟨rfl, .inr ⟨sS_nan hl.1 (ml_bd m a b).2, rfl⟩⟩
theorem mu_ng2 {m a b : Int} (ha : U a) (hb : U b) : muP m (ng a) (ng b) = muP m a b ∧ muF m (ng a) (ng b) = muF m a b := by
  have c1 := (ng_num ha).2.2.1
  have c2 := (ng_num hb).2.2.1
  obtain ⟨r0, r1, r2⟩ := ml_ng2 (m := m) ha hb
  unfold muP muF
  rw [badB_ng ha, badB_ng2 hb, c1, c2, r0, r1, r2]
  exact ⟨rfl, rfl⟩
/-! ### what rounding left -/
end Go.Proofs.Ytekebccjflilnaa
namespace Go.Rn
open Go.Nt Go.Wd Go.Pt
theorem sgI_not (n : Bool) (A : Nat) : sgI (!n) A = -sgI n A := by
  cases n
  · rfl
  · show (A : Int) = - -(A : Int)
    omega
theorem smI_ng (F : Int) (nx : Bool) (Ex : Int) (X : Nat) (ny : Bool) (Ey : Int) (Y : Nat) : smI F (!nx) Ex X (!ny) Ey Y = -smI F nx Ex X ny Ey Y := by
  unfold smI
  rw [sgI_not, sgI_not]
  omega
theorem prN_ngC {b : Int} (hb : U b) (a : Int) : prN a (ng b) = !prN a b := by rw [prN_comm, prN_ng hb, prN_comm]
theorem fsI_ng {a b c : Int} (hb : U b) (hc : U c) : fsI a (ng b) (ng c) = -fsI a b c := by
  obtain ⟨e1, e2, _⟩ := ng_num hb
  obtain ⟨f1, f2, _⟩ := ng_num hc
  have eV : prV a (ng b) = prV a b := by unfold prV; rw [e2]
  have eE : prE a (ng b) = prE a b := by unfold prE; rw [e1]
  unfold fsI
  rw [prN_ngC hb, eV, eE, (ng_parts hc).2.1, f1, f2, smI_ng]
theorem fs_ng {m a b c : Int} (hb : U b) (hc : U c) : fsP (swM m) a (ng b) (ng c) = fsP m a b c ∧ fsF (swM m) a (ng b) (ng c) = fsF m a b c ∧ (fsI a b c ≠ 0 → fsN (swM m) a (ng b) (ng c) = !fsN m a b c) := by
  have e := fsI_ng (a := a) hb hc
  have hn : fsI a b c ≠ 0 → fsN (swM m) a (ng b) (ng c) = !fsN m a b c := fun h => by
    unfold fsN sgS
    rw [e, if_neg (by omega), if_neg h]
    by_cases h2 : fsI a b c < 0
    · rw [decide_eq_true h2, decide_eq_false (by omega)]; rfl
    · rw [decide_eq_false h2, decide_eq_true (by omega)]; rfl
  by_cases h : fsI a b c = 0
  · refine ⟨?_, ?_, hn⟩
    · unfold fsP; rw [e, h]; simp [rnP]
    · unfold fsF; rw [e, h]; simp [rnF]
  · have h1 := hn h
    refine ⟨?_, ?_, hn⟩
    · unfold fsP; rw [h1, e, Int.natAbs_neg, rnP_swM]
    · unfold fsF; rw [h1, e, Int.natAbs_neg, rnF_swM]
end Go.Rn
namespace Go.Proofs.Ytekebccjflilnaa
open Go.KRun Go.Wd Go.Pt Go.Rn
theorem fmP_bad {m a b c : Int} (h : badB a b = true) : fmP m a b c = 9221120237041090560 ∧ fmF m a b c = 1 := by
  unfold fmP fmF; rw [if_pos h, if_pos h]; exact ⟨rfl, rfl⟩
theorem fmP_nan {m a b c : Int} (h : ¬ badB a b = true) (hn : 3 < cl a ∨ 3 < cl b ∨ 3 < cl c) : fmP m a b c = 9221120237041090560 ∧ fmF m a b c = if cl a = 5 ∨ cl b = 5 ∨ cl c = 5 then 1 else 0 := by
  unfold fmP fmF; rw [if_neg h, if_neg h, if_pos hn, if_pos hn]; exact ⟨rfl, rfl⟩
theorem fmP_inf {m a b c : Int} (h : ¬ badB a b = true) (hn : ¬ (3 < cl a ∨ 3 < cl b ∨ 3 < cl c)) (hi : cl a = 3 ∨ cl b = 3) : fmP m a b c = suP m (sS (prN a b) inf) c ∧ fmF m a b c = suF m (sS (prN a b) inf) c := by
  unfold fmP fmF; rw [if_neg h, if_neg h, if_neg hn, if_neg hn, if_pos hi, if_pos hi]; exact ⟨rfl, rfl⟩
theorem fmP_endless {m a b c : Int} (ha : cl a ≤ 2) (hb : cl b ≤ 2) (hc : cl c = 3) : fmP m a b c = c ∧ fmF m a b c = 0 := by
  have h0 : ¬ badB a b = true := by unfold badB; rw [decide_eq_true_iff]; omega
  have h1 : ¬ (3 < cl a ∨ 3 < cl b ∨ 3 < cl c) := by omega
  have h2 : ¬ (cl a = 3 ∨ cl b = 3) := by omega
  unfold fmP fmF
  rw [if_neg h0, if_neg h0, if_neg h1, if_neg h1, if_neg h2, if_neg h2, if_pos hc, if_pos hc]
  exact ⟨rfl, rfl⟩
/-- two of three with the other sign -/
theorem fm_ng {m a b c : Int} (hb : U b) (hc : U c) : fmF (swM m) a (ng b) (ng c) = fmF m a b c ∧
    ((mag (fmP m a b c) = 0 ∧ mag (fmP (swM m) a (ng b) (ng c)) = 0) ∨ (fmP m a b c = 9221120237041090560 ∧ fmP (swM m) a (ng b) (ng c) = 9221120237041090560) ∨ (mag (fmP m a b c) ≠ 0 ∧ fmP m a b c ≠ 9221120237041090560 ∧ fmP m a b c = ng (fmP (swM m) a (ng b) (ng c)))) := by
  have c1 := (ng_num hb).2.2.1
  have c2 := (ng_num hc).2.2.1
  by_cases hbd : badB a b = true
  · have hbd' : badB a (ng b) = true := by rw [badB_ng2 hb]; exact hbd
    obtain ⟨p1, p2⟩ := fmP_bad (m := m) (c := c) hbd
    obtain ⟨q1, q2⟩ := fmP_bad (m := swM m) (c := ng c) hbd'
    rw [p1, p2, q1, q2]
    exact ⟨rfl, .inr (.inl ⟨rfl, rfl⟩)⟩
  · have hbd' : ¬ badB a (ng b) = true := by rw [badB_ng2 hb]; exact hbd
    by_cases hn : 3 < cl a ∨ 3 < cl b ∨ 3 < cl c
    · obtain ⟨p1, p2⟩ := fmP_nan (m := m) hbd hn
      obtain ⟨q1, q2⟩ := fmP_nan (m := swM m) (c := ng c) hbd' (by rw [c1, c2]; exact hn)
      rw [p1, p2, q1, q2, c1, c2]
      exact ⟨rfl, .inr (.inl ⟨rfl, rfl⟩)⟩
    · have hn' : ¬ (3 < cl a ∨ 3 < cl (ng b) ∨ 3 < cl (ng c)) := by rw [c1, c2]; exact hn
      by_cases hi : cl a = 3 ∨ cl b = 3
      · obtain ⟨p1, p2⟩ := fmP_inf (m := m) hbd hn hi
        obtain ⟨q1, q2⟩ := fmP_inf (m := swM m) (c := ng c) hbd' hn' (by rw [c1]; exact hi)
        rw [prN_ngC hb, ← ng_inf] at q1 q2
        obtain ⟨s1, s2⟩ := su_ng (m := m) (a := sS (prN a b) inf) (b := c) (inf_U _) hc
        rw [p1, p2, q1, q2]
        refine ⟨s1, ?_⟩
        rcases s2 with h | ⟨_, h1, h2⟩ | ⟨h0, h1, h2⟩
        · exact .inl h
        · exact .inr (.inl ⟨h1, by rw [h2]; exact h1⟩)
        · exact .inr (.inr ⟨h0, h1, h2⟩)
      · by_cases hc3 : cl c = 3
        · obtain ⟨p1, p2⟩ := fmP_endless (m := m) (a := a) (b := b) (c := c) (by omega) (by omega) hc3
          obtain ⟨q1, q2⟩ := fmP_endless (m := swM m) (a := a) (b := ng b) (c := ng c) (by omega) (by omega) (by omega)
          have hm : mag c = 9218868437227405312 := (mag_cl c).2.1.1 hc3
          rw [p1, p2, q1, q2, ng_ng hc]
          refine ⟨rfl, .inr (.inr ⟨by omega, fun e => ?_, rfl⟩)⟩
          rw [e, nan_mag] at hm; omega
        · obtain ⟨p1, p2⟩ := fmP_fin (m := m) (a := a) (b := b) (c := c) (by omega) (by omega) (by omega)
          obtain ⟨q1, q2⟩ := fmP_fin (m := swM m) (a := a) (b := ng b) (c := ng c) (by omega) (by omega) (by omega)
          obtain ⟨r1, r2, r3⟩ := fs_ng (m := m) (a := a) hb hc
          have hl := fs_lt m a b c
          have hl2 := fs_bd m a b c
          rw [p1, p2, q1, q2, r1, r2]
          refine ⟨rfl, ?_⟩
          obtain ⟨s1, _⟩ := sS_mag (n := fsN m a b c) hl.1 hl.2
          obtain ⟨t1, _⟩ := sS_mag (n := fsN (swM m) a (ng b) (ng c)) hl.1 hl.2
          by_cases h0 : fsP m a b c = 0
          · exact .inl ⟨by rw [s1]; exact h0, by rw [t1]; exact h0⟩
          · have hp : fsI a b c ≠ 0 := fun e => h0 (by unfold fsP; rw [e]; simp [rnP])
            refine .inr (.inr ⟨by rw [s1]; exact h0, fun e => ?_, ?_⟩)
            · rw [e, nan_mag] at s1; omega
            · rw [r3 hp, ng_sS hl.1 hl.2, Bool.not_not]
end Go.Proofs.Ytekebccjflilnaa
namespace Go.KRun
open Go.RowKit
/-- From state x the code c ends, in one of the ways that 'Post' tells. -/
def Runs (T : Tab) (c : Code) (x : Lf) (Post : Ex → Lf → Prop) : Prop :=
  ∀ m B a w, Rel m B x a w → ∀ Q : Exit → Act → World → Prop, (∀ e y, Post e y → ∀ a' w', Reach m B x.2.1.n w y a' w' → Q (out e) a' w') → c.wp T.P Q a w
theorem Runs.mono {T : Tab} {c : Code} {x : Lf} {P P' : Ex → Lf → Prop} (h : Runs T c x P) (hp : ∀ e y, P e y → P' e y) : Runs T c x P' :=
  fun m B a w R Q hQ => h m B a w R Q fun e y he => hQ e y (hp e y he)
/-- the decisions that are told ahead are no part of the state -/
theorem Runs.script {T : Tab} {c : Code} {t : List Value} {h : Hp} {s s' : List Dec} {P : Ex → Lf → Prop} (hr : Runs T c (t, h, s) P) : Runs T c (t, h, s') P :=
  fun m B a w R Q hQ => hr m B a w ⟨R.tmps, R.dfr, R.emb, R.wf⟩ Q hQ
theorem Runs.ev {T : Tab} (hT : TabOk T) {n : Nat} {c : Code} {x x' : Lf} {e : Ex} {L : Lg} (h : evC T n false c x ⟨[], [], []⟩ = some (e, x', L)) (hL : L.ok) : Runs T c x fun e' y => e' = e ∧ y = x' :=
  fun m B a w R Q hQ => ((evC_ok hT n).1 c x _ e x' L h hL).2 m B a w R Q fun a' w' hR => hQ e x' ⟨rfl, rfl⟩ a' w' hR
theorem Runs.seq {T : Tab} {c1 c2 : Code} {x : Lf} {P1 P : Ex → Lf → Prop} (h1 : Runs T c1 x P1) (h2 : ∀ y, P1 none y → Runs T c2 y P) (h3 : ∀ e y, P1 (some e) y → P (some e) y) : Runs T (.seq c1 c2) x P := by
  intro m B a w R Q hQ
  refine wp_seq (h1 m B a w R _ fun e y he a' w' hR => ?_)
  match e, he with
  | none, he =>
    obtain ⟨m', k1, k2, k3, k4⟩ := hR
    exact h2 y he m' B a' w' k2 Q fun e' y' he' a'' w'' hR' => hQ e' y' he' a'' w'' (Reach.trans k1 k3 k4 hR')
  | some none, he => exact hQ _ _ (h3 none y he) a' w' hR
  | some (some id), he => exact hQ _ _ (h3 (some id) y he) a' w' hR
theorem Runs.block {T : Tab} {c : Code} {id : Nat} {x : Lf} {P1 P : Ex → Lf → Prop} (h1 : Runs T c x P1) (h2 : ∀ y, P1 none y → P none y) (h3 : ∀ y, P1 (some none) y → P (some none) y)
    (h4 : ∀ y, P1 (some (some id)) y → P none y) (h5 : ∀ id' y, id' ≠ id → P1 (some (some id')) y → P (some (some id')) y) : Runs T (.block id c) x P := by
  intro m B a w R Q hQ
  refine wp_block (h1 m B a w R _ fun e y he a' w' hR => ?_)
  match e, he with
  | none, he => exact hQ _ _ (h2 y he) a' w' hR
  | some none, he => exact hQ _ _ (h3 y he) a' w' hR
  | some (some id'), he =>
    simp only [out, Exit.inBlock]
    by_cases hid : id' = id
    · subst hid
      rw [if_pos rfl]
      exact hQ _ _ (h4 y he) a' w' hR
    · rw [if_neg hid]
      exact hQ _ _ (h5 id' y hid he) a' w' hR
/-- a loop: 'Inv n x': at its head in state x, at most n rounds are left -/
theorem Runs.loop {T : Tab} {c : Code} {P : Ex → Lf → Prop} (Inv : Nat → Lf → Prop) (round : ∀ n x, Inv n x → Runs T c x fun e y => match e with | none => ∃ n', n' < n ∧ Inv n' y | some e => P (some e) y) {n : Nat} {x : Lf} (h0 : Inv n x) :
    Runs T (.loop c) x P := by
  have key : ∀ N n x, n < N → Inv n x → ∀ m B a w, Rel m B x a w → ∀ Q : Exit → Act → World → Prop, (∀ e y, P e y → ∀ a' w', Reach m B x.2.1.n w y a' w' → Q (out e) a' w') → Code.rounds T.P c Q N a w := by
    intro N
    induction N with
    | zero => intro n x hn; omega
    | succ N ih =>
      intro n x hn hI m B a w R Q hQ
      rw [rounds_succ]
      refine round n x hI m B a w R _ fun e y he a' w' hR => ?_
      match e, he with
      | none, he =>
        obtain ⟨n', hn', hI'⟩ := he
        obtain ⟨m', k1, k2, k3, k4⟩ := hR
        exact ih n' y (by omega) hI' m' B a' w' k2 Q fun e' y' he' a'' w'' hR' => hQ e' y' he' a'' w'' (Reach.trans k1 k3 k4 hR')
      | some none, he => exact hQ _ _ he a' w' hR
      | some (some id), he => exact hQ _ _ he a' w' hR
  intro m B a w R Q hQ
  exact wp_loop_rounds (n + 1) (key (n + 1) n x (by omega) h0 m B a w R Q hQ)
/-- a call out of its body -/
theorem calls_of_runs {T : Tab} {f : Nat} {F : Func} {c : Code} (hF : T.P.funcs[f]? = some F) (hc : F.body = some c) {vals : List Value} {v : Value} (hvals : (vals.all (lt 0)) = true) (hv : lt 0 v = true)
    (h : Runs T c (vals ++ List.replicate (F.ntmps - vals.length) undef, ⟨0, []⟩, []) fun e y => (e = none ∨ e = some none) ∧ resS T.P F y.1 y.2.1 = some v) (w : World) :
    Calls T.P f vals.toArray w fun e w' => e = .returned v ∧ Tidy w w' := by
  have E : Emb (fun b => (b, 0)) w.heap.size ⟨0, []⟩ w :=
    Emb.none w
  have hst : ∀ y ∈ vals, lt 0 y = true := List.all_eq_true.1 hvals
  have e0 : vals.map (mv fun b => (b, 0)) = vals := (List.map_congr_left fun y hy => mv_still (hst y hy)).trans (List.map_id' _)
  refine calls_of_wp hF hc ?_
  have R : Rel (fun b => (b, 0)) w.heap.size (vals ++ List.replicate (F.ntmps - vals.length) undef, ⟨0, []⟩, []) { tmps := vals.toArray ++ Array.replicate (F.ntmps - vals.toArray.size) undef, defers := [] } w := by
    refine ⟨?_, rfl, E, ?_⟩
    · simp [mv_undef, e0]
    · intro y hy
      rcases List.mem_append.1 hy with hy | hy
      · exact hst y hy
      · rw [List.eq_of_mem_replicate hy]; simp [undef, lt]
  refine h _ _ _ w R _ fun e y he a' w' hR => ?_
  obtain ⟨hex, hres⟩ := he
  obtain ⟨m', k1, k2, k3, k4⟩ := hR
  obtain ⟨r1, r2⟩ := resS_run k2.emb k2.wf hres
  rw [← k2.tmps, mv_still hv] at r1
  have post : a'.defers = [] ∧ ∃ v', (results F a'.tmps).run T.P w' = .ok v' w' ∧ (Ending.returned v' = .returned v ∧ Tidy w w') :=
    ⟨k2.dfr, _, r1, rfl, k3, fun k h1 h2 => k2.emb.ice k h1 h2⟩
  rcases hex with rfl | rfl <;> exact post
/-! ### the pieces of a piece of code -/
def cFst : Code → Code
  | .seq a _ => a
  | c => c
def cSnd : Code → Code
  | .seq _ b => b
  | c => c
def cIn : Code → Code
  | .block _ c => c
  | .loop c => c
  | .scope c => c
  | c => c
def cBody (F : Func) : Code := F.body.getD .skip
/-- pieces one behind the other, ahead of the rest -/
def seqs : List Code → Code → Code
  | [], X => X
  | c :: cs, X => .seq c (seqs cs X)
def evL (T : Tab) (n : Nat) : List Code → Lf → Lg → Option (Ex × Lf × Lg)
  | [], x, L => some (none, x, L)
  | c :: cs, x, L =>
    match evC T n false c x L with
    | some (none, x', L') => evL T n cs x' L'
    | _ => none
theorem evL_ok {T : Tab} (hT : TabOk T) {n : Nat} {X : Code} {P : Ex → Lf → Prop} : ∀ (cs : List Code) (x x' : Lf) (L L' : Lg) (e : Ex), evL T n cs x L = some (e, x', L') → L'.ok → L.ok ∧ e = none ∧ (Runs T X x' P → Runs T (seqs cs X) x P)
  | [], x, x', L, L', e, h, hL => by
    simp only [evL] at h
    cases h
    exact ⟨hL, rfl, id⟩
  | c :: cs, x, x', L, L', e, h, hL => by
    simp only [evL] at h
    split at h
    · rename_i x1 L1 h1
      obtain ⟨g1, g2, g3⟩ := evL_ok hT cs x1 x' L1 L' e h hL
      obtain ⟨g4, g5⟩ := (evC_ok hT n).1 _ _ _ _ _ _ h1 g1
      refine ⟨g4, g2, fun hX m B a w R Q hQ => wp_seq (g5 m B a w R _ fun a' w' hR => ?_)⟩
      obtain ⟨m', k1, k2, k3, k4⟩ := hR
      exact g3 hX m' B a' w' k2 Q fun e' y' he' a'' w'' hR' => hQ e' y' he' a'' w'' (Reach.trans k1 k3 k4 hR')
    · cases h
/-- temporaries of which nothing is known but how many they are -/
def tl (n : Nat) (g : Nat → Value) : List Value := (List.range n).map g
theorem tl_of {J : List Value} {n : Nat} (h : J.length = n) : ∃ g, J = tl n g := by
  refine ⟨fun i => J.getD i undef, ?_⟩
  unfold tl
  refine List.ext_getElem (by simp [h]) fun i h1 h2 => ?_
  simp [h1]
/-- What is to be reckoned of a piece of code: how it ends, the first k temporaries and how many more there are, the memory, what was decided. -/
def GoesT (r : Option (Ex × Lf × Lg)) (k n : Nat) (e : Ex) (front : List Value) (h : Hp) (cs : Log) : Prop :=
  r.map (fun r => (r.1, r.2.1.1.take k, (r.2.1.1.drop k).length, r.2.1.2.1, r.2.2.cs)) = some (e, front, n, h, cs) ∧
    r.map (fun r => r.2.2.es.map Prod.fst) = r.map (fun r => r.2.2.es.map Prod.snd) ∧ r.map (fun r => r.2.2.bs.map Prod.fst) = r.map (fun r => r.2.2.bs.map Prod.snd)
theorem goesT_some {r : Option (Ex × Lf × Lg)} {k n : Nat} {e : Ex} {front : List Value} {h : Hp} {cs : Log} (hG : GoesT r k n e front h cs) (hcs : okLog cs) : ∃ g s L, r = some (e, (front ++ tl n g, h, s), L) ∧ L.ok := by
  obtain ⟨h1, h5, h6⟩ := hG
  cases r with
  | none => cases h1
  | some r =>
    simp only [Option.map_some, Option.some.injEq, Prod.mk.injEq] at h1 h5 h6
    obtain ⟨e', ⟨t', h', s'⟩, L⟩ := r
    simp only at h1 h5 h6
    obtain ⟨h1, h2, h3, h4, h7⟩ := h1
    subst h1 h4
    obtain ⟨g, hg⟩ := tl_of h3
    refine ⟨g, s', L, ?_, by rw [h7]; exact hcs, all_eq _ h5, all_eq _ h6⟩
    rw [← h2, ← hg, List.take_append_drop]
theorem goesT_runs {T : Tab} (hT : TabOk T) {N : Nat} {c : Code} {t : List Value} {h h' : Hp} {s s0 : List Dec} {k n : Nat} {e : Ex} {front : List Value} {cs : Log} (hG : GoesT (evC T N false c (t, h, s) ⟨[], [], []⟩) k n e front h' cs) (hcs : okLog cs) :
    Runs T c (t, h, s0) fun e' y => e' = e ∧ (∃ g, y.1 = front ++ tl n g) ∧ y.2.1 = h' := by
  obtain ⟨g, s', L, hr, hL⟩ := goesT_some hG hcs
  refine Runs.script ((Runs.ev hT hr hL).mono fun e2 y he => ?_)
  obtain ⟨rfl, rfl⟩ := he
  exact ⟨rfl, ⟨g, rfl⟩, rfl⟩
theorem goesT_list {T : Tab} (hT : TabOk T) {N : Nat} {l : List Code} {X : Code} {t : List Value} {h h' : Hp} {s s0 : List Dec} {k n : Nat} {e : Ex} {front : List Value} {cs : Log} {P : Ex → Lf → Prop} (hG : GoesT (evL T N l (t, h, s) ⟨[], [], []⟩) k n e front h' cs) (hcs : okLog cs)
    (hX : ∀ g, Runs T X (front ++ tl n g, h', []) P) : Runs T (seqs l X) (t, h, s0) P := by
  obtain ⟨g, s', L, hr, hL⟩ := goesT_some hG hcs
  obtain ⟨_, _, h3⟩ := evL_ok (X := X) (P := P) hT l _ _ _ _ _ hr hL
  exact Runs.script (h3 (Runs.script (hX g)))
/-- a 'for': what stands ahead of it, and its rounds -/
theorem Runs.forLoop {T : Tab} {c : Code} {id : Nat} {x : Lf} {P : Lf → Prop} {R : Lf → Prop} (Inv : Nat → Lf → Prop)
    (round : ∀ n x, Inv n x → Runs T c x fun e y => match e with | none => ∃ n', n' < n ∧ Inv n' y | some none => R y | some (some id') => id' = id ∧ P y) {n : Nat} (h0 : Inv n x) :
    Runs T (.block id (.loop c)) x fun e y => match e with | none => P y | some none => R y | some (some _) => False := by
  refine Runs.block (P1 := fun e y => match e with | none => False | some none => R y | some (some id') => id' = id ∧ P y) ?_ (fun y he => he.elim) (fun y he => he) (fun y he => he.2) (fun id' y hid he => absurd he.1 hid)
  refine Runs.loop Inv (fun n x hI => (round n x hI).mono fun e y he => ?_) h0
  match e, he with
  | none, he => exact he
  | some none, he => exact he
  | some (some id'), he => exact he
def RunsW (T : Tab) (c : Code) (x : Lf) (Post : Ex → Lf → Prop) : Prop :=
  ∀ m B a w, Rel m B x a w → ∀ Q : Exit → Act → World → Prop, (∀ e y, Post e y → ∀ m' a' w', Rel m' B y a' w' → Below B w w' → Q (out e) a' w') → c.wp T.P Q a w
theorem Runs.w {T : Tab} {c : Code} {x : Lf} {P : Ex → Lf → Prop} (h : Runs T c x P) : RunsW T c x P := fun m B a w R Q hQ => h m B a w R Q fun e y he a' w' hR => by
  obtain ⟨m', _, k2, k3, _⟩ := hR
  exact hQ e y he m' a' w' k2 k3
/-- the state behind it told otherwise -/
theorem RunsW.post {T : Tab} {c : Code} {x : Lf} {P P' : Ex → Lf → Prop} (h : RunsW T c x P) (hp : ∀ e y, P e y → ∃ y', P' e y' ∧ ∀ m B a w, Rel m B y a w → ∃ m', Rel m' B y' a w) : RunsW T c x P' :=
  fun m B a w R Q hQ => h m B a w R Q fun e y he m' a' w' hR hb => by
    obtain ⟨y', h1, h2⟩ := hp e y he
    obtain ⟨m2, h3⟩ := h2 m' B a' w' hR
    exact hQ e y' h1 m2 a' w' h3 hb
theorem RunsW.mono {T : Tab} {c : Code} {x : Lf} {P P' : Ex → Lf → Prop} (h : RunsW T c x P) (hp : ∀ e y, P e y → P' e y) : RunsW T c x P' := h.post fun e y he => ⟨y, hp e y he, fun m _ _ _ R => ⟨m, R⟩⟩
theorem RunsW.seq {T : Tab} {c1 c2 : Code} {x : Lf} {P1 P : Ex → Lf → Prop} (h1 : RunsW T c1 x P1) (h2 : ∀ y, P1 none y → RunsW T c2 y P) (h3 : ∀ e y, P1 (some e) y → P (some e) y) : RunsW T (.seq c1 c2) x P := by
  intro m B a w R Q hQ
  refine wp_seq (h1 m B a w R _ fun e y he m' a' w' hR hb => ?_)
  match e, he with
  | none, he => exact h2 y he m' B a' w' hR Q fun e' y' he' m'' a'' w'' hR' hb' => hQ e' y' he' m'' a'' w'' hR' (hb.trans hb')
  | some none, he => exact hQ _ _ (h3 none y he) m' a' w' hR hb
  | some (some id), he => exact hQ _ _ (h3 (some id) y he) m' a' w' hR hb
theorem RunsW.block {T : Tab} {c : Code} {id : Nat} {x : Lf} {P1 P : Ex → Lf → Prop} (h1 : RunsW T c x P1) (h2 : ∀ y, P1 none y → P none y) (h3 : ∀ y, P1 (some none) y → P (some none) y)
    (h4 : ∀ y, P1 (some (some id)) y → P none y) (h5 : ∀ id' y, id' ≠ id → P1 (some (some id')) y → P (some (some id')) y) : RunsW T (.block id c) x P := by
  intro m B a w R Q hQ
  refine wp_block (h1 m B a w R _ fun e y he m' a' w' hR hb => ?_)
  match e, he with
  | none, he => exact hQ _ _ (h2 y he) m' a' w' hR hb
  | some none, he => exact hQ _ _ (h3 y he) m' a' w' hR hb
  | some (some id'), he =>
    simp only [out, Exit.inBlock]
    by_cases hid : id' = id
    · subst hid
      rw [if_pos rfl]
      exact hQ _ _ (h4 y he) m' a' w' hR hb
    · rw [if_neg hid]
      exact hQ _ _ (h5 id' y hid he) m' a' w' hR hb
theorem RunsW.loop {T : Tab} {c : Code} {P : Ex → Lf → Prop} (Inv : Nat → Lf → Prop) (round : ∀ n x, Inv n x → RunsW T c x fun e y => match e with | none => ∃ n', n' < n ∧ Inv n' y | some e => P (some e) y) {n : Nat} {x : Lf} (h0 : Inv n x) :
    RunsW T (.loop c) x P := by
  have key : ∀ N n x, n < N → Inv n x → ∀ m B a w, Rel m B x a w → ∀ Q : Exit → Act → World → Prop, (∀ e y, P e y → ∀ m' a' w', Rel m' B y a' w' → Below B w w' → Q (out e) a' w') → Code.rounds T.P c Q N a w := by
    intro N
    induction N with
    | zero => intro n x hn; omega
    | succ N ih =>
      intro n x hn hI m B a w R Q hQ
      rw [rounds_succ]
      refine round n x hI m B a w R _ fun e y he m' a' w' hR hb => ?_
      match e, he with
      | none, he =>
        obtain ⟨n', hn', hI'⟩ := he
        exact ih n' y (by omega) hI' m' B a' w' hR Q fun e' y' he' m'' a'' w'' hR' hb' => hQ e' y' he' m'' a'' w'' hR' (hb.trans hb')
      | some none, he => exact hQ _ _ he m' a' w' hR hb
      | some (some id), he => exact hQ _ _ he m' a' w' hR hb
  intro m B a w R Q hQ
  exact wp_loop_rounds (n + 1) (key (n + 1) n x (by omega) h0 m B a w R Q hQ)
theorem RunsW.script {T : Tab} {c : Code} {t : List Value} {h : Hp} {s s' : List Dec} {P : Ex → Lf → Prop} (hr : RunsW T c (t, h, s) P) : RunsW T c (t, h, s') P :=
  fun m B a w R Q hQ => hr m B a w ⟨R.tmps, R.dfr, R.emb, R.wf⟩ Q hQ
theorem goesT_listW {T : Tab} (hT : TabOk T) {N : Nat} {l : List Code} {X : Code} {t : List Value} {h h' : Hp} {s s0 : List Dec} {k n : Nat} {e : Ex} {front : List Value} {cs : Log} {P : Ex → Lf → Prop} (hG : GoesT (evL T N l (t, h, s) ⟨[], [], []⟩) k n e front h' cs) (hcs : okLog cs)
    (hX : ∀ g, RunsW T X (front ++ tl n g, h', []) P) : RunsW T (seqs l X) (t, h, s0) P := by
  obtain ⟨g, s', L, hr, hL⟩ := goesT_some hG hcs
  have key : ∀ (cs : List Code) (x x' : Lf) (L L' : Lg) (e : Ex), evL T N cs x L = some (e, x', L') → L'.ok → L.ok ∧ (RunsW T X x' P → RunsW T (seqs cs X) x P) := by
    intro cs
    induction cs with
    | nil =>
      intro x x' L L' e h hL
      simp only [evL] at h
      cases h
      exact ⟨hL, id⟩
    | cons c cs ih =>
      intro x x' L L' e h hL
      simp only [evL] at h
      split at h
      · rename_i x1 L1 h1
        obtain ⟨g1, g3⟩ := ih x1 x' L1 L' e h hL
        obtain ⟨g4, g5⟩ := (evC_ok hT N).1 _ _ _ _ _ _ h1 g1
        refine ⟨g4, fun hX m B a w R Q hQ => wp_seq (g5 m B a w R _ fun a' w' hR => ?_)⟩
        obtain ⟨m', _, k2, k3, _⟩ := hR
        exact g3 hX m' B a' w' k2 Q fun e' y' he' m'' a'' w'' hR' hb' => hQ e' y' he' m'' a'' w'' hR' (k3.trans hb')
      · cases h
  have r := (key l _ _ _ _ _ hr hL).2 (RunsW.script (hX g))
  exact RunsW.script r
/-! ### values that point into some blocks alone -/
def oc1 (bs : List Nat) : Value → Bool
  | .pointer (some a) => bs.contains a.block
  | .slice (some a) _ _ => bs.contains a.block
  | .map (some b) => bs.contains b
  | .iface t _ => !(Nat.beq t dead)
  | _ => true
def oc2 (bs : List Nat) : Value → Bool
  | .agg cs => cs.toList.all (oc1 bs)
  | v => oc1 bs v
def oc (bs : List Nat) : Value → Bool
  | .tuple vs => vs.toList.all (oc2 bs)
  | v => oc2 bs v
theorem mv1_on {m m' : Mp} {bs : List Nat} (h : ∀ b ∈ bs, m b = m' b) {v : Value} (hv : oc1 bs v = true) : mv1 m v = mv1 m' v := by
  unfold mv1
  split
  · simp only [oc1, List.contains_iff_mem] at hv; simp [mvA, h _ hv]
  · simp only [oc1, List.contains_iff_mem] at hv; simp [mvA, h _ hv]
  · simp only [oc1, List.contains_iff_mem] at hv; simp [h _ hv]
  · rfl
  · rfl
theorem mv2_on {m m' : Mp} {bs : List Nat} (h : ∀ b ∈ bs, m b = m' b) {v : Value} (hv : oc2 bs v = true) : mv2 m v = mv2 m' v := by
  unfold mv2
  split
  · rename_i cs
    simp only [oc2, List.all_eq_true] at hv
    congr 1
    exact Array.map_congr_left fun x hx => mv1_on h (hv x (by simpa using hx))
  · rename_i hna
    refine mv1_on h ?_
    unfold oc2 at hv
    split at hv
    · rename_i cs; exact absurd rfl (hna cs)
    · exact hv
theorem mv_on {m m' : Mp} {bs : List Nat} (h : ∀ b ∈ bs, m b = m' b) {v : Value} (hv : oc bs v = true) : mv m v = mv m' v := by
  unfold mv
  split
  · rename_i vs
    simp only [oc, List.all_eq_true] at hv
    congr 1
    exact Array.map_congr_left fun x hx => mv2_on h (hv x (by simpa using hx))
  · rename_i hna
    refine mv2_on h ?_
    unfold oc at hv
    split at hv
    · rename_i cs; exact absurd rfl (hna cs)
    · exact hv
theorem oc_ren {bs : List Nat} {f : Nat → Nat} {n : Nat} (hf : ∀ b ∈ bs, f b < n) {v : Value} (hv : oc bs v = true) : lt n (rn f v) = true := by
  have h1 : ∀ v, oc1 bs v = true → lt1 n (rn1 f v) = true := fun v h => by
    cases v with
    | pointer a =>
      cases a with
      | none => rfl
      | some a => simp only [oc1, List.contains_iff_mem] at h; exact blt_iff.2 (hf _ h)
    | map a =>
      cases a with
      | none => rfl
      | some a => simp only [oc1, List.contains_iff_mem] at h; exact blt_iff.2 (hf _ h)
    | slice a l c =>
      cases a with
      | none => rfl
      | some a => simp only [oc1, List.contains_iff_mem] at h; exact blt_iff.2 (hf _ h)
    | iface t u => simp only [oc1, Bool.not_eq_true'] at h; simp [rn1, lt1, h]
    | _ => rfl
  have h2 : ∀ v, oc2 bs v = true → lt2 n (rn2 f v) = true := fun v h => by
    cases v with
    | agg cs =>
      simp only [oc2, lt2, rn2, Array.toList_map, List.all_eq_true, List.mem_map] at *
      rintro _ ⟨y, hy, rfl⟩
      exact h1 y (h y hy)
    | pointer a =>
      cases a with
      | none => rfl
      | some a => exact h1 (.pointer (some a)) h
    | map a =>
      cases a with
      | none => rfl
      | some a => exact h1 (.map (some a)) h
    | slice a l c =>
      cases a with
      | none => rfl
      | some a => exact h1 (.slice (some a) l c) h
    | iface t u => exact h1 (.iface t u) h
    | _ => rfl
  cases v with
  | tuple cs =>
    simp only [oc, lt, rn, Array.toList_map, List.all_eq_true, List.mem_map] at *
    rintro _ ⟨y, hy, rfl⟩
    exact h2 y (hv y hy)
  | agg cs => exact h2 (.agg cs) hv
  | pointer a =>
    cases a with
    | none => rfl
    | some a => exact h1 (.pointer (some a)) hv
  | map a =>
    cases a with
    | none => rfl
    | some a => exact h1 (.map (some a)) hv
  | slice a l c =>
    cases a with
    | none => rfl
    | some a => exact h1 (.slice (some a) l c) hv
  | iface t u => exact h1 (.iface t u) hv
  | _ => rfl
/-! ### the smallest memory -/
/-- rows that are only read, no address in them -/
def Hp.rows (h : Hp) : Prop := h.l.length = h.n ∧ ∀ b x, h.blk? b = some x → ro x.2 = true ∧ (∀ v ∈ x.1, still v = true) ∧ ab x.2 = false
/-- these rows are there: block i's cells are the first of block s i's -/
def Hp.fits (h0 : Hp) (s : Nat → Nat) (h : Hp) : Prop := ∀ i x, h0.blk? i = some x → tomb x.2 = false → ∃ y r, h.blk? (s i) = some y ∧ tomb y.2 = false ∧ rt y.2 = rt x.2 ∧ y.1 = x.1 ++ r
theorem Emb.small {m : Mp} {B : Nat} {h h0 : Hp} {w : World} {s : Nat → Nat} (E : Emb m B h w) (hr : h0.rows) (hf : h0.fits s h) : Emb (fun i => m (s i)) w.heap.size h0 w where
  len := hr.1
  lies := fun b x hb hx => by
    obtain ⟨y, r, h1, h2, h3, h4⟩ := hf b x hb hx
    obtain ⟨r', z, l0, l1, _⟩ := E.lies _ _ h1 h2
    have calm := (hr.2 b x hb).2.1
    have e : x.1.map (mv1 m) = x.1.map (mv1 fun i => m (s i)) := still_map calm
    rw [h4, List.map_append] at l0 l1
    refine ⟨r.map (mv1 m) ++ r', z, ?_, ?_, fun hro => ?_⟩
    · simp at l0 ⊢; omega
    · rw [← e, l1, List.append_assoc]
    · rw [(hr.2 b x hb).1] at hro; cases hro
  low := fun b x hb hro => by rw [(hr.2 b x hb).1] at hro; cases hro
  ros := fun b x hb hx _ => by
    obtain ⟨y, r, h1, h2, _, _⟩ := hf b x hb hx
    exact E.here h1 h2
  inj := fun b b' x x' hb _ hro => by rw [(hr.2 b x hb).1] at hro; cases hro
  wf := fun b x hb v hv => still_lt (Nat.lt_of_le_of_lt (Nat.zero_le _) (Hp.blk_lt hb)) ((hr.2 b x hb).2.1 v hv)
  base := Nat.le_refl _
  ice := fun k h1 h2 => by omega
  abs := fun b x hb hx => by rw [(hr.2 b x hb).2.2] at hx; cases hx
/-- behind such a call: the value in the caller's numbers; no block of the call's own is kept -/
theorem row_calls {T : Tab} {f : Nat} {F : Func} {c : Code} (hF : T.P.funcs[f]? = some F) (hc : F.body = some c) {h0 : Hp} (hr : h0.rows) {vals : List Value} (hvals : ∀ v ∈ vals, lt h0.n v = true) {v : Value} (hv : oc (List.range h0.n) v = true)
    (hrun : Runs T c (vals ++ List.replicate (F.ntmps - vals.length) undef, h0, []) fun e y => (e = none ∨ e = some none) ∧ resS T.P F y.1 y.2.1 = some v)
    {m : Mp} {B : Nat} {h : Hp} {w : World} (E : Emb m B h w) {s : Nat → Nat} (hs : ∀ i, i < h0.n → s i < h.n) (hf : h0.fits s h) :
    Calls T.P f ((vals.map (rn s)).map (mv m)).toArray w fun e w' => e = .returned (mv m (rn s v)) ∧ Came m B h w (rn s v) h m w' := by
  have E0 := E.small hr hf
  have ev : (vals.map (rn s)).map (mv m) = vals.map (mv fun i => m (s i)) := by
    rw [List.map_map]
    exact List.map_congr_left fun y _ => mv_rn m s y
  rw [ev]
  refine calls_of_wp hF hc ?_
  have R : Rel (fun i => m (s i)) w.heap.size (vals ++ List.replicate (F.ntmps - vals.length) undef, h0, []) { tmps := (vals.map (mv fun i => m (s i))).toArray ++ Array.replicate (F.ntmps - (vals.map (mv fun i => m (s i))).toArray.size) undef, defers := [] } w := by
    refine ⟨?_, rfl, E0, ?_⟩
    · simp [mv_undef]
    · intro y hy
      rcases List.mem_append.1 hy with hy | hy
      · exact hvals y hy
      · rw [List.eq_of_mem_replicate hy]; simp [undef, lt]
  refine hrun _ _ _ w R _ fun e y he a' w' hR => ?_
  obtain ⟨hex, hres⟩ := he
  obtain ⟨m1, k1, k2, k3, _⟩ := hR
  obtain ⟨r1, r2⟩ := resS_run k2.emb k2.wf hres
  rw [← k2.tmps] at r1
  have e1 : mv m1 v = mv m (rn s v) := by
    rw [mv_rn]
    exact mv_on (fun b hb => k1 b (by simpa using hb)) hv
  rw [e1] at r1
  have td : Tidy w w' := ⟨k3, fun k h1 h2 => k2.emb.ice k h1 h2⟩
  obtain ⟨E', hb⟩ := clean_emb E td
  have post : a'.defers = [] ∧ ∃ v', (results F a'.tmps).run T.P w' = .ok v' w' ∧ (Ending.returned v' = .returned (mv m (rn s v)) ∧ Came m B h w (rn s v) h m w') :=
    ⟨k2.dfr, _, r1, rfl, ⟨Agree.refl _ _, E', hb, Nat.le_refl _, oc_ren (fun b hb => hs b (by simpa using hb)) hv⟩⟩
  rcases hex with rfl | rfl <;> exact post
/-- the same, where one block of the call's own is kept: 'k' in the small memory, the next one in the caller's -/
theorem row_calls1 {T : Tab} {f : Nat} {F : Func} {c : Code} (hF : T.P.funcs[f]? = some F) (hc : F.body = some c) {h0 : Hp} (hr : h0.rows) {vals : List Value} (hvals : ∀ v ∈ vals, lt h0.n v = true) {v : Value} {k : Nat}
    {cs : List Value} {ty : TypeId} (hcs : ∀ u ∈ cs, lt1 0 u = true) (hty : ro ty = false)
    (hrun : RunsW T c (vals ++ List.replicate (F.ntmps - vals.length) undef, h0, []) fun e y => (e = none ∨ e = some none) ∧ resS T.P F y.1 y.2.1 = some v ∧ ∃ r, y.2.1.blk? k = some (cs ++ r, ty))
    (hv0 : oc [k] v = true)
    {m : Mp} {B : Nat} {h : Hp} {w : World} (E : Emb m B h w) {s : Nat → Nat} (hf : h0.fits s h) :
    Calls T.P f ((vals.map (rn s)).map (mv m)).toArray w fun e w' => ∃ m', e = .returned (mv m' (rn (fun _ => h.n) v)) ∧ Came m B h w (rn (fun _ => h.n) v) (h.push cs ty) m' w' := by
  have E0 := E.small hr hf
  have ev : (vals.map (rn s)).map (mv m) = vals.map (mv fun i => m (s i)) := by
    rw [List.map_map]
    exact List.map_congr_left fun y _ => mv_rn m s y
  rw [ev]
  refine calls_of_wp hF hc ?_
  have R : Rel (fun i => m (s i)) w.heap.size (vals ++ List.replicate (F.ntmps - vals.length) undef, h0, []) { tmps := (vals.map (mv fun i => m (s i))).toArray ++ Array.replicate (F.ntmps - (vals.map (mv fun i => m (s i))).toArray.size) undef, defers := [] } w := by
    refine ⟨?_, rfl, E0, ?_⟩
    · simp [mv_undef]
    · intro y hy
      rcases List.mem_append.1 hy with hy | hy
      · exact hvals y hy
      · rw [List.eq_of_mem_replicate hy]; simp [undef, lt]
  refine hrun _ _ _ w R _ fun e y he m1 a' w' k2 k3 => ?_
  obtain ⟨hex, hres, r, hblk⟩ := he
  obtain ⟨r1, r2⟩ := resS_run k2.emb k2.wf hres
  rw [← k2.tmps] at r1
  have td : Tidy w w' := ⟨k3, fun k h1 h2 => k2.emb.ice k h1 h2⟩
  obtain ⟨E', hb⟩ := clean_emb E td
  have hlow : w.heap.size ≤ (m1 k).1 := k2.emb.low k _ hblk hty
  have hlie : lie w' (m1 k) (cs.map (mv1 m)) ty := by
    obtain ⟨r', z, l0, l1, l2⟩ := k2.emb.lies k _ hblk (tomb_ro hty)
    have e : cs.map (mv1 m1) = cs.map (mv1 m) := map_still hcs
    simp only [List.map_append] at l0 l1
    refine ⟨r.map (mv1 m1) ++ r', z, ?_, ?_, l2⟩
    · simp at l0 ⊢; omega
    · rw [← e, l1, List.append_assoc]
  have Ea := E'.adopt cs ty hty (fun u hu => lt1_mono (Nat.zero_le _) (hcs u hu)) hlie (Nat.le_trans E.base hlow) (fun b x hbx hx heq => by
    have := E.here hbx (tomb_ro hx)
    omega) (fun b x hbx hx hf => by
    have := E.at_ hbx hx hf
    omega)
  have e1 : mv m1 v = mv (upd m h.n (m1 k)) (rn (fun _ => h.n) v) := by
    rw [mv_rn]
    refine mv_on (fun b hb => ?_) hv0
    rw [List.mem_singleton.1 hb]
    simp [upd]
  rw [e1] at r1
  have post : a'.defers = [] ∧ ∃ v', (results F a'.tmps).run T.P w' = .ok v' w' ∧ ∃ m', Ending.returned v' = .returned (mv m' (rn (fun _ => h.n) v)) ∧ Came m B h w (rn (fun _ => h.n) v) (h.push cs ty) m' w' :=
    ⟨k2.dfr, _, r1, upd m h.n (m1 k), rfl, ⟨upd_agree _ _ _, Ea, hb, Nat.le_succ _, oc_ren (bs := [k]) (fun b hb => by show h.n < h.n + 1; omega) hv0⟩⟩
  rcases hex with rfl | rfl <;> exact post
end Go.KRun
namespace Go.Proofs.Ytekebccjflilnaa
open Go.KRun
set_option maxRecDepth 100000
theorem okOne {p : Bool × Bool} (h : p.1 = p.2) : okLog [p] := fun x hx => by rw [List.mem_singleton.1 hx]; exact h
theorem okTwo {p : Bool × Bool} {l : Log} (h : p.1 = p.2) (hl : okLog l) : okLog (p :: l) := fun x hx => by
  rcases List.mem_cons.1 hx with rfl | hx
  · exact h
  · exact hl x hx
theorem wrapI {n : Int} (h0 : -9223372036854775808 ≤ n) (h1 : n ≤ 9223372036854775807) : IntKind.i64.wrap n = n := by
  simp [IntKind.wrap, IntKind.bits, IntKind.signed]; omega
/-! ### what is known of calls with rows -/
abbrev Hc := Nat → List Value → Hp → List Dec → Option (Value × Hp × List Dec × Log)
abbrev AnsH := List Value → Hp → List Dec → Option (Value × Hp × List Dec × Log)
def AnsHOk (f : Nat) (g : AnsH) : Prop := ∀ vals h s v h' s' lg, g vals h s = some (v, h', s', lg) → okLog lg → ∀ m B w, Emb m B h w → (∀ v ∈ vals, lt h.n v = true) → Calls Try.prog f (vals.map (mv m)).toArray w fun e w' => ∃ m', e = .returned (mv m' v) ∧ Came m B h w v h' m' w'
structure HcOk (hc : Hc) : Prop where
  fn : ∀ f vals h s r, hc f vals h s = some r → ∃ F, Try.prog.funcs[f]? = some F ∧ F.body.isSome = true
  calls : ∀ f, AnsHOk f (hc f)
def hcN : Hc := fun _ _ _ _ => none
theorem hcN_ok : HcOk hcN := ⟨fun _ _ _ _ _ h => (by cases h), fun _ _ _ _ _ _ _ _ h => (by cases h)⟩
def altH (f : Nat) (g : AnsH) (hc : Hc) : Hc := fun f' vals h s => if Nat.beq f' f = true then g vals h s else hc f' vals h s
theorem altH_ok {f : Nat} {F : Func} (hF : Try.prog.funcs[f]? = some F) (hb : F.body.isSome = true) {g : AnsH} (hg : AnsHOk f g) {hc : Hc} (h : HcOk hc) : HcOk (altH f g hc) where
  fn := fun f' vals h' s r hr => by
    unfold altH at hr
    split at hr
    · rename_i e
      rw [Nat.eq_of_beq_eq_true e]
      exact ⟨F, hF, hb⟩
    · exact h.fn _ _ _ _ _ hr
  calls := fun f' vals h' s v h'' s' lg hr => by
    unfold altH at hr
    split at hr
    · rename_i e
      rw [Nat.eq_of_beq_eq_true e]
      exact hg _ _ _ _ _ _ _ hr
    · exact h.calls f' _ _ _ _ _ _ _ hr
def tabH (P : Program) (ext : Nat → List Value → Option (Value × Log)) (con : Con) (hc : Hc) : Tab := { P := P, fn := fun f => P.funcs[f]?, ext := ext, con := con, sym := true, hc := hc }
theorem tabH_ok {con : Con} (h : ConOk con) {hc : Hc} (hh : HcOk hc) : TabOk (tabH Try.prog extY con hc) where
  mixed := mixed
  ext := extY_ok
  con := fun f vals s v s' lg hc hl => ⟨by obtain ⟨F, h1, h2⟩ := h.fn f vals s v s' lg hc; exact ⟨F, (fns_ok f F h1).1, (fns_ok f F h1).2, h2⟩, h.calls f vals s v s' lg hc hl⟩
  fn := fns_ok
  hc := fun f vals h0 s v h' s' lg hr hl => ⟨by obtain ⟨F, h1, h2⟩ := hh.fn f vals h0 s _ hr; exact ⟨F, (fns_ok f F h1).1, (fns_ok f F h1).2, h2⟩, hh.calls f vals h0 s v h' s' lg hr hl⟩
end Go.Proofs.Ytekebccjflilnaa
namespace Go.Proofs.Ytekebccjflilnaa
open Go.KRun Go.Nt
set_option maxRecDepth 100000
/-- words of 32 bits; the type of such a row's block, only read -/
def wU (L : List Int) : List Value := L.map (Value.int .u32)
def tU : TypeId := 120
def tR : TypeId := 120 + dead
theorem tR_ro : ro tR = true := by kernel_rfl
theorem tR_ab : ab tR = false := by kernel_rfl
theorem tR_tomb : tomb tR = false := by kernel_rfl
theorem tR_rt : rt tR = tU := by kernel_rfl
def sl (b o n c : Nat) : Value := .slice (some ⟨b, o, none⟩) n c
def nilS : Value := .slice none 0 0
def n1 (n : Nat) : Int := IntKind.i64.wrap ((n : Int) - 1)
/-! ### rows of words in a memory -/
def intOf : Value → Int
  | .int _ n => n
  | _ => 0
def isU : Value → Bool
  | .int .u32 n => decide (0 ≤ n ∧ n < 4294967296)
  | _ => false
theorem isU_spec {v : Value} (h : isU v = true) : v = .int .u32 (intOf v) ∧ 0 ≤ intOf v ∧ intOf v < 4294967296 := by
  unfold isU at h
  split at h
  · simp only [decide_eq_true_eq] at h
    exact ⟨rfl, h.1, h.2⟩
  · cases h
def cutV (l : List Value) (o n : Nat) : List Value := (l.drop o).take n
def cutI (l : List Value) (o n : Nat) : List Int := (cutV l o n).map intOf
theorem cutV_words {l : List Value} {o n : Nat} (h : ((cutV l o n).all isU) = true) : cutV l o n = wU (cutI l o n) := by
  unfold wU cutI
  rw [List.map_map]
  refine (List.map_id' _).symm.trans (List.map_congr_left fun v hv => ?_)
  exact (isU_spec (List.all_eq_true.1 h v hv)).1
/-- what is needed of a row in the smallest memory -/
structure Row (l : List Value) (o : Nat) (L : List Int) : Prop where
  len : o + L.length ≤ l.length
  cut : cutV l o L.length = wU L
  rng : ∀ x ∈ L, 0 ≤ x ∧ x < 4294967296
theorem Row.cell {l : List Value} {o : Nat} {L : List Int} (h : Row l o L) {k : Nat} (hk : k < L.length) : l[o + k]? = some (.int .u32 (L.getD k 0)) := by
  have e : (cutV l o L.length)[k]? = (wU L)[k]? := by rw [h.cut]
  unfold cutV wU at e
  rw [List.getElem?_take, if_pos hk, List.getElem?_drop, List.getElem?_map] at e
  rw [e, List.getElem?_eq_getElem hk]
  simp [List.getD, List.getElem?_eq_getElem hk]
/-- one row, the smallest memory -/
theorem rows1 {l : List Value} (h : ∀ v ∈ l, still v = true) : (⟨1, [(l, tR)]⟩ : Hp).rows := by
  refine ⟨rfl, fun b x hb => ?_⟩
  have hb0 : b = 0 := by have : b < 1 := Hp.blk_lt hb; omega
  subst hb0
  have : x = (l, tR) := (Option.some.inj hb).symm
  rw [this]
  exact ⟨tR_ro, h, tR_ab⟩
theorem fitsR1 {l : List Value} {h : Hp} {b : Nat} {x : List Value × TypeId} (hb : h.blk? b = some x) (h1 : tomb x.2 = false) (h2 : rt x.2 = tU) (e : x.1 = l) : (⟨1, [(l, tR)]⟩ : Hp).fits (fun _ => b) h := by
  intro i y hi _
  have hb0 : i = 0 := by have : i < 1 := Hp.blk_lt hi; omega
  subst hb0
  have : y = (l, tR) := (Option.some.inj hi).symm
  rw [this]
  exact ⟨x, [], hb, h1, by rw [h2]; exact tR_rt.symm, by rw [e, List.append_nil]⟩
/-- two rows -/
def h2 (la lb : List Value) : Hp := ⟨2, [(lb, tR), (la, tR)]⟩
def pair (a b i : Nat) : Nat := if Nat.beq i 0 = true then a else b
theorem blk2 {la lb : List Value} {i : Nat} {x : List Value × TypeId} (h : (h2 la lb).blk? i = some x) : (i = 0 ∧ x = (la, tR)) ∨ (i = 1 ∧ x = (lb, tR)) := by
  have : i < 2 := Hp.blk_lt h
  have : i = 0 ∨ i = 1 := by omega
  rcases this with rfl | rfl
  · exact .inl ⟨rfl, (Option.some.inj h).symm⟩
  · exact .inr ⟨rfl, (Option.some.inj h).symm⟩
theorem rows2 {la lb : List Value} (ha : ∀ v ∈ la, still v = true) (hb : ∀ v ∈ lb, still v = true) : (h2 la lb).rows := by
  refine ⟨rfl, fun b x hx => ?_⟩
  rcases blk2 hx with ⟨_, e⟩ | ⟨_, e⟩ <;> rw [e]
  · exact ⟨tR_ro, ha, tR_ab⟩
  · exact ⟨tR_ro, hb, tR_ab⟩
theorem fitsR2 {h : Hp} {a b : Nat} {x y : List Value × TypeId} (hx : h.blk? a = some x) (x1 : tomb x.2 = false) (x2 : rt x.2 = tU) (hy : h.blk? b = some y) (y1 : tomb y.2 = false) (y2 : rt y.2 = tU) : (h2 x.1 y.1).fits (pair a b) h := by
  intro i z hz _
  rcases blk2 hz with ⟨rfl, e⟩ | ⟨rfl, e⟩ <;> rw [e]
  · exact ⟨x, [], hx, x1, by rw [x2]; exact tR_rt.symm, by rw [List.append_nil]⟩
  · exact ⟨y, [], hy, y1, by rw [y2]; exact tR_rt.symm, by rw [List.append_nil]⟩
end Go.Proofs.Ytekebccjflilnaa
