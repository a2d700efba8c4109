/-
  What the law ScaleSteps calls.
-/
import Derived.Test.YtehfjljnaencjaaG16
import Derived.Test.YtehfjljnaencjaaG17
import Derived.Test.YtehfjljnaencjaaG14
namespace Go.Proofs.Ytehfjljnaencjaa
open Go.KRun Go.Wd Go.Pt Go.Rn
set_option maxRecDepth 100000

def conG9 : Con := alt 19 gSA conS9
theorem conG9_ok : ConOk conG9 := alt_ok Try.func19 rfl gSA_ok conS9_ok
end Go.Proofs.Ytehfjljnaencjaa

/-
  What Add answers, in plain terms.
-/
namespace Go.Proofs.Ytehfjljnaencjaa
open Go.KRun Go.Wd Go.Pt Go.Rn

theorem suP_nan {m a b : Int} (h : 3 < cl a ∨ 3 < cl b) : suP m a b = 9221120237041090560 := by unfold suP; rw [if_pos h]
theorem suP_fin {m a b : Int} (ha : cl a ≤ 2) (hb : cl b ≤ 2) : suP m a b = sS (adN m a b) (adP m a b) ∧ suF m a b = adF m a b := by
  unfold suP suF
  have h0 : ¬ (3 < cl a ∨ 3 < cl b) := by omega
  have h1 : ¬ cl a = 3 := by omega
  have h2 : ¬ cl b = 3 := by omega
  rw [if_neg h0, if_neg h1, if_neg h2, if_neg h0, if_neg h1, if_neg h2]
  exact ⟨rfl, rfl⟩
theorem suP_infa {m a b : Int} (ha : cl a = 3) (hb : cl b ≤ 3) (h : ¬ (cl b = 3 ∧ a ≠ b)) : suP m a b = a ∧ suF m a b = 0 := by
  unfold suP suF
  have h0 : ¬ (3 < cl a ∨ 3 < cl b) := by omega
  rw [if_neg h0, if_pos ha, if_neg h, if_neg h0, if_pos ha, if_neg h]
  exact ⟨rfl, rfl⟩
theorem suP_infi {m a b : Int} (ha : cl a = 3) (hb : cl b = 3) (h : a ≠ b) : suP m a b = 9221120237041090560 ∧ suF m a b = 1 := by
  unfold suP suF
  have h0 : ¬ (3 < cl a ∨ 3 < cl b) := by omega
  rw [if_neg h0, if_pos ha, if_pos ⟨hb, h⟩, if_neg h0, if_pos ha, if_pos ⟨hb, h⟩]
  exact ⟨rfl, rfl⟩
theorem suP_infb {m a b : Int} (ha : cl a ≤ 2) (hb : cl b = 3) : suP m a b = b ∧ suF m a b = 0 := by
  unfold suP suF
  have h0 : ¬ (3 < cl a ∨ 3 < cl b) := by omega
  have h1 : ¬ cl a = 3 := by omega
  rw [if_neg h0, if_neg h1, if_pos hb, if_neg h0, if_neg h1, if_pos hb]
  exact ⟨rfl, rfl⟩
theorem su_comm (m a b : Int) : suP m a b = suP m b a ∧ suF m a b = suF m b a := by
  by_cases hn : 3 < cl a ∨ 3 < cl b
  · have hn' : 3 < cl b ∨ 3 < cl a := by omega
    refine ⟨by rw [suP_nan hn, suP_nan hn'], ?_⟩
    unfold suF
    rw [if_pos hn, if_pos hn']
    congr 1
    simp only [eq_iff_iff]
    omega
  · by_cases ha : cl a = 3
    · by_cases hb : cl b = 3
      · by_cases hab : a = b
        · rw [hab]; exact ⟨rfl, rfl⟩
        · rw [(suP_infi ha hb hab).1, (suP_infi ha hb hab).2, (suP_infi hb ha (fun e => hab e.symm)).1, (suP_infi hb ha (fun e => hab e.symm)).2]
          exact ⟨rfl, rfl⟩
      · obtain ⟨p1, p2⟩ := suP_infa (m := m) (b := b) ha (by omega) (fun h => hb h.1)
        obtain ⟨q1, q2⟩ := suP_infb (m := m) (a := b) (b := a) (by omega) ha
        rw [p1, p2, q1, q2]; exact ⟨rfl, rfl⟩
    · by_cases hb : cl b = 3
      · obtain ⟨p1, p2⟩ := suP_infb (m := m) (a := a) (b := b) (by omega) hb
        obtain ⟨q1, q2⟩ := suP_infa (m := m) (a := b) (b := a) hb (by omega) (fun h => ha h.1)
        rw [p1, p2, q1, q2]; exact ⟨rfl, rfl⟩
      · obtain ⟨p1, p2⟩ := suP_fin (m := m) (a := a) (b := b) (by omega) (by omega)
        obtain ⟨q1, q2⟩ := suP_fin (m := m) (a := b) (b := a) (by omega) (by omega)
        obtain ⟨r1, r2⟩ := ad_comm m a b
        rw [p1, p2, q1, q2, adN_comm, r1, r2]; exact ⟨rfl, rfl⟩
theorem ad_lt (m a b : Int) : 0 ≤ adP m a b ∧ adP m a b < 9223372036854775808 := by have := ad_bd m a b; omega
theorem su_U {m a b : Int} (ha : U a) (hb : U b) : U (suP m a b) := by
  have hN : U 9221120237041090560 := by decide
  by_cases hn : 3 < cl a ∨ 3 < cl b
  · rw [suP_nan hn]; exact hN
  · by_cases ca : cl a = 3
    · by_cases hi : cl b = 3 ∧ a ≠ b
      · rw [(suP_infi ca hi.1 hi.2).1]; exact hN
      · rw [(suP_infa ca (by omega) hi).1]; exact ha
    · by_cases cb : cl b = 3
      · rw [(suP_infb (by omega) cb).1]; exact hb
      · rw [(suP_fin (by omega) (by omega)).1]
        exact (sS_mag (ad_lt m a b).1 (ad_lt m a b).2).2.2.1
/-- nothing added -/
theorem su_zero {m a : Int} (ha : U a) (h3 : cl a ≤ 3) (h0 : mag a ≠ 0) : suP m a 0 = a ∧ suF m a 0 = 0 := by
  have c0 : cl 0 = 0 := by decide
  by_cases h : cl a = 3
  · exact suP_infa h (by omega) (fun e => by omega)
  · obtain ⟨p1, p2⟩ := suP_fin (m := m) (a := a) (b := 0) (by omega) (by omega)
    have hf : ex a ≠ 2047 := fin_ex (by omega)
    obtain ⟨q1, q2, q3⟩ := ad_zero (m := m) hf h0
    rw [p1, p2, q1, q2, q3, sS_own ha]; exact ⟨rfl, rfl⟩
/-- less itself -/
theorem su_self {m a : Int} (ha : U a) (h : cl a ≤ 2) : suP m a (ng a) = (if m = 4 then 9223372036854775808 else 0) ∧ suF m a (ng a) = 0 := by
  have hc := (ng_num ha).2.2.1
  obtain ⟨p1, p2⟩ := suP_fin (m := m) (a := a) (b := ng a) h (by omega)
  obtain ⟨_, q1, q2, q3⟩ := ad_self (m := m) ha
  rw [p1, p2, q1, q2, q3]
  refine ⟨?_, rfl⟩
  unfold sS
  by_cases hm : m = 4
  · rw [decide_eq_true hm, if_pos rfl, if_pos hm]; rfl
  · rw [decide_eq_false hm, if_neg (by simp), if_neg hm]
/-- a sum without flags -/
theorem sgI_of {S : Int} {n : Bool} (h : S ≠ 0 → n = decide (S < 0)) : sgI n S.natAbs = S := by
  by_cases h0 : S = 0
  · subst h0; cases n <;> rfl
  · rw [h h0]
    by_cases h1 : S < 0
    · rw [decide_eq_true h1]; simp only [sgI]; omega
    · rw [decide_eq_false h1]; simp only [sgI]; omega
theorem su_two {a b : Int} (ha : U a) (hb : U b) (hf : suF 0 a b = 0) (hs : mag (suP 0 a b) < 9218868437227405312) (ma : mag a < 9218868437227405312) (h0 : mag b ≠ 0) : suP 0 (suP 0 a b) (ng a) = b := by
  have ca : cl a ≤ 2 := (mag_cl a).2.2.2 ma
  have cb : cl b ≤ 2 := by
    by_cases h3 : 3 < cl b
    · rw [suP_nan (.inr h3), nan_mag] at hs; omega
    · by_cases h4 : cl b = 3
      · rw [(suP_infb ca h4).1, (mag_cl b).2.1.1 h4] at hs; omega
      · omega
  obtain ⟨p1, p2⟩ := suP_fin (m := 0) ca cb
  have hF : adF 0 a b = 0 := by rw [← p2]; exact hf
  obtain ⟨b1, b2⟩ := back_uV (m := 0) (n := adN 0 a b) (A := (psI a b).natAbs) hF
  have hl := ad_lt 0 a b
  obtain ⟨s1, s2, s3, s4⟩ := sS_mag (n := adN 0 a b) hl.1 hl.2
  have hpv : pvI (suP 0 a b) = psI a b := by
    unfold pvI
    rw [p1, s2, s4]
    show sgI (adN 0 a b) (uV (adP 0 a b)) = psI a b
    unfold adP
    rw [b2]
    refine sgI_of fun hne => ?_
    unfold adN sgS
    rw [if_neg hne]
  have cs : cl (suP 0 a b) ≤ 2 := (mag_cl _).2.2.2 hs
  obtain ⟨_, _, cng, _, nv⟩ := ng_num ha
  obtain ⟨q1, _⟩ := suP_fin (m := 0) (a := suP 0 a b) (b := ng a) cs (by omega)
  have hsum : psI (suP 0 a b) (ng a) = pvI b := by
    have e : psI (suP 0 a b) (ng a) = pvI (suP 0 a b) + pvI (ng a) := rfl
    have e2 : psI a b = pvI a + pvI b := rfl
    rw [e, hpv, nv, e2]; omega
  obtain ⟨r1, r2, _⟩ := ad_num (m := 0) (fin_ex cb) h0 hsum
  rw [q1, r1, r2, sS_own hb]
/-- the other signs -/
theorem su_ng {m a b : Int} (ha : U a) (hb : U b) : suF (swM m) (ng a) (ng b) = suF m a b ∧
    ((mag (suP m a b) = 0 ∧ mag (suP (swM m) (ng a) (ng b)) = 0) ∨ (mag (suP m a b) ≠ 0 ∧ suP m a b = 9221120237041090560 ∧ suP (swM m) (ng a) (ng b) = suP m a b) ∨ (mag (suP m a b) ≠ 0 ∧ suP m a b ≠ 9221120237041090560 ∧ suP m a b = ng (suP (swM m) (ng a) (ng b)))) := by
  have c1 := (ng_num ha).2.2.1
  have c2 := (ng_num hb).2.2.1
  have hne : a ≠ b ↔ ng a ≠ ng b := by unfold ng U at *; omega
  have m0 : mag 9221120237041090560 ≠ 0 := by decide
  by_cases hn : 3 < cl a ∨ 3 < cl b
  · have hn' : 3 < cl (ng a) ∨ 3 < cl (ng b) := by omega
    refine ⟨?_, .inr (.inl ⟨by rw [suP_nan hn]; exact m0, suP_nan hn, by rw [suP_nan hn, suP_nan hn']⟩)⟩
    unfold suF
    rw [if_pos hn, if_pos hn', c1, c2]
  · by_cases ca : cl a = 3
    · have hm : mag a = 9218868437227405312 := (mag_cl a).2.1.1 ca
      by_cases hi : cl b = 3 ∧ a ≠ b
      · obtain ⟨p1, p2⟩ := suP_infi (m := m) ca hi.1 hi.2
        obtain ⟨q1, q2⟩ := suP_infi (m := swM m) (a := ng a) (b := ng b) (by omega) (by omega) (hne.1 hi.2)
        rw [p1, p2, q1, q2]
        exact ⟨rfl, .inr (.inl ⟨m0, rfl, rfl⟩)⟩
      · obtain ⟨p1, p2⟩ := suP_infa (m := m) ca (by omega) hi
        obtain ⟨q1, q2⟩ := suP_infa (m := swM m) (a := ng a) (b := ng b) (by omega) (by omega) (fun h => hi ⟨by omega, hne.2 h.2⟩)
        rw [p1, p2, q1, q2, ng_ng ha]
        refine ⟨rfl, .inr (.inr ⟨by omega, fun e => ?_, rfl⟩)⟩
        rw [e, nan_mag] at hm; omega
    · by_cases cb : cl b = 3
      · have hm : mag b = 9218868437227405312 := (mag_cl b).2.1.1 cb
        obtain ⟨p1, p2⟩ := suP_infb (m := m) (a := a) (by omega) cb
        obtain ⟨q1, q2⟩ := suP_infb (m := swM m) (a := ng a) (b := ng b) (by omega) (by omega)
        rw [p1, p2, q1, q2, ng_ng hb]
        refine ⟨rfl, .inr (.inr ⟨by omega, fun e => ?_, rfl⟩)⟩
        rw [e, nan_mag] at hm; omega
      · obtain ⟨p1, p2⟩ := suP_fin (m := m) (a := a) (b := b) (by omega) (by omega)
        obtain ⟨q1, q2⟩ := suP_fin (m := swM m) (a := ng a) (b := ng b) (by omega) (by omega)
        obtain ⟨r1, r2, r3⟩ := ad_ng (m := m) ha hb
        have hl := ad_lt m a b
        have hl2 := ad_bd m a b
        rw [p1, p2, q1, q2, r1, r2]
        refine ⟨rfl, ?_⟩
        obtain ⟨s1, _⟩ := sS_mag (n := adN m a b) hl.1 hl.2
        obtain ⟨t1, _⟩ := sS_mag (n := adN (swM m) (ng a) (ng b)) hl.1 hl.2
        by_cases h0 : adP m a b = 0
        · exact .inl ⟨by rw [s1]; exact h0, by rw [t1]; exact h0⟩
        · have hp : psI a b ≠ 0 := fun e => h0 (by unfold adP; rw [e]; simp [rnP])
          refine .inr (.inr ⟨by rw [s1]; exact h0, fun e => ?_, ?_⟩)
          · rw [e, nan_mag] at s1; omega
          · rw [r3 hp, ng_sS hl.1 hl.2, Bool.not_not]
end Go.Proofs.Ytehfjljnaencjaa

/-
  What scale answers, in plain terms.
-/
namespace Go.Proofs.Ytehfjljnaencjaa
open Go.KRun Go.Wd Go.Pt Go.Rn
set_option maxRecDepth 100000

theorem fin9 {p : Int} (h0 : 0 ≤ p) (h1 : p < 9218868437227405312) : mag p = p ∧ cl p ≤ 2 ∧ sgn p = false ∧ ex p ≠ 2047 := by
  have hm : mag p = p := mag_self h0 (by omega)
  have hc := (mag_cl p).2.2.2 (by omega)
  exact ⟨hm, hc, decide_eq_false (by omega), fin_ex hc⟩
theorem su_pos {m p q : Int} (hp : 0 ≤ p) (hp1 : p < 9218868437227405312) (hq : 0 ≤ q) (hq1 : q < 9218868437227405312) : suP m p q = rnP m false (uV p + uV q) (-1074) ∧ suF m p q = rnF m false (uV p + uV q) (-1074) := by
  obtain ⟨_, c1, s1, _⟩ := fin9 hp hp1
  obtain ⟨_, c2, s2, _⟩ := fin9 hq hq1
  obtain ⟨e1, e2⟩ := suP_fin (m := m) c1 c2
  have es : psI p q = ((uV p + uV q : Nat) : Int) := by
    unfold psI pvI
    rw [s1, s2]
    simp [sgI]
  have en : adN m p q = false := by
    unfold adN sgS
    rw [es, s1, s2]
    split
    · rfl
    · exact decide_eq_false (by omega)
  rw [e1, e2]
  unfold adP adF
  rw [en, es, Int.natAbs_natCast]
  exact ⟨rfl, rfl⟩
theorem up_pos {p : Int} (h0 : 0 ≤ p) (h1 : p < 9218868437227405312) : upP p = p + 1 ∧ upF p = 0 := by
  obtain ⟨hm, hc, _, _⟩ := fin9 h0 h1
  refine ⟨?_, by unfold upF; rw [if_neg (by omega)]⟩
  unfold upP
  rw [if_neg (by omega), if_neg (by omega)]
  split
  · rename_i h
    have := mag_cl0 h
    omega
  · rw [if_pos (by omega)]
theorem up_not {b : Int} (h3 : ¬ 3 < cl b) (h0 : cl b ≠ 0) : upP b = if b = 9218868437227405312 then b else if b < 9223372036854775808 then b + 1 else b - 1 := by
  unfold upP
  rw [if_neg h3, if_neg h0]
theorem steps9 {p : Int} (h0 : 0 ≤ p) (h1 : p < 9218868437227405311) : U (stepP p) ∧ stepF p = 0 ∧ suP 0 p (stepP p) = p + 1 ∧ suF 0 p (stepP p) = 0 ∧ suP 3 p 1 = p + 1 ∧ (suP 4 p 1 = p ∨ (stepP p = 1 ∧ suP 4 p 1 = p + 1)) := by
  obtain ⟨hm, hc, _, hf⟩ := fin9 h0 (by omega)
  obtain ⟨hm', _, _, hf'⟩ := fin9 (p := p + 1) (by omega) (by omega)
  obtain ⟨_, _, t0, t1, tv⟩ := st_num hf 0 false
  have es : stepP p = stP p := by unfold stepP; rw [if_neg (by omega), if_neg (by omega)]
  have ef : stepF p = 0 := by unfold stepF; rw [if_neg (by omega)]
  have nn := next_num h0 h1
  obtain ⟨o1, o2⟩ := own_uV (m := 0) (n := false) hf'
  obtain ⟨a1, a2⟩ := su_pos (m := 0) h0 (by omega) t0 t1
  rw [tv, ← nn, o1, hm'] at a1
  rw [tv, ← nn, o2] at a2
  have u1 : uV 1 = 1 := by decide
  obtain ⟨b3, _⟩ := su_pos (m := 3) h0 (by omega) (q := 1) (by omega) (by omega)
  obtain ⟨b4, _⟩ := su_pos (m := 4) h0 (by omega) (q := 1) (by omega) (by omega)
  rw [u1] at b3 b4
  have xb := xp_bd p
  refine ⟨?_, ef, by rw [es]; exact a1, by rw [es]; exact a2, ?_⟩
  · rw [es]; exact ⟨t0, by omega⟩
  by_cases hx : xp p = -1074
  · rw [hx] at nn
    have nn : uV (p + 1) = uV p + 1 := nn
    have hs : stepP p = 1 := by
      rw [es]
      unfold stP
      rw [hx]
      decide
    obtain ⟨o3, _⟩ := own_uV (m := 3) (n := false) hf'
    obtain ⟨o4, _⟩ := own_uV (m := 4) (n := false) hf'
    rw [← nn] at b3 b4
    rw [b3, b4, o3, o4, hm']
    exact ⟨rfl, .inr ⟨hs, rfl⟩⟩
  · have hp : 2 ≤ 2 ^ (xp p + 1074).toNat := by
      have := Nat.pow_le_pow_right (show 0 < 2 by omega) (show 1 ≤ (xp p + 1074).toNat by omega)
      omega
    obtain ⟨c1, c2, _⟩ := between_num (N := uV p + 1) h0 h1 (by omega) (by omega)
    rw [b3, b4, c1, c2]
    exact ⟨rfl, .inl rfl⟩
theorem up_fin {a : Int} (ha : U a) (h3 : cl a ≤ 3) : upF a = 0 ∧ cl (upP a) ≤ 3 ∧ upF (upP a) = 0 ∧ U (upP a) := by
  have hu := ha
  unfold U at hu
  have hU := up_U ha
  have k := (mag_cl a).1
  have k2 := (mag_cl (upP a)).1
  have e : upP a = if a = 9218868437227405312 then a else if cl a = 0 then 1 else if a < 9223372036854775808 then a + 1 else a - 1 := by unfold upP; rw [if_neg (by omega)]
  have z := @mag_cl0 a
  have ea : mag a = a % 9223372036854775808 := rfl
  have eu : mag (upP a) = upP a % 9223372036854775808 := rfl
  have hz : cl a ≠ 0 → mag a ≠ 0 := fun h h0 => by
    have e := mag_eq a
    have h1 := ex_lt a
    have h2 := fr_lt a
    apply h
    unfold cl
    rw [if_pos (by omega), if_pos (by omega)]
  have hc : cl (upP a) ≤ 3 := by
    suffices ¬ 3 < cl (upP a) by omega
    rw [k2, eu]
    rw [e]
    split
    · omega
    · split
      · omega
      · rename_i hc0
        have := hz hc0
        split <;> omega
  refine ⟨by unfold upF; rw [if_neg (by omega)], hc, by unfold upF; rw [if_neg (by omega)], hU⟩
/-- the neighbour's neighbour -/
theorem dn_up {a : Int} (ha : U a) (h3 : cl a ≤ 3) (h0 : mag a ≠ 0) (hi : mag a ≠ 9218868437227405312) (hp : mag (upP a) ≠ 0) : dnP (upP a) = a := by
  have hu := ha
  unfold U at hu
  obtain ⟨_, c1, _, uU⟩ := up_fin ha h3
  have k := (mag_cl a).1
  have ea : mag a = a % 9223372036854775808 := rfl
  have eu : mag (upP a) = upP a % 9223372036854775808 := rfl
  have hc : cl a ≠ 0 := fun h => h0 (mag_cl0 h)
  have e : upP a = if a < 9223372036854775808 then a + 1 else a - 1 := by unfold upP; rw [if_neg (by omega), if_neg (by omega), if_neg hc]
  have cu : cl (ng (upP a)) ≠ 0 := fun h => by
    have := mag_cl0 h
    rw [(ng_parts uU).2.2.2.2] at this
    exact hp this
  have cn := cl_ng uU
  have en : ng (upP a) = (upP a + 9223372036854775808) % 18446744073709551616 := rfl
  unfold dnP
  rw [if_neg (by omega)]
  rw [up_not (by rw [cn]; omega) cu, en]
  unfold ng
  rw [e] at *
  split at * <;> split <;> (try split) <;> omega
theorem kN_small {n : Int} (h : -100 ≤ n ∧ n ≤ 100) : kN9 n = n := by unfold kN9; split <;> split <;> omega
theorem sca_U {m a n : Int} (ha : U a) : U (scaP m a n) := by
  unfold scaP
  split
  · exact ⟨by omega, by omega⟩
  · split
    · exact ha
    · have := rnP_bd m (sgn a) (sg a).toNat (xp a + kN9 n)
      unfold scP sS U
      split <;> omega
/-- what was scaled without flags is scaled back -/
theorem sca_back {a k : Int} (ha : U a) (h3 : cl a ≤ 3) (hk : 0 ≤ k ∧ k ≤ 60) (hf : scaF 0 a k = 0) : scaF 0 (scaP 0 a k) (0 - k) = 0 ∧ scaP 0 (scaP 0 a k) (0 - k) = a := by
  by_cases hz : cl a = 0 ∨ cl a = 3
  · have e : scaP 0 a k = a := by unfold scaP; rw [if_neg (by omega), if_pos hz]
    rw [e]
    exact ⟨by unfold scaF; rw [if_neg (by omega), if_pos hz], by unfold scaP; rw [if_neg (by omega), if_pos hz]⟩
  · obtain ⟨n, rfl⟩ : ∃ n : Nat, k = n := ⟨k.toNat, by omega⟩
    have e1 : scaP 0 a n = sS (sgn a) (scP 0 a n) := by unfold scaP; rw [if_neg (by omega), if_neg hz, kN_small (by omega)]
    have e2 : scF 0 a n = 0 := by unfold scaF at hf; rw [if_neg (by omega), if_neg hz, kN_small (by omega)] at hf; exact hf
    have fa := fin_ex (p := a) (by omega)
    obtain ⟨b1, b2⟩ := sc_back (m := 0) (k := 0) fa e2 (sgn a)
    have bd := rnP_bd 0 (sgn a) (sg a).toNat (xp a + n)
    have hb : 0 ≤ scP 0 a n ∧ scP 0 a n < 9223372036854775808 := by unfold scP; omega
    obtain ⟨m1, m2, m3, _⟩ := sS_mag (n := sgn a) hb.1 hb.2
    have ex1 : ex (sS (sgn a) (scP 0 a n)) = ex (scP 0 a n) ∧ fr (sS (sgn a) (scP 0 a n)) = fr (scP 0 a n) := by
      unfold ex fr sS
      split <;> omega
    have es : sg (sS (sgn a) (scP 0 a n)) = sg (scP 0 a n) ∧ xp (sS (sgn a) (scP 0 a n)) = xp (scP 0 a n) ∧ cl (sS (sgn a) (scP 0 a n)) = cl (scP 0 a n) := by
      unfold sg xp cl
      rw [ex1.1, ex1.2]
      exact ⟨rfl, rfl, rfl⟩
    have hlt : scP 0 a n < 9218868437227405312 := by
      have sp := rnP_scale 0 (sgn a) (sg a).toNat (xp a + n + 1074).toNat (xp a + n)
      have sf := rnF_scale 0 (sgn a) (sg a).toNat (xp a + n + 1074).toNat (xp a + n)
      have xb := xp_bd a
      rw [show xp a + n - ((xp a + n + 1074).toNat : Int) = -1074 by omega] at sp sf
      have q := e2
      unfold scF at q
      obtain ⟨c1, _⟩ := back_uV (sf.trans q)
      rw [sp] at c1
      exact c1
    obtain ⟨_, c2, _, _⟩ := fin9 hb.1 hlt
    have cb := cl_bd (scP 0 a n)
    have c0 : cl (scP 0 a n) ≠ 0 := fun h => by
      have s0 := (sg_zero c2).2 h
      rw [s0] at b1
      have : rnP 0 (sgn a) (Int.toNat 0) (xp (scP 0 a n) - n) = 0 := by unfold rnP; rw [if_pos (show Int.toNat 0 = 0 from rfl)]
      rw [this] at b1
      have := (mag_cl a).2.2
      have e := mag_eq a
      have h1 := ex_lt a
      have h2 := fr_lt a
      apply hz
      left
      unfold cl
      rw [if_pos (by omega), if_pos (by omega)]
    have hz' : ¬ (cl (sS (sgn a) (scP 0 a n)) = 0 ∨ cl (sS (sgn a) (scP 0 a n)) = 3) := by rw [es.2.2]; omega
    have h3' : ¬ 3 < cl (sS (sgn a) (scP 0 a n)) := by rw [es.2.2]; omega
    rw [e1]
    generalize scP 0 a n = r at *
    have q1 : scaF 0 (sS (sgn a) r) (0 - n) = rnF 0 (sgn a) (sg r).toNat (xp r - n) := by
      unfold scaF
      rw [if_neg h3', if_neg hz', kN_small (by omega)]
      unfold scF
      rw [m2, es.1, es.2.1, show xp r + (0 - (n : Int)) = xp r - n by omega]
    have q2 : scaP 0 (sS (sgn a) r) (0 - n) = sS (sgn a) (rnP 0 (sgn a) (sg r).toNat (xp r - n)) := by
      unfold scaP
      rw [if_neg h3', if_neg hz', kN_small (by omega)]
      unfold scP
      rw [m2, es.1, es.2.1, show xp r + (0 - (n : Int)) = xp r - n by omega]
    rw [q1, q2, b1, b2]
    exact ⟨rfl, sS_own ha⟩
end Go.Proofs.Ytehfjljnaencjaa
