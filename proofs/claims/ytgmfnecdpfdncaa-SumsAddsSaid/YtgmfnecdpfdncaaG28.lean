/-
  The document's Round of nothing, and Abs, as calls in every world.
-/
import Derived.Test.YtgmfnecdpfdncaaG27
namespace Go.Proofs.Ytgmfnecdpfdncaa
open Go.KRun Go.Nt Go.Wd Go.Rn Go.Pt
set_option maxRecDepth 100000
set_option linter.unusedVariables false
def raT (p f : Int) : Value := .tuple #[.int .u64 p, .int .i64 f]

/-! ### Round of nothing -/
def r0V (neg : Bool) : Value := .tuple #[.int .u64 (sS neg 0), .int .i64 0]
theorem r0a (neg : Bool) (E M : Int) : Fits (reckon (tabOf Try.prog extY conN true) 200 23 [vRN neg E nilS, .int .i64 M] [cmp true, cmp true]) (r0V neg) [(((0 : Nat) : Int) == 0, true), (decide (M < 0), true)] := by
  cases neg <;> exact ⟨by kernel_rfl, by kernel_rfl, by kernel_rfl, by kernel_rfl⟩
theorem r0b (neg : Bool) (E M : Int) : Fits (reckon (tabOf Try.prog extY conN true) 200 23 [vRN neg E nilS, .int .i64 M] [cmp false, cmp true, cmp true]) (r0V neg) [(((0 : Nat) : Int) == 0, true), (decide (M > 4), true), (decide (M < 0), false)] := by
  cases neg <;> exact ⟨by kernel_rfl, by kernel_rfl, by kernel_rfl, by kernel_rfl⟩
theorem r0c (neg : Bool) (E M : Int) : Fits (reckon (tabOf Try.prog extY conN true) 200 23 [vRN neg E nilS, .int .i64 M] [cmp false, cmp false, cmp true]) (r0V neg) [(((0 : Nat) : Int) == 0, true), (decide (M > 4), false), (decide (M < 0), false)] := by
  cases neg <;> exact ⟨by kernel_rfl, by kernel_rfl, by kernel_rfl, by kernel_rfl⟩
def gR0 : Ans := fun vals s =>
  match vals with
  | [.agg cs, .int .i64 M] =>
    match cs.toList with
    | [.bool neg, .int .i64 E, .slice none 0 0] => some (r0V neg, s, [])
    | _ => none
  | _ => none
theorem gR0_ok : AnsOk 23 gR0 := by
  intro vals s v s' lg h hl w
  unfold gR0 at h
  split at h
  · rename_i cs M
    split at h
    · rename_i neg E hcs
      have ecs : cs = #[.bool neg, .int .i64 E, nilS] := by
        have := congrArg List.toArray hcs
        simpa [nilS] using this
      cases h
      rw [ecs]
      by_cases h0 : M < 0
      · exact fits_calls (tabY_ok conN_ok) (r0a neg E M) (okCons rfl (okL1 (decide_eq_true h0))) (by rfl) (by rfl) w
      · by_cases h4 : M > 4
        · exact fits_calls (tabY_ok conN_ok) (r0b neg E M) (okCons rfl (okCons (decide_eq_true h4) (okL1 (decide_eq_false h0)))) (by rfl) (by rfl) w
        · exact fits_calls (tabY_ok conN_ok) (r0c neg E M) (okCons rfl (okCons (decide_eq_false h4) (okL1 (decide_eq_false h0)))) (by rfl) (by rfl) w
    · cases h
  · cases h

/-! ### Abs -/
theorem rabs_fits (p : Int) : Fits (reckon (tabOf Try.prog extY conN true) 200 22 [.int .u64 p] [cmp true]) (.int .u64 (p.tmod 9223372036854775808)) [(decide ((9223372036854775808 : Int) = 0), false)] := ⟨by kernel_rfl, by kernel_rfl, by kernel_rfl, by kernel_rfl⟩
theorem rabs_ok : AnsOk 22 (gU fun p => .int .u64 (mag p)) := gU_ok fun p hp w => by
  have e : p.tmod 9223372036854775808 = mag p := by
    unfold mag
    exact Int.tmod_eq_emod_of_nonneg hp.1
  have := rabs_fits p
  rw [e] at this
  exact fits_calls (tabY_ok conN_ok) this (okL1 rfl) (by rfl) (by rfl) w
def conRA : Con := alt 23 gR0 (alt 22 (gU fun p => .int .u64 (mag p)) conPt)
theorem conRA_ok : ConOk conRA := alt_ok Try.func23 rfl gR0_ok (alt_ok Try.func22 rfl rabs_ok conPt_ok)
end Go.Proofs.Ytgmfnecdpfdncaa

/-
  What Add answers, in plain terms.
-/
namespace Go.Proofs.Ytgmfnecdpfdncaa
open Go.KRun Go.Wd Go.Pt Go.Rn

theorem mag_eq (p : Int) : mag p = 4503599627370496 * ex p + fr p := by unfold mag ex fr; omega
theorem mag_cl (p : Int) : (3 < cl p ↔ 9218868437227405312 < mag p) ∧ (cl p = 3 ↔ mag p = 9218868437227405312) ∧ (cl p ≤ 2 ↔ mag p < 9218868437227405312) := by
  have h1 := mag_eq p
  have h2 := ex_lt p
  have h3 := fr_lt p
  rw [h1]
  unfold cl
  split
  · split <;> omega
  · split
    · split
      · omega
      · split <;> omega
    · omega
theorem mag_lt {p : Int} : 0 ≤ mag p ∧ mag p < 9223372036854775808 := by unfold mag; omega
theorem sS_mag {n : Bool} {r : Int} (h0 : 0 ≤ r) (h1 : r < 9223372036854775808) : mag (sS n r) = r ∧ sgn (sS n r) = n ∧ U (sS n r) ∧ uV (sS n r) = uV r := by
  have e : ex (sS n r) = ex r ∧ fr (sS n r) = fr r := by unfold ex fr sS; split <;> omega
  refine ⟨by unfold mag sS; split <;> omega, ?_, by unfold U sS; split <;> omega, ?_⟩
  · cases n
    · simp only [sS, Bool.false_eq_true, if_false, sgn]; exact decide_eq_false (by omega)
    · simp only [sS, if_true, sgn]; exact decide_eq_true (by omega)
  · unfold uV xp sg; rw [e.1, e.2]
theorem sS_own {p : Int} (hp : U p) : sS (sgn p) (mag p) = p := by
  unfold sS sgn mag U at *
  split <;> rename_i h <;> simp only [decide_eq_true_eq] at h <;> omega
theorem bNot_mag {p : Int} (hp : U p) : bNot p 9223372036854775808 = mag p := bNot_sign hp
theorem bXor_ng {p : Int} (hp : U p) : bXor p 9223372036854775808 = ng p := bXor_sign hp
theorem ng_sS {n : Bool} {r : Int} (h0 : 0 ≤ r) (h1 : r < 9223372036854775808) : ng (sS n r) = sS (!n) r := by
  cases n <;> simp [sS, ng] <;> omega
theorem ng_ng {p : Int} (hp : U p) : ng (ng p) = p := by unfold ng U at *; omega
theorem ng_ne {p : Int} (_hp : U p) : p ≠ ng p := by unfold ng; omega
theorem nan_mag : mag 9221120237041090560 = 9221120237041090560 := by decide

theorem suP_nan {m a b : Int} (h : 3 < cl a ∨ 3 < cl b) : suP m a b = 9221120237041090560 := by unfold suP; rw [if_pos h]
theorem suP_fin {m a b : Int} (ha : cl a ≤ 2) (hb : cl b ≤ 2) : suP m a b = sS (adN m a b) (adP m a b) ∧ suF m a b = adF m a b := by
  unfold suP suF
  have h0 : ¬ (3 < cl a ∨ 3 < cl b) := by omega
  have h1 : ¬ cl a = 3 := by omega
  have h2 : ¬ cl b = 3 := by omega
  rw [if_neg h0, if_neg h1, if_neg h2, if_neg h0, if_neg h1, if_neg h2]
  exact ⟨rfl, rfl⟩
theorem suP_infa {m a b : Int} (ha : cl a = 3) (hb : cl b ≤ 3) (h : ¬ (cl b = 3 ∧ a ≠ b)) : suP m a b = a ∧ suF m a b = 0 := by
  unfold suP suF
  have h0 : ¬ (3 < cl a ∨ 3 < cl b) := by omega
  rw [if_neg h0, if_pos ha, if_neg h, if_neg h0, if_pos ha, if_neg h]
  exact ⟨rfl, rfl⟩
theorem suP_infi {m a b : Int} (ha : cl a = 3) (hb : cl b = 3) (h : a ≠ b) : suP m a b = 9221120237041090560 ∧ suF m a b = 1 := by
  unfold suP suF
  have h0 : ¬ (3 < cl a ∨ 3 < cl b) := by omega
  rw [if_neg h0, if_pos ha, if_pos ⟨hb, h⟩, if_neg h0, if_pos ha, if_pos ⟨hb, h⟩]
  exact ⟨rfl, rfl⟩
theorem suP_infb {m a b : Int} (ha : cl a ≤ 2) (hb : cl b = 3) : suP m a b = b ∧ suF m a b = 0 := by
  unfold suP suF
  have h0 : ¬ (3 < cl a ∨ 3 < cl b) := by omega
  have h1 : ¬ cl a = 3 := by omega
  rw [if_neg h0, if_neg h1, if_pos hb, if_neg h0, if_neg h1, if_pos hb]
  exact ⟨rfl, rfl⟩
theorem su_comm (m a b : Int) : suP m a b = suP m b a ∧ suF m a b = suF m b a := by
  by_cases hn : 3 < cl a ∨ 3 < cl b
  · have hn' : 3 < cl b ∨ 3 < cl a := by omega
    refine ⟨by rw [suP_nan hn, suP_nan hn'], ?_⟩
    unfold suF
    rw [if_pos hn, if_pos hn']
    congr 1
    simp only [eq_iff_iff]
    omega
  · by_cases ha : cl a = 3
    · by_cases hb : cl b = 3
      · by_cases hab : a = b
        · rw [hab]; exact ⟨rfl, rfl⟩
        · rw [(suP_infi ha hb hab).1, (suP_infi ha hb hab).2, (suP_infi hb ha (fun e => hab e.symm)).1, (suP_infi hb ha (fun e => hab e.symm)).2]
          exact ⟨rfl, rfl⟩
      · obtain ⟨p1, p2⟩ := suP_infa (m := m) (b := b) ha (by omega) (fun h => hb h.1)
        obtain ⟨q1, q2⟩ := suP_infb (m := m) (a := b) (b := a) (by omega) ha
        rw [p1, p2, q1, q2]; exact ⟨rfl, rfl⟩
    · by_cases hb : cl b = 3
      · obtain ⟨p1, p2⟩ := suP_infb (m := m) (a := a) (b := b) (by omega) hb
        obtain ⟨q1, q2⟩ := suP_infa (m := m) (a := b) (b := a) hb (by omega) (fun h => ha h.1)
        rw [p1, p2, q1, q2]; exact ⟨rfl, rfl⟩
      · obtain ⟨p1, p2⟩ := suP_fin (m := m) (a := a) (b := b) (by omega) (by omega)
        obtain ⟨q1, q2⟩ := suP_fin (m := m) (a := b) (b := a) (by omega) (by omega)
        obtain ⟨r1, r2⟩ := ad_comm m a b
        rw [p1, p2, q1, q2, adN_comm, r1, r2]; exact ⟨rfl, rfl⟩
theorem ad_lt (m a b : Int) : 0 ≤ adP m a b ∧ adP m a b < 9223372036854775808 := by have := ad_bd m a b; omega
theorem su_U {m a b : Int} (ha : U a) (hb : U b) : U (suP m a b) := by
  have hN : U 9221120237041090560 := by decide
  by_cases hn : 3 < cl a ∨ 3 < cl b
  · rw [suP_nan hn]; exact hN
  · by_cases ca : cl a = 3
    · by_cases hi : cl b = 3 ∧ a ≠ b
      · rw [(suP_infi ca hi.1 hi.2).1]; exact hN
      · rw [(suP_infa ca (by omega) hi).1]; exact ha
    · by_cases cb : cl b = 3
      · rw [(suP_infb (by omega) cb).1]; exact hb
      · rw [(suP_fin (by omega) (by omega)).1]
        exact (sS_mag (ad_lt m a b).1 (ad_lt m a b).2).2.2.1
/-- nothing added -/
theorem su_zero {m a : Int} (ha : U a) (h3 : cl a ≤ 3) (h0 : mag a ≠ 0) : suP m a 0 = a ∧ suF m a 0 = 0 := by
  have c0 : cl 0 = 0 := by decide
  by_cases h : cl a = 3
  · exact suP_infa h (by omega) (fun e => by omega)
  · obtain ⟨p1, p2⟩ := suP_fin (m := m) (a := a) (b := 0) (by omega) (by omega)
    have hf : ex a ≠ 2047 := fin_ex (by omega)
    obtain ⟨q1, q2, q3⟩ := ad_zero (m := m) hf h0
    rw [p1, p2, q1, q2, q3, sS_own ha]; exact ⟨rfl, rfl⟩
/-- less itself -/
theorem su_self {m a : Int} (ha : U a) (h : cl a ≤ 2) : suP m a (ng a) = (if m = 4 then 9223372036854775808 else 0) ∧ suF m a (ng a) = 0 := by
  have hc := (ng_num ha).2.2.1
  obtain ⟨p1, p2⟩ := suP_fin (m := m) (a := a) (b := ng a) h (by omega)
  obtain ⟨_, q1, q2, q3⟩ := ad_self (m := m) ha
  rw [p1, p2, q1, q2, q3]
  refine ⟨?_, rfl⟩
  unfold sS
  by_cases hm : m = 4
  · rw [decide_eq_true hm, if_pos rfl, if_pos hm]; rfl
  · rw [decide_eq_false hm, if_neg (by simp), if_neg hm]
/-- a sum without flags -/
theorem sgI_of {S : Int} {n : Bool} (h : S ≠ 0 → n = decide (S < 0)) : sgI n S.natAbs = S := by
  by_cases h0 : S = 0
  · subst h0; cases n <;> rfl
  · rw [h h0]
    by_cases h1 : S < 0
    · rw [decide_eq_true h1]; simp only [sgI]; omega
    · rw [decide_eq_false h1]; simp only [sgI]; omega
theorem su_two {a b : Int} (ha : U a) (hb : U b) (hf : suF 0 a b = 0) (hs : mag (suP 0 a b) < 9218868437227405312) (ma : mag a < 9218868437227405312) (h0 : mag b ≠ 0) : suP 0 (suP 0 a b) (ng a) = b := by
  have ca : cl a ≤ 2 := (mag_cl a).2.2.2 ma
  have cb : cl b ≤ 2 := by
    by_cases h3 : 3 < cl b
    · rw [suP_nan (.inr h3), nan_mag] at hs; omega
    · by_cases h4 : cl b = 3
      · rw [(suP_infb ca h4).1, (mag_cl b).2.1.1 h4] at hs; omega
      · omega
  obtain ⟨p1, p2⟩ := suP_fin (m := 0) ca cb
  have hF : adF 0 a b = 0 := by rw [← p2]; exact hf
  obtain ⟨b1, b2⟩ := back_uV (m := 0) (n := adN 0 a b) (A := (psI a b).natAbs) hF
  have hl := ad_lt 0 a b
  obtain ⟨s1, s2, s3, s4⟩ := sS_mag (n := adN 0 a b) hl.1 hl.2
  have hpv : pvI (suP 0 a b) = psI a b := by
    unfold pvI
    rw [p1, s2, s4]
    show sgI (adN 0 a b) (uV (adP 0 a b)) = psI a b
    unfold adP
    rw [b2]
    refine sgI_of fun hne => ?_
    unfold adN sgS
    rw [if_neg hne]
  have cs : cl (suP 0 a b) ≤ 2 := (mag_cl _).2.2.2 hs
  obtain ⟨_, _, cng, _, nv⟩ := ng_num ha
  obtain ⟨q1, _⟩ := suP_fin (m := 0) (a := suP 0 a b) (b := ng a) cs (by omega)
  have hsum : psI (suP 0 a b) (ng a) = pvI b := by
    have e : psI (suP 0 a b) (ng a) = pvI (suP 0 a b) + pvI (ng a) := rfl
    have e2 : psI a b = pvI a + pvI b := rfl
    rw [e, hpv, nv, e2]; omega
  obtain ⟨r1, r2, _⟩ := ad_num (m := 0) (fin_ex cb) h0 hsum
  rw [q1, r1, r2, sS_own hb]
/-- the other signs -/
theorem su_ng {m a b : Int} (ha : U a) (hb : U b) : suF (swM m) (ng a) (ng b) = suF m a b ∧
    ((mag (suP m a b) = 0 ∧ mag (suP (swM m) (ng a) (ng b)) = 0) ∨ (mag (suP m a b) ≠ 0 ∧ suP m a b = 9221120237041090560 ∧ suP (swM m) (ng a) (ng b) = suP m a b) ∨ (mag (suP m a b) ≠ 0 ∧ suP m a b ≠ 9221120237041090560 ∧ suP m a b = ng (suP (swM m) (ng a) (ng b)))) := by
  have c1 := (ng_num ha).2.2.1
  have c2 := (ng_num hb).2.2.1
  have hne : a ≠ b ↔ ng a ≠ ng b := by unfold ng U at *; omega
  have m0 : mag 9221120237041090560 ≠ 0 := by decide
  by_cases hn : 3 < cl a ∨ 3 < cl b
  · have hn' : 3 < cl (ng a) ∨ 3 < cl (ng b) := by omega
    refine ⟨?_, .inr (.inl ⟨by rw [suP_nan hn]; exact m0, suP_nan hn, by rw [suP_nan hn, suP_nan hn']⟩)⟩
    unfold suF
    rw [if_pos hn, if_pos hn', c1, c2]
  · by_cases ca : cl a = 3
    · have hm : mag a = 9218868437227405312 := (mag_cl a).2.1.1 ca
      by_cases hi : cl b = 3 ∧ a ≠ b
      · obtain ⟨p1, p2⟩ := suP_infi (m := m) ca hi.1 hi.2
        obtain ⟨q1, q2⟩ := suP_infi (m := swM m) (a := ng a) (b := ng b) (by omega) (by omega) (hne.1 hi.2)
        rw [p1, p2, q1, q2]
        exact ⟨rfl, .inr (.inl ⟨m0, rfl, rfl⟩)⟩
      · obtain ⟨p1, p2⟩ := suP_infa (m := m) ca (by omega) hi
        obtain ⟨q1, q2⟩ := suP_infa (m := swM m) (a := ng a) (b := ng b) (by omega) (by omega) (fun h => hi ⟨by omega, hne.2 h.2⟩)
        rw [p1, p2, q1, q2, ng_ng ha]
        refine ⟨rfl, .inr (.inr ⟨by omega, fun e => ?_, rfl⟩)⟩
        rw [e, nan_mag] at hm; omega
    · by_cases cb : cl b = 3
      · have hm : mag b = 9218868437227405312 := (mag_cl b).2.1.1 cb
        obtain ⟨p1, p2⟩ := suP_infb (m := m) (a := a) (by omega) cb
        obtain ⟨q1, q2⟩ := suP_infb (m := swM m) (a := ng a) (b := ng b) (by omega) (by omega)
        rw [p1, p2, q1, q2, ng_ng hb]
        refine ⟨rfl, .inr (.inr ⟨by omega, fun e => ?_, rfl⟩)⟩
        rw [e, nan_mag] at hm; omega
      · obtain ⟨p1, p2⟩ := suP_fin (m := m) (a := a) (b := b) (by omega) (by omega)
        obtain ⟨q1, q2⟩ := suP_fin (m := swM m) (a := ng a) (b := ng b) (by omega) (by omega)
        obtain ⟨r1, r2, r3⟩ := ad_ng (m := m) ha hb
        have hl := ad_lt m a b
        have hl2 := ad_bd m a b
        rw [p1, p2, q1, q2, r1, r2]
        refine ⟨rfl, ?_⟩
        obtain ⟨s1, _⟩ := sS_mag (n := adN m a b) hl.1 hl.2
        obtain ⟨t1, _⟩ := sS_mag (n := adN (swM m) (ng a) (ng b)) hl.1 hl.2
        by_cases h0 : adP m a b = 0
        · exact .inl ⟨by rw [s1]; exact h0, by rw [t1]; exact h0⟩
        · have hp : psI a b ≠ 0 := fun e => h0 (by unfold adP; rw [e]; simp [rnP])
          refine .inr (.inr ⟨by rw [s1]; exact h0, fun e => ?_, ?_⟩)
          · rw [e, nan_mag] at s1; omega
          · rw [r3 hp, ng_sS hl.1 hl.2, Bool.not_not]
end Go.Proofs.Ytgmfnecdpfdncaa

/-
  The document's Add (tillerref05), as a call in every world.
-/
namespace Go.Proofs.Ytgmfnecdpfdncaa
open Go.KRun Go.Nt Go.Wd Go.Rn Go.Pt
set_option maxRecDepth 100000
set_option linter.unusedVariables false

def hP2 (a b : Int) : Hp := ⟨2, [(wU (d16 (sg b).toNat), tU), (wU (d16 (sg a).toNat), tU)]⟩
def sH (a b : Int) : Int := smH (hP2 a b) (sgn a) (sgn b) (xp a) (xp b) 0 0 (d16 (sg a).toNat).length 1 0 (d16 (sg b).toNat).length
def lH (a b : Int) : Int := lowS (xp a) (xp b) (d16 (sg a).toNat).length (d16 (sg b).toNat).length
def hP3 (a b : Int) : Hp := nxt (hP2 a b) (sH a b).natAbs
def lFi (a b : Int) : Log := [(okSm (hP2 a b) (ad 0 0) (ad 1 0) (d16 (sg a).toNat).length (d16 (sg a).toNat).length (d16 (sg b).toNat).length (d16 (sg b).toNat).length (xp a) (xp b), true), lU b, lU a, (mag b == 9218868437227405312, false), lU b, (mag a == 9218868437227405312, false), lU a, (decide (cl b > 3), false), lU b, (decide (cl a > 3), false), lU a]
theorem ra_n1 (a b m : Int) : Fits (reckon (tabH Try.prog extY conRA hcS) 300 9 [.int .u64 a, .int .u64 b, .int .i64 m] [cmp true, cmp true]) (raT 9221120237041090560 1) [(cl a == 5, true), lU a, (decide (cl a > 3), true), lU a] := ⟨by kernel_rfl, by kernel_rfl, by kernel_rfl, by kernel_rfl⟩
theorem ra_n2 (a b m : Int) : Fits (reckon (tabH Try.prog extY conRA hcS) 300 9 [.int .u64 a, .int .u64 b, .int .i64 m] [cmp true, cmp false, cmp true]) (raT 9221120237041090560 1) [(cl b == 5, true), lU b, (cl a == 5, false), lU a, (decide (cl a > 3), true), lU a] := ⟨by kernel_rfl, by kernel_rfl, by kernel_rfl, by kernel_rfl⟩
theorem ra_n3 (a b m : Int) : Fits (reckon (tabH Try.prog extY conRA hcS) 300 9 [.int .u64 a, .int .u64 b, .int .i64 m] [cmp true, cmp false, cmp false]) (raT 9221120237041090560 0) [(cl b == 5, false), lU b, (cl a == 5, false), lU a, (decide (cl a > 3), true), lU a] := ⟨by kernel_rfl, by kernel_rfl, by kernel_rfl, by kernel_rfl⟩
theorem ra_m1 (a b m : Int) : Fits (reckon (tabH Try.prog extY conRA hcS) 300 9 [.int .u64 a, .int .u64 b, .int .i64 m] [cmp false, cmp true, cmp true]) (raT 9221120237041090560 1) [(cl a == 5, true), lU a, (decide (cl b > 3), true), lU b, (decide (cl a > 3), false), lU a] := ⟨by kernel_rfl, by kernel_rfl, by kernel_rfl, by kernel_rfl⟩
theorem ra_m2 (a b m : Int) : Fits (reckon (tabH Try.prog extY conRA hcS) 300 9 [.int .u64 a, .int .u64 b, .int .i64 m] [cmp false, cmp true, cmp false, cmp true]) (raT 9221120237041090560 1) [(cl b == 5, true), lU b, (cl a == 5, false), lU a, (decide (cl b > 3), true), lU b, (decide (cl a > 3), false), lU a] := ⟨by kernel_rfl, by kernel_rfl, by kernel_rfl, by kernel_rfl⟩
theorem ra_m3 (a b m : Int) : Fits (reckon (tabH Try.prog extY conRA hcS) 300 9 [.int .u64 a, .int .u64 b, .int .i64 m] [cmp false, cmp true, cmp false, cmp false]) (raT 9221120237041090560 0) [(cl b == 5, false), lU b, (cl a == 5, false), lU a, (decide (cl b > 3), true), lU b, (decide (cl a > 3), false), lU a] := ⟨by kernel_rfl, by kernel_rfl, by kernel_rfl, by kernel_rfl⟩
theorem ra_ii (a b m : Int) : Fits (reckon (tabH Try.prog extY conRA hcS) 300 9 [.int .u64 a, .int .u64 b, .int .i64 m] [cmp false, cmp false, cmp true, cmp true, cmp true]) (raT 9221120237041090560 1) [(a != b, true), (mag a == mag b, true), lU b, lU a, (mag a == 9218868437227405312, true), lU a, (decide (cl b > 3), false), lU b, (decide (cl a > 3), false), lU a] := ⟨by kernel_rfl, by kernel_rfl, by kernel_rfl, by kernel_rfl⟩
theorem ra_is (a b m : Int) : Fits (reckon (tabH Try.prog extY conRA hcS) 300 9 [.int .u64 a, .int .u64 b, .int .i64 m] [cmp false, cmp false, cmp true, cmp true, cmp false, cmp true]) (raT a 0) [(mag a == 9218868437227405312, true), lU a, (a != b, false), (mag a == mag b, true), lU b, lU a, (mag a == 9218868437227405312, true), lU a, (decide (cl b > 3), false), lU b, (decide (cl a > 3), false), lU a] := ⟨by kernel_rfl, by kernel_rfl, by kernel_rfl, by kernel_rfl⟩
theorem ra_ia (a b m : Int) : Fits (reckon (tabH Try.prog extY conRA hcS) 300 9 [.int .u64 a, .int .u64 b, .int .i64 m] [cmp false, cmp false, cmp true, cmp false, cmp true]) (raT a 0) [(mag a == 9218868437227405312, true), lU a, (mag a == mag b, false), lU b, lU a, (mag a == 9218868437227405312, true), lU a, (decide (cl b > 3), false), lU b, (decide (cl a > 3), false), lU a] := ⟨by kernel_rfl, by kernel_rfl, by kernel_rfl, by kernel_rfl⟩
theorem ra_ib (a b m : Int) : Fits (reckon (tabH Try.prog extY conRA hcS) 300 9 [.int .u64 a, .int .u64 b, .int .i64 m] [cmp false, cmp false, cmp false, cmp true, cmp false, cmp false]) (raT b 0) [(mag a == 9218868437227405312, false), lU a, (mag a == mag b, false), lU b, lU a, (mag b == 9218868437227405312, true), lU b, (mag a == 9218868437227405312, false), lU a, (decide (cl b > 3), false), lU b, (decide (cl a > 3), false), lU a] := ⟨by kernel_rfl, by kernel_rfl, by kernel_rfl, by kernel_rfl⟩
theorem ra_fz (a b m : Int) : Fits (reckon (tabH Try.prog extY conRA hcS) 300 9 [.int .u64 a, .int .u64 b, .int .i64 m] [cmp false, cmp false, cmp false, cmp false, cmp false]) (raT (sS (sgS m (sgn a) (sgn b) (sH a b)) 0) 0) ((decide (sH a b ≠ 0), false) :: lFi a b) := ⟨by kernel_rfl, by kernel_rfl, by kernel_rfl, by kernel_rfl⟩
theorem ra_fr (a b m : Int) : Fits (reckon (tabH Try.prog extY conRA hcS) 300 9 [.int .u64 a, .int .u64 b, .int .i64 m] [cmp false, cmp false, cmp false, cmp false, cmp true]) (raT (sS (sgS m (sgn a) (sgn b) (sH a b)) (rnP m (sgS m (sgn a) (sgn b) (sH a b)) (vO (hP3 a b) (ad 2 0) (d16 (sH a b).natAbs).length) (lH a b))) (rnF m (sgS m (sgn a) (sgn b) (sH a b)) (vO (hP3 a b) (ad 2 0) (d16 (sH a b).natAbs).length) (lH a b))) ((okRo (hP3 a b) (ad 2 0) (d16 (sH a b).natAbs).length (d16 (sH a b).natAbs).length (lH a b), true) :: (decide (sH a b ≠ 0), true) :: lFi a b) := ⟨by kernel_rfl, by kernel_rfl, by kernel_rfl, by kernel_rfl⟩

/-! ### its numbers -/
theorem low_bd {Ex Ey : Int} (h1 : -1074 ≤ Ex) (h2 : -1074 ≤ Ey) (n n' : Nat) : -1074 ≤ lowS Ex Ey n n' := by
  unfold lowS lowM
  split
  · exact h1
  · split
    · exact h2
    · split <;> omega
theorem sm_low {Ex Ey : Int} (h1 : -1074 ≤ Ex) (h2 : -1074 ≤ Ey) {n n' X Y : Nat} (hX : n = 0 ↔ X = 0) (hY : n' = 0 ↔ Y = 0) (nx ny : Bool) : smI (-1074) nx Ex X ny Ey Y = smI (lowS Ex Ey n n') nx Ex X ny Ey Y * ((2 ^ (lowS Ex Ey n n' - -1074).toNat : Nat) : Int) := by
  by_cases c1 : n' = 0
  · have e : lowS Ex Ey n n' = Ex := by unfold lowS; rw [if_pos c1]
    rw [e, hY.1 c1]
    unfold smI
    rw [szF_nil, szF_nil, sgI_nil, Int.add_zero, Int.add_zero, szF_low h1 (Int.le_refl Ex), sgI_mul]
  · by_cases c2 : n = 0
    · have e : lowS Ex Ey n n' = Ey := by unfold lowS; rw [if_neg c1, if_pos c2]
      rw [e, hX.1 c2]
      unfold smI
      rw [szF_nil, szF_nil, sgI_nil, Int.zero_add, Int.zero_add, szF_low h2 (Int.le_refl Ey), sgI_mul]
    · have e : lowS Ex Ey n n' = lowM Ex Ey := by unfold lowS; rw [if_neg c1, if_neg c2]
      rw [e]
      exact smI_low (by unfold lowM; split <;> omega) (by unfold lowM; split <;> omega) (by unfold lowM; split <;> omega) nx ny X Y
theorem len_zero (V : Nat) : (d16 V).length = 0 ↔ V = 0 := by
  constructor
  · intro h; exact d16_zero (by omega)
  · intro h; rw [h]; unfold d16; rw [db_zero]; rfl
theorem sH_eq (a b : Int) : sH a b = smI (lH a b) (sgn a) (xp a) (sg a).toNat (sgn b) (xp b) (sg b).toNat := by
  have h0 : (hP2 a b).blk? 0 = some (wU (d16 (sg a).toNat), tU) := rfl
  have h1 : (hP2 a b).blk? 1 = some (wU (d16 (sg b).toNat), tU) := rfl
  unfold sH smH smS
  rw [vO_ad h0, vO_ad h1]
  rfl
theorem sH_ps (a b : Int) : psI a b = sH a b * ((2 ^ (lH a b - -1074).toNat : Nat) : Int) := by
  rw [sH_eq, psI_eq]
  exact sm_low (xp_bd a).1 (xp_bd b).1 (len_zero _) (len_zero _) _ _
theorem sH_round (m : Int) (n : Bool) (a b : Int) : rnP m n (sH a b).natAbs (lH a b) = rnP m n (psI a b).natAbs (-1074) ∧ rnF m n (sH a b).natAbs (lH a b) = rnF m n (psI a b).natAbs (-1074) := by
  have hl := low_bd (xp_bd a).1 (xp_bd b).1 (d16 (sg a).toNat).length (d16 (sg b).toNat).length
  have hl' : -1074 ≤ lH a b := hl
  have ea : (psI a b).natAbs = (sH a b).natAbs * 2 ^ (lH a b - -1074).toNat := by rw [sH_ps, Int.natAbs_mul, Int.natAbs_natCast]
  have eG : lH a b - ((lH a b - -1074).toNat : Int) = -1074 := by omega
  have sp := rnP_scale m n (sH a b).natAbs (lH a b - -1074).toNat (lH a b)
  have sf := rnF_scale m n (sH a b).natAbs (lH a b - -1074).toNat (lH a b)
  rw [eG, ← ea] at sp sf
  exact ⟨sp.symm, sf.symm⟩
theorem sH_sgn (m a b : Int) : sgS m (sgn a) (sgn b) (sH a b) = adN m a b := by
  unfold adN
  rw [sH_ps, sgS_mul m _ _ _ (Nat.pow_pos (by omega))]
theorem sH_zero (a b : Int) : sH a b = 0 ↔ psI a b = 0 := by
  have hp : (0 : Int) < ((2 ^ (lH a b - -1074).toNat : Nat) : Int) := by
    have : 0 < 2 ^ (lH a b - -1074).toNat := Nat.pow_pos (by omega)
    omega
  rw [sH_ps, Int.mul_eq_zero]
  omega
theorem low_near {Ex Ey : Int} (n n' : Nat) : lowS Ex Ey n n' = Ex ∨ lowS Ex Ey n n' = Ey := by
  unfold lowS lowM
  split
  · exact .inl rfl
  · split
    · exact .inr rfl
    · split
      · exact .inr rfl
      · exact .inl rfl
theorem szF_lt {F E : Int} {X k j : Nat} (hX : X < 2 ^ k) (h : (E - F).toNat ≤ j) : szF F E X < 2 ^ (k + j) := by
  unfold szF
  have hp : 0 < 2 ^ (E - F).toNat := Nat.pow_pos (by omega)
  have h1 := Nat.mul_lt_mul_of_pos_right hX hp
  rw [← Nat.pow_add] at h1
  exact Nat.lt_of_lt_of_le h1 (Nat.pow_le_pow_right (by omega) (by omega))
theorem sH_lt (a b : Int) : (sH a b).natAbs < 2 ^ (16 * 140) := by
  have ha := sg_lt a
  have hb := sg_lt b
  have xa := xp_bd a
  have xb := xp_bd b
  have hl : lH a b = xp a ∨ lH a b = xp b := low_near _ _
  have e53 : (2 : Nat) ^ 53 = 9007199254740992 := rfl
  obtain ⟨j, hj⟩ : ∃ j : Nat, j = 2046 := ⟨_, rfl⟩
  have p1 := szF_lt (F := lH a b) (E := xp a) (X := (sg a).toNat) (k := 53) (j := j) (by omega) (by omega)
  have p2 := szF_lt (F := lH a b) (E := xp b) (X := (sg b).toNat) (k := 53) (j := j) (by omega) (by omega)
  have e : (2 : Nat) ^ (16 * 140) = 2 ^ 141 * 2 ^ (53 + j) := by rw [← Nat.pow_add]; congr 1; omega
  rw [sH_eq]
  unfold smI
  rw [e]
  generalize szF (lH a b) (xp a) (sg a).toNat = P at *
  generalize szF (lH a b) (xp b) (sg b).toNat = Q at *
  generalize (2 : Nat) ^ (53 + j) = Z at *
  have e2 : (2 : Nat) ^ 141 = 2787593149816327892691964784081045188247552 := rfl
  rw [e2]
  cases sgn a <;> cases sgn b <;> simp only [sgI] <;> omega
theorem nA_le (p : Int) : (d16 (sg p).toNat).length ≤ 4 := by
  have := sg_lt p
  refine d16_len (k := 4) ?_
  have e : (2 : Nat) ^ (16 * 4) = 18446744073709551616 := rfl
  omega
theorem okSm_pat (a b : Int) : okSm (hP2 a b) (ad 0 0) (ad 1 0) (d16 (sg a).toNat).length (d16 (sg a).toNat).length (d16 (sg b).toNat).length (d16 (sg b).toNat).length (xp a) (xp b) = true := by
  have h0 : (hP2 a b).blk? 0 = some (wU (d16 (sg a).toNat), tU) := rfl
  have h1 : (hP2 a b).blk? 1 = some (wU (d16 (sg b).toNat), tU) := rfl
  have la := nA_le a
  have lb := nA_le b
  have xa := xp_bd a
  have xb := xp_bd b
  unfold okSm ad
  rw [rowP_d16 h0 (by omega), rowOf_d16 h0, rowP_d16 h1 (by omega), rowOf_d16 h1, show canB (d16 (sg a).toNat) = true from canB_mk (can_db (by omega) _), show canB (d16 (sg b).toNat) = true from canB_mk (can_db (by omega) _), blt_iff.2 (by omega), blt_iff.2 (by omega), decide_eq_true ⟨⟨by omega, by omega⟩, by omega, by omega⟩]
  rfl
theorem radd_calls (a b m : Int) (ha : U a) (hb : U b) (w : World) : Calls Try.prog 9 #[.int .u64 a, .int .u64 b, .int .i64 m] w fun r w' => r = .returned (raT (suP m a b) (suF m a b)) ∧ Tidy w w' := by
  have hv : ([.int .u64 a, .int .u64 b, .int .i64 m].all (lt 0)) = true := rfl
  have ka : decide (U a) = true := decide_eq_true ha
  have kb : decide (U b) = true := decide_eq_true hb
  have T := tabH_ok conRA_ok hcS_ok
  obtain ⟨a1, a2, a3⟩ := mag_cl a
  obtain ⟨b1, b2, b3⟩ := mag_cl b
  by_cases hna : 3 < cl a
  · have g1 : decide (cl a > 3) = true := decide_eq_true hna
    rw [suP_nan (.inl hna)]
    have hF : suF m a b = if cl a = 5 ∨ cl b = 5 then 1 else 0 := by unfold suF; rw [if_pos (.inl hna)]
    rw [hF]
    by_cases ca : cl a = 5
    · rw [if_pos (.inl ca)]
      exact fits_calls T (ra_n1 a b m) (okCons (beq_t ca) (okCons ka (okCons g1 (okL1 ka)))) hv (by rfl) w
    · by_cases cb : cl b = 5
      · rw [if_pos (.inr cb)]
        exact fits_calls T (ra_n2 a b m) (okCons (beq_t cb) (okCons kb (okCons (beq_f ca) (okCons ka (okCons g1 (okL1 ka)))))) hv (by rfl) w
      · rw [if_neg (by omega)]
        exact fits_calls T (ra_n3 a b m) (okCons (beq_f cb) (okCons kb (okCons (beq_f ca) (okCons ka (okCons g1 (okL1 ka)))))) hv (by rfl) w
  · have g1 : decide (cl a > 3) = false := decide_eq_false hna
    by_cases hnb : 3 < cl b
    · have g2 : decide (cl b > 3) = true := decide_eq_true hnb
      rw [suP_nan (.inr hnb)]
      have hF : suF m a b = if cl a = 5 ∨ cl b = 5 then 1 else 0 := by unfold suF; rw [if_pos (.inr hnb)]
      rw [hF]
      have ca : cl a ≠ 5 := by omega
      by_cases cb : cl b = 5
      · rw [if_pos (.inr cb)]
        exact fits_calls T (ra_m2 a b m) (okCons (beq_t cb) (okCons kb (okCons (beq_f ca) (okCons ka (okCons g2 (okCons kb (okCons g1 (okL1 ka)))))))) hv (by rfl) w
      · rw [if_neg (by omega)]
        exact fits_calls T (ra_m3 a b m) (okCons (beq_f cb) (okCons kb (okCons (beq_f ca) (okCons ka (okCons g2 (okCons kb (okCons g1 (okL1 ka)))))))) hv (by rfl) w
    · have g2 : decide (cl b > 3) = false := decide_eq_false hnb
      have l0 : okLog [(decide (cl b > 3), false), lU b, (decide (cl a > 3), false), lU a] := okCons g2 (okCons kb (okCons g1 (okL1 ka)))
      by_cases ea : cl a = 3
      · have ma : mag a = 9218868437227405312 := a2.1 ea
        by_cases eb : cl b = 3
        · have mm : mag a = mag b := by rw [ma, b2.1 eb]
          by_cases hab : a = b
          · obtain ⟨p1, p2⟩ := suP_infa (m := m) (b := b) ea (by omega) (fun h => h.2 hab)
            rw [p1, p2]
            exact fits_calls T (ra_is a b m) (okCons (beq_t ma) (okCons ka (okCons (bne_f hab) (okCons (beq_t mm) (okCons kb (okCons ka (okCons (beq_t ma) (okCons ka l0)))))))) hv (by rfl) w
          · obtain ⟨p1, p2⟩ := suP_infi (m := m) ea eb hab
            rw [p1, p2]
            exact fits_calls T (ra_ii a b m) (okCons (bne_t hab) (okCons (beq_t mm) (okCons kb (okCons ka (okCons (beq_t ma) (okCons ka l0)))))) hv (by rfl) w
        · have mm : mag a ≠ mag b := fun e => eb (b2.2 (by omega))
          obtain ⟨p1, p2⟩ := suP_infa (m := m) (b := b) ea (by omega) (fun h => eb h.1)
          rw [p1, p2]
          exact fits_calls T (ra_ia a b m) (okCons (beq_t ma) (okCons ka (okCons (beq_f mm) (okCons kb (okCons ka (okCons (beq_t ma) (okCons ka l0))))))) hv (by rfl) w
      · have ma : mag a ≠ 9218868437227405312 := fun e => ea (a2.2 e)
        by_cases eb : cl b = 3
        · have mb : mag b = 9218868437227405312 := b2.1 eb
          have mm : mag a ≠ mag b := fun e => ea (a2.2 (by omega))
          obtain ⟨p1, p2⟩ := suP_infb (m := m) (a := a) (by omega) eb
          rw [p1, p2]
          exact fits_calls T (ra_ib a b m) (okCons (beq_f ma) (okCons ka (okCons (beq_f mm) (okCons kb (okCons ka (okCons (beq_t mb) (okCons kb (okCons (beq_f ma) (okCons ka l0))))))))) hv (by rfl) w
        · have mb : mag b ≠ 9218868437227405312 := fun e => eb (b2.2 e)
          obtain ⟨p1, p2⟩ := suP_fin (m := m) (a := a) (b := b) (by omega) (by omega)
          rw [p1, p2]
          have lF : okLog (lFi a b) := okCons (okSm_pat a b) (okCons kb (okCons ka (okCons (beq_f mb) (okCons kb (okCons (beq_f ma) (okCons ka l0))))))
          by_cases hz : sH a b = 0
          · have hp := (sH_zero a b).1 hz
            have e1 : adP m a b = 0 := by unfold adP; rw [hp]; simp [rnP]
            have e2 : adF m a b = 0 := by unfold adF; rw [hp]; simp [rnF]
            have hf := ra_fz a b m
            rw [sH_sgn] at hf
            rw [e1, e2]
            exact fits_calls T hf (okCons (decide_eq_false (fun h => h hz)) lF) hv (by rfl) w
          · have hf := ra_fr a b m
            have h2 : (hP3 a b).blk? 2 = some (wU (d16 (sH a b).natAbs), tU) := rfl
            have hr := sH_round m (adN m a b) a b
            have hl : (d16 (sH a b).natAbs).length ≤ 140 := d16_len (sH_lt a b)
            have xa := xp_bd a
            have xb := xp_bd b
            have hlo : lH a b = xp a ∨ lH a b = xp b := low_near _ _
            have ko : okRo (hP3 a b) (ad 2 0) (d16 (sH a b).natAbs).length (d16 (sH a b).natAbs).length (lH a b) = true := by
              unfold okRo ad
              rw [rowP_d16 h2 (by omega), rowOf_d16 h2, show canB (d16 (sH a b).natAbs) = true from canB_mk (can_db (by omega) _), blt_iff.2 (by omega), decide_eq_true (by omega)]
              rfl
            rw [sH_sgn, vO_ad h2, hr.1, hr.2] at hf
            exact fits_calls T hf (okCons ko (okCons (decide_eq_true hz) lF)) hv (by rfl) w
def gRA : Ans := fun vals s =>
  match vals with
  | [.int .u64 a, .int .u64 b, .int .i64 m] => some (raT (suP m a b) (suF m a b), s, [(decide (U a ∧ U b), true)])
  | _ => none
theorem gRA_ok : AnsOk 9 gRA := by
  intro vals s v s' lg h hl w
  unfold gRA at h
  split at h
  · cases h
    obtain ⟨h1, h2⟩ := of_decide_eq_true (hl _ (List.mem_singleton.2 rfl))
    exact radd_calls _ _ _ h1 h2 w
  · cases h
end Go.Proofs.Ytgmfnecdpfdncaa
