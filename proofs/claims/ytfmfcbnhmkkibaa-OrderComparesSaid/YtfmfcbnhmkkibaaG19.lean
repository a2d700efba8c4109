/-
  PLAIN ARITHMETIC: the sum of two patterns' numbers, rounded.
-/
import Derived.Test.YtfmfcbnhmkkibaaG18
import Derived.Test.YtfmfcbnhmkkibaaG14
import Derived.Test.YtfmfcbnhmkkibaaG15
import Derived.Test.YtfmfcbnhmkkibaaG05
import Derived.Test.YtfmfcbnhmkkibaaG12
import Derived.Test.YtfmfcbnhmkkibaaG13
namespace Go.Rn
open Go.Nt Go.Wd Go.Pt

theorem szF_low {F G E : Int} (h1 : F ≤ G) (h2 : G ≤ E) (X : Nat) : szF F E X = szF G E X * 2 ^ (G - F).toNat := by
  unfold szF
  rw [Nat.mul_assoc, ← Nat.pow_add]
  congr 2
  omega
theorem sgI_mul (n : Bool) (A K : Nat) : sgI n (A * K) = sgI n A * (K : Int) := by
  cases n
  · simp [sgI]
  · simp only [sgI, Int.natCast_mul]; rw [Int.neg_mul]
theorem smI_low {F G Ex Ey : Int} (h1 : F ≤ G) (h2 : G ≤ Ex) (h3 : G ≤ Ey) (nx ny : Bool) (X Y : Nat) : smI F nx Ex X ny Ey Y = smI G nx Ex X ny Ey Y * ((2 ^ (G - F).toNat : Nat) : Int) := by
  unfold smI
  rw [szF_low h1 h2, szF_low h1 h3, sgI_mul, sgI_mul, Int.add_mul]
theorem sgS_mul (m : Int) (nx ny : Bool) (S : Int) {K : Nat} (hK : 0 < K) : sgS m nx ny (S * (K : Int)) = sgS m nx ny S := by
  have hk : (0 : Int) < (K : Int) := by omega
  have e0 : S * (K : Int) = 0 ↔ S = 0 := by rw [Int.mul_eq_zero]; omega
  have e1 : S * (K : Int) < 0 ↔ S < 0 := by
    constructor
    · intro h
      rcases Int.lt_or_le S 0 with h1 | h1
      · exact h1
      · have := Int.mul_nonneg h1 (Int.le_of_lt hk); omega
    · intro h; exact Int.mul_neg_of_neg_of_pos h hk
  unfold sgS
  simp only [e0, e1]
/-- what was told in units is rounded as the sum itself -/
theorem xu_round {G Ex Ey : Int} {X Y : Nat} (hX : May Ex X) (hY : May Ey Y) (hx : G ≤ Ex) (hy : G ≤ Ey) (k m : Int) (n nx ny : Bool) :
    rnP k n (2 * xuQ nx Ex X ny Ey Y + bN (xuB nx Ex X ny Ey Y)) (unN Ex X Ey Y - 1) = rnP k n (smI G nx Ex X ny Ey Y).natAbs G
    ∧ rnF k n (2 * xuQ nx Ex X ny Ey Y + bN (xuB nx Ex X ny Ey Y)) (unN Ex X Ey Y - 1) = rnF k n (smI G nx Ex X ny Ey Y).natAbs G
    ∧ xuN m nx Ex X ny Ey Y = sgS m nx ny (smI G nx Ex X ny Ey Y) := by
  obtain ⟨F, hF⟩ : ∃ F, F = min (unN Ex X Ey Y) G := ⟨_, rfl⟩
  have h1 : F ≤ unN Ex X Ey Y := by omega
  have h2 : F ≤ G := by omega
  obtain ⟨a, b, c⟩ := xu_sum hX hY h1 (by omega) (by omega) m nx ny
  have hK : 0 < 2 ^ (G - F).toNat := Nat.pow_pos (by omega)
  have es := smI_low (X := X) (Y := Y) h2 hx hy nx ny
  have ea : (smI F nx Ex X ny Ey Y).natAbs = (smI G nx Ex X ny Ey Y).natAbs * 2 ^ (G - F).toNat := by rw [es, Int.natAbs_mul, Int.natAbs_natCast]
  obtain ⟨p, q⟩ := stk_round (m := k) (neg := n) (F := F) b
  have eu : F + ((unN Ex X Ey Y - F).toNat : Int) - 1 = unN Ex X Ey Y - 1 := by omega
  have eG : G - ((G - F).toNat : Int) = F := by omega
  have sp := rnP_scale k n (smI G nx Ex X ny Ey Y).natAbs (G - F).toNat G
  have sf := rnF_scale k n (smI G nx Ex X ny Ey Y).natAbs (G - F).toNat G
  rw [eG, ← ea] at sp sf
  rw [eu] at p q
  refine ⟨by rw [a, p, sp], by rw [a, q, sf], ?_⟩
  rw [c, es, sgS_mul m nx ny _ hK]

/-! ### patterns -/
/-- a finite pattern's size, in units of 2^-1074 -/
def uV (p : Int) : Nat := szF (-1074) (xp p) (sg p).toNat
def pvI (p : Int) : Int := sgI (sgn p) (uV p)
def psI (a b : Int) : Int := pvI a + pvI b
theorem psI_eq (a b : Int) : psI a b = smI (-1074) (sgn a) (xp a) (sg a).toNat (sgn b) (xp b) (sg b).toNat := rfl
theorem xp_bd (p : Int) : -1074 ≤ xp p ∧ xp p ≤ 972 := by
  have := ex_lt p
  unfold xp
  split
  · omega
  · split <;> omega
theorem sg_lt (p : Int) : 0 ≤ sg p ∧ sg p < 9007199254740992 := by
  have := fr_lt p
  unfold sg
  split
  · omega
  · split <;> omega
theorem may_pat (p : Int) : May (xp p) (sg p).toNat := by
  have h1 := xp_bd p
  have h2 := sg_lt p
  refine ⟨?_, by omega, by omega⟩
  have : (2 : Nat) ^ 128 = 340282366920938463463374607431768211456 := rfl
  omega
def adN (m a b : Int) : Bool := sgS m (sgn a) (sgn b) (psI a b)
def adP (m a b : Int) : Int := rnP m (adN m a b) (psI a b).natAbs (-1074)
def adF (m a b : Int) : Int := rnF m (adN m a b) (psI a b).natAbs (-1074)
theorem psI_comm (a b : Int) : psI a b = psI b a := by unfold psI; omega
theorem sgS_comm (m : Int) (nx ny : Bool) (S : Int) : sgS m nx ny S = sgS m ny nx S := by
  have e : (if nx = ny then nx else decide (m = 4)) = (if ny = nx then ny else decide (m = 4)) := by cases nx <;> cases ny <;> rfl
  unfold sgS
  rw [e]
theorem adN_comm (m a b : Int) : adN m a b = adN m b a := by unfold adN; rw [psI_comm, sgS_comm]
theorem ad_comm (m a b : Int) : adP m a b = adP m b a ∧ adF m a b = adF m b a := by unfold adP adF; rw [adN_comm, psI_comm]; exact ⟨rfl, rfl⟩
/-- a pattern's own number is rounded to it -/
theorem own_uV {m : Int} {n : Bool} {p : Int} (h : ex p ≠ 2047) : rnP m n (uV p) (-1074) = mag p ∧ rnF m n (uV p) (-1074) = 0 := by
  have hb := xp_bd p
  obtain ⟨a, b⟩ := own_pat (m := m) (neg := n) h
  have e1 := rnP_scale m n (sg p).toNat (xp p + 1074).toNat (xp p)
  have e2 := rnF_scale m n (sg p).toNat (xp p + 1074).toNat (xp p)
  have e3 : xp p - ((xp p + 1074).toNat : Int) = -1074 := by omega
  have e4 : uV p = (sg p).toNat * 2 ^ (xp p + 1074).toNat := by
    unfold uV szF
    congr 2
  rw [e3, ← e4] at e1 e2
  exact ⟨by rw [e1, a], by rw [e2, b]⟩
theorem uV_zero {p : Int} (h : ex p ≠ 2047) : uV p = 0 ↔ mag p = 0 := by
  have h1 := ex_lt p
  have h2 := fr_lt p
  have h4 : mag p = 4503599627370496 * ex p + fr p := by unfold mag ex fr; omega
  have hp : 0 < 2 ^ (xp p - -1074).toNat := Nat.pow_pos (by omega)
  have e : uV p = 0 ↔ sg p = 0 := by
    have := sg_lt p
    unfold uV szF
    rw [Nat.mul_eq_zero]
    omega
  rw [e, h4]
  unfold sg
  split
  · omega
  · omega
/-- of a sum without flags the pattern's number is the sum -/
theorem back_uV {m : Int} {n : Bool} {A : Nat} (h : rnF m n A (-1074) = 0) : rnP m n A (-1074) < 9218868437227405312 ∧ uV (rnP m n A (-1074)) = A := by
  by_cases hA : A = 0
  · subst hA
    have e : rnP m n 0 (-1074) = 0 := by simp [rnP]
    rw [e]
    refine ⟨by omega, ?_⟩
    rw [uV_zero (by decide)]
    decide
  · unfold rnF at h
    rw [if_neg hA] at h
    have hb : ¬ 9218868437227405312 ≤ p0 m n A (-1074) := fun hc => by rw [if_pos hc] at h; omega
    rw [if_neg hb] at h
    have hl : toL A (-1074) (lowE A (-1074)) = false := by
      cases hc : toL A (-1074) (lowE A (-1074)) with
      | false => rfl
      | true => rw [hc, if_pos rfl] at h; split at h <;> omega
    have hp : rnP m n A (-1074) = p0 m n A (-1074) := by unfold rnP; rw [if_neg hA, if_neg hb]
    rw [hp]
    refine ⟨by omega, ?_⟩
    have hlow := lowE_ge A (-1074)
    have hq := low_hi m n A (-1074)
    -- the multiple, exactly
    have hx : A = toQ m n A (-1074) (lowE A (-1074)) * 2 ^ (lowE A (-1074) + 1074).toNat := by
      unfold toQ toL at *
      by_cases he : lowE A (-1074) ≤ -1074
      · rw [if_pos he]
        have e0 : lowE A (-1074) = -1074 := by omega
        rw [e0]
        simp
      · rw [if_neg he] at hl ⊢
        have e1 : (lowE A (-1074) - -1074).toNat = (lowE A (-1074) + 1074).toNat := by omega
        rw [e1] at hl ⊢
        have hm : A % 2 ^ (lowE A (-1074) + 1074).toNat = 0 := by simpa using hl
        rw [rq_exact hm]
        have := Nat.div_add_mod A (2 ^ (lowE A (-1074) + 1074).toNat)
        rw [hm, Nat.mul_comm] at this
        omega
    have hlo : lowE A (-1074) = -1074 ∨ 4503599627370496 ≤ toQ m n A (-1074) (lowE A (-1074)) := by
      by_cases h1 : lowE A (-1074) = -1074
      · exact .inl h1
      · right
        refine low_lo hA ?_
        unfold lowE at h1
        split at h1 <;> omega
    have hpe : p0 m n A (-1074) = (lowE A (-1074) + 1074) * 4503599627370496 + (toQ m n A (-1074) (lowE A (-1074)) : Nat) := rfl
    generalize toQ m n A (-1074) (lowE A (-1074)) = q at *
    generalize lowE A (-1074) = e at *
    rw [hpe] at hb ⊢
    obtain ⟨j, hj⟩ : ∃ j : Nat, e = (j : Int) - 1074 := ⟨(e + 1074).toNat, by omega⟩
    have ej : (e + 1074).toNat = j := by omega
    have ej' : e + 1074 = (j : Int) := by omega
    rw [ej] at hx
    rw [ej'] at hb ⊢
    clear ej ej'
    rw [hx]
    unfold uV szF xp sg
    by_cases c0 : q < 4503599627370496
    · have j0 : j = 0 := by omega
      subst j0
      have ee : ex (((0 : Nat) : Int) * 4503599627370496 + (q : Int)) = 0 := by unfold ex; omega
      have ef : fr (((0 : Nat) : Int) * 4503599627370496 + (q : Int)) = (q : Int) := by unfold fr; omega
      rw [ee, ef]
      simp
    · by_cases c1 : q = 9007199254740992
      · have ee : ex ((j : Int) * 4503599627370496 + (q : Int)) = (j : Int) + 2 := by unfold ex; omega
        have ef : fr ((j : Int) * 4503599627370496 + (q : Int)) = 0 := by unfold fr; omega
        rw [ee, ef, if_neg (by omega), if_neg (by omega), if_neg (by omega), if_neg (by omega)]
        have e1 : ((j : Int) + 2 - 1075 - -1074).toNat = j + 1 := by omega
        rw [e1, c1, Nat.pow_succ]
        have e2 : ((0 : Int) + 4503599627370496).toNat = 4503599627370496 := rfl
        rw [e2]
        omega
      · have ee : ex ((j : Int) * 4503599627370496 + (q : Int)) = (j : Int) + 1 := by unfold ex; omega
        have ef : fr ((j : Int) * 4503599627370496 + (q : Int)) = (q : Int) - 4503599627370496 := by unfold fr; omega
        rw [ee, ef, if_neg (by omega), if_neg (by omega), if_neg (by omega), if_neg (by omega)]
        have e1 : ((j : Int) + 1 - 1075 - -1074).toNat = j := by omega
        have e2 : ((q : Int) - 4503599627370496 + 4503599627370496).toNat = q := by omega
        rw [e1, e2]
/-- the other sign -/
def ng (p : Int) : Int := (p + 9223372036854775808) % 18446744073709551616
theorem ng_parts {p : Int} (hp : U p) : U (ng p) ∧ sgn (ng p) = !sgn p ∧ ex (ng p) = ex p ∧ fr (ng p) = fr p ∧ mag (ng p) = mag p := by
  unfold U at hp
  unfold ng U sgn ex fr mag
  refine ⟨by omega, ?_, by omega, by omega, by omega⟩
  by_cases h : 9223372036854775808 ≤ p
  · rw [decide_eq_true h, decide_eq_false (by omega)]; rfl
  · rw [decide_eq_false h, decide_eq_true (by omega)]; rfl
theorem ng_num {p : Int} (hp : U p) : xp (ng p) = xp p ∧ sg (ng p) = sg p ∧ cl (ng p) = cl p ∧ uV (ng p) = uV p ∧ pvI (ng p) = - pvI p := by
  obtain ⟨_, h1, h2, h3, _⟩ := ng_parts hp
  have e1 : xp (ng p) = xp p := by unfold xp; rw [h2]
  have e2 : sg (ng p) = sg p := by unfold sg; rw [h2, h3]
  have e4 : uV (ng p) = uV p := by unfold uV; rw [e1, e2]
  refine ⟨e1, e2, by unfold cl; rw [h2, h3], e4, ?_⟩
  unfold pvI
  rw [h1, e4]
  cases sgn p <;> simp [sgI]
theorem psI_ng {a b : Int} (ha : U a) (hb : U b) : psI (ng a) (ng b) = - psI a b := by
  unfold psI
  rw [(ng_num ha).2.2.2.2, (ng_num hb).2.2.2.2]
  omega
theorem ad_ng {m a b : Int} (ha : U a) (hb : U b) : adP (swM m) (ng a) (ng b) = adP m a b ∧ adF (swM m) (ng a) (ng b) = adF m a b ∧ (psI a b ≠ 0 → adN (swM m) (ng a) (ng b) = !adN m a b) := by
  have e := psI_ng ha hb
  have hn : psI a b ≠ 0 → adN (swM m) (ng a) (ng b) = !adN m a b := fun h => by
    unfold adN sgS
    rw [e, if_neg (by omega), if_neg h]
    by_cases h2 : psI a b < 0
    · rw [decide_eq_true h2, decide_eq_false (by omega)]; rfl
    · rw [decide_eq_false h2, decide_eq_true (by omega)]; rfl
  by_cases h : psI a b = 0
  · refine ⟨?_, ?_, hn⟩
    · unfold adP; rw [e, h]; simp [rnP]
    · unfold adF; rw [e, h]; simp [rnF]
  · have h1 := hn h
    refine ⟨?_, ?_, hn⟩
    · unfold adP; rw [h1, e, Int.natAbs_neg, rnP_swM]
    · unfold adF; rw [h1, e, Int.natAbs_neg, rnF_swM]
theorem ad_self {m a : Int} (ha : U a) : psI a (ng a) = 0 ∧ adN m a (ng a) = decide (m = 4) ∧ adP m a (ng a) = 0 ∧ adF m a (ng a) = 0 := by
  have e : psI a (ng a) = 0 := by unfold psI; rw [(ng_num ha).2.2.2.2]; omega
  refine ⟨e, ?_, by unfold adP; rw [e]; simp [rnP], by unfold adF; rw [e]; simp [rnF]⟩
  unfold adN sgS
  rw [if_pos e, (ng_parts ha).2.1, if_neg (by cases sgn a <;> simp)]
theorem sgI_abs (n : Bool) (A : Nat) : (sgI n A).natAbs = A := by cases n <;> simp [sgI]
theorem sgI_neg {n : Bool} {A : Nat} (h : A ≠ 0) : decide (sgI n A < 0) = n ∧ sgI n A ≠ 0 := by
  cases n
  · exact ⟨decide_eq_false (by simp only [sgI]; omega), by simp only [sgI]; omega⟩
  · exact ⟨decide_eq_true (by simp only [sgI]; omega), by simp only [sgI]; omega⟩
/-- where the sum is a pattern's number -/
theorem ad_num {m a b p : Int} (hf : ex p ≠ 2047) (h0 : mag p ≠ 0) (hs : psI a b = pvI p) : adN m a b = sgn p ∧ adP m a b = mag p ∧ adF m a b = 0 := by
  have hu : uV p ≠ 0 := fun h => h0 ((uV_zero hf).1 h)
  obtain ⟨n1, n2⟩ := sgI_neg (n := sgn p) hu
  have hn : adN m a b = sgn p := by
    unfold adN sgS
    rw [hs]
    unfold pvI
    rw [if_neg n2, n1]
  have hab : (psI a b).natAbs = uV p := by rw [hs]; exact sgI_abs _ _
  obtain ⟨q1, q2⟩ := own_uV (m := m) (n := sgn p) hf
  refine ⟨hn, ?_, ?_⟩
  · unfold adP; rw [hn, hab, q1]
  · unfold adF; rw [hn, hab, q2]
theorem pvI_zero : pvI 0 = 0 := by decide
theorem ad_zero {m a : Int} (hf : ex a ≠ 2047) (h0 : mag a ≠ 0) : adN m a 0 = sgn a ∧ adP m a 0 = mag a ∧ adF m a 0 = 0 := ad_num hf h0 (by unfold psI; rw [pvI_zero]; omega)
theorem ad_bd (m a b : Int) : 0 ≤ adP m a b ∧ adP m a b ≤ 9218868437227405312 := rnP_bd _ _ _ _
end Go.Rn

/-
  The document's Pattern (tillerref04), as a contract.
-/
namespace Go.Proofs.Ytfmfcbnhmkkibaa
open Go.KRun Go.Nt Go.Wd Go.Rn Go.Pt
set_option maxRecDepth 100000
set_option linter.unusedVariables false

def bPt (p : Int) : List Value × TypeId := ([.bool (sgn p), .int .i64 (cl p), .int .i64 (xp p), .int .u64 (sg p)], 42)
def hcPt : Hc := altH 46 gUof hcN
theorem hcPt_ok : HcOk hcPt := altH_ok Try.func46 rfl gUof_ok hcN_ok
def conPt : Con := alt 41 (gU vT) conN
theorem conPt_ok : ConOk conPt := alt_ok Try.func41 rfl ref_ok conN_ok
theorem pt_body : Try.f42.body = some (cBody Try.f42) := by kernel_rfl
theorem pt_go (p : Int) : GoesT (evC (tabH Try.prog extY conPt hcPt) 200 false (cBody Try.f42) ([.int .u64 p] ++ List.replicate 13 undef, ⟨0, []⟩, []) ⟨[], [], []⟩) 3 11 (some none) [.int .u64 p, undef, .pointer (some ⟨0, 0, none⟩)] ⟨3, [(wU (d16 (sg p).toNat), tU), ([.bool (sgn p), .int .i64 (cl p), .int .i64 (xp p), .int .u64 (sg p)], 42), bOf (sgn p) (xp p) (sOf 2 (sg p).toNat)]⟩ [(decide (0 ≤ sg p ∧ sg p < 18446744073709551616), true), (decide (U p), true)] := ⟨by kernel_rfl, by kernel_rfl, by kernel_rfl⟩
def gPt : AnsH := fun vals h s =>
  match vals with
  | [.int .u64 p] => some (vRN (sgn p) (xp p) (sOf h.n (sg p).toNat), h.push (wU (d16 (sg p).toNat)) tU, s, [(decide (U p), true)])
  | _ => none
theorem gPt_ok : AnsHOk 42 gPt := by
  intro vals h s v h' s' lg hg hl m B w E hv
  unfold gPt at hg
  split at hg
  · rename_i p
    cases hg
    have q := hl _ (List.mem_singleton.2 rfl)
    have hs := sg_lt p
    have hr : RunsW (tabH Try.prog extY conPt hcPt) (cBody Try.f42) ([.int .u64 p] ++ List.replicate 13 undef, ⟨0, []⟩, []) fun e z => (e = none ∨ e = some none) ∧ ∃ k, resS Try.prog Try.f42 z.1 z.2.1 = some (vRN (sgn p) (xp p) (sOf k (sg p).toNat)) ∧ ∃ r, z.2.1.blk? k = some (wU (d16 (sg p).toNat) ++ r, tU) := by
      refine (goesT_runsW (tabH_ok conPt_ok hcPt_ok) (pt_go p) (okCons (decide_eq_true ⟨hs.1, by omega⟩) (okL1 q))).mono fun e z he => ?_
      obtain ⟨rfl, ⟨g, e1⟩, e2⟩ := he
      exact ⟨.inr rfl, 2, by rw [e1, e2]; rfl, [], by rw [e2, List.append_nil]; rfl⟩
    have := row_calls2 (T := tabH Try.prog extY conPt hcPt) Try.func42 pt_body (h0 := ⟨0, []⟩) ⟨rfl, fun b x hx => by have : b < 0 := Hp.blk_lt hx; omega⟩ (vals := [.int .u64 p]) (fun v hv => by rw [List.mem_singleton.1 hv]; rfl) (v := fun k => vRN (sgn p) (xp p) (sOf k (sg p).toNat)) (wU_lt _) (by kernel_rfl) hr (fun k => by simp [oc, oc2, oc1, sOf, sl, vRN]) E (s := fun i => i) (fun i x hx _ => by have : i < 0 := Hp.blk_lt hx; omega) (fun k => by simp [rn, rn2, rn1, sOf, sl, vRN])
    exact this
  · cases hg
end Go.Proofs.Ytfmfcbnhmkkibaa

/-
  Rows of parts of 16 bits that were made: what is asked of them.
-/
namespace Go.Proofs.Ytfmfcbnhmkkibaa
open Go.KRun Go.Nt
set_option maxRecDepth 100000

/-! ### rows that were made -/
theorem d16_len {A k : Nat} (h : A < 2 ^ (16 * k)) : (d16 A).length ≤ k := db_len (by omega) k A (by rw [pow16]; exact h)
theorem rowOf_d16 {h : Hp} {b A : Nat} {ty : TypeId} (hb : h.blk? b = some (wU (d16 A), ty)) : rowOf h (some ⟨b, 0, none⟩) (d16 A).length = d16 A := by
  simp only [rowOf, hb]
  exact cut_wU _
theorem vO_d16 {h : Hp} {b A : Nat} {ty : TypeId} (hb : h.blk? b = some (wU (d16 A), ty)) : vO h (some ⟨b, 0, none⟩) (d16 A).length = A := by
  unfold vO
  rw [rowOf_d16 hb]
  exact vb_db (by omega) A
theorem vO_nil (h : Hp) : vO h none 0 = 0 := rfl
theorem rowP_d16 {h : Hp} {b A : Nat} (hb : h.blk? b = some (wU (d16 A), tU)) (hl : (d16 A).length < 1073741824) : rowP h (some ⟨b, 0, none⟩) (d16 A).length (d16 A).length = true := by
  simp only [rowP, hb, Bool.and_eq_true]
  refine ⟨rowC_wU (fun x hx => ⟨(d16_dg A x hx).1, by have := (d16_dg A x hx).2; omega⟩) (by omega) ?_, List.all_eq_true.2 (wU_still _)⟩
  unfold capOk
  simp only [Bool.or_eq_true, Bool.and_eq_true]
  exact .inl ⟨blt_iff.2 (by unfold dead; omega), Nat.ble_eq_true_of_le (Nat.le_refl _)⟩
theorem dgB_d16 {h : Hp} {b A : Nat} {ty : TypeId} (hb : h.blk? b = some (wU (d16 A), ty)) : dgB (rowOf h (some ⟨b, 0, none⟩) (d16 A).length) = true := by
  rw [rowOf_d16 hb]
  exact dgB_mk (d16_dg A)
theorem two_d16 {h : Hp} {b b' A A' : Nat} (hb : h.blk? b = some (wU (d16 A), tU)) (hb' : h.blk? b' = some (wU (d16 A'), tU)) (hl : (d16 A).length < 1073741800) (hl' : (d16 A').length < 1073741800) : two16 h (some ⟨b, 0, none⟩) (some ⟨b', 0, none⟩) (d16 A).length (d16 A).length (d16 A').length (d16 A').length = true := by
  unfold two16
  rw [rowP_d16 hb (by omega), rowP_d16 hb' (by omega), dgB_d16 hb, dgB_d16 hb']
  simp only [Bool.true_and]
  exact blt_iff.2 (by omega)
theorem two_nil {h : Hp} {b A : Nat} (hb : h.blk? b = some (wU (d16 A), tU)) (hl : (d16 A).length < 1073741800) : two16 h none (some ⟨b, 0, none⟩) 0 0 (d16 A).length (d16 A).length = true := by
  unfold two16
  rw [rowP_d16 hb (by omega), dgB_d16 hb]
  simp only [Bool.and_true]
  exact Bool.and_eq_true_iff.2 ⟨rfl, blt_iff.2 (by omega)⟩
theorem d16_pos {A : Nat} (h : 0 < (d16 A).length) : A ≠ 0 := by
  rintro rfl
  unfold d16 at h
  rw [db_zero] at h
  simp at h
end Go.Proofs.Ytfmfcbnhmkkibaa
