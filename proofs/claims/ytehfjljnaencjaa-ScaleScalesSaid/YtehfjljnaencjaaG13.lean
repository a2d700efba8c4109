/-
  PLAIN ARITHMETIC: the sum of two patterns' numbers, rounded.
-/
import Derived.Test.YtehfjljnaencjaaG12
import Derived.Test.YtehfjljnaencjaaG09
import Derived.Test.YtehfjljnaencjaaG05
namespace Go.Rn
open Go.Nt Go.Wd Go.Pt

theorem szF_low {F G E : Int} (h1 : F ≤ G) (h2 : G ≤ E) (X : Nat) : szF F E X = szF G E X * 2 ^ (G - F).toNat := by
  unfold szF
  rw [Nat.mul_assoc, ← Nat.pow_add]
  congr 2
  omega
theorem sgI_mul (n : Bool) (A K : Nat) : sgI n (A * K) = sgI n A * (K : Int) := by
  cases n
  · simp [sgI]
  · simp only [sgI, Int.natCast_mul]; rw [Int.neg_mul]
theorem smI_low {F G Ex Ey : Int} (h1 : F ≤ G) (h2 : G ≤ Ex) (h3 : G ≤ Ey) (nx ny : Bool) (X Y : Nat) : smI F nx Ex X ny Ey Y = smI G nx Ex X ny Ey Y * ((2 ^ (G - F).toNat : Nat) : Int) := by
  unfold smI
  rw [szF_low h1 h2, szF_low h1 h3, sgI_mul, sgI_mul, Int.add_mul]
theorem sgS_mul (m : Int) (nx ny : Bool) (S : Int) {K : Nat} (hK : 0 < K) : sgS m nx ny (S * (K : Int)) = sgS m nx ny S := by
  have hk : (0 : Int) < (K : Int) := by omega
  have e0 : S * (K : Int) = 0 ↔ S = 0 := by rw [Int.mul_eq_zero]; omega
  have e1 : S * (K : Int) < 0 ↔ S < 0 := by
    constructor
    · intro h
      rcases Int.lt_or_le S 0 with h1 | h1
      · exact h1
      · have := Int.mul_nonneg h1 (Int.le_of_lt hk); omega
    · intro h; exact Int.mul_neg_of_neg_of_pos h hk
  unfold sgS
  simp only [e0, e1]
/-- what was told in units is rounded as the sum itself -/
theorem xu_round {G Ex Ey : Int} {X Y : Nat} (hX : May Ex X) (hY : May Ey Y) (hx : G ≤ Ex) (hy : G ≤ Ey) (k m : Int) (n nx ny : Bool) :
    rnP k n (2 * xuQ nx Ex X ny Ey Y + bN (xuB nx Ex X ny Ey Y)) (unN Ex X Ey Y - 1) = rnP k n (smI G nx Ex X ny Ey Y).natAbs G
    ∧ rnF k n (2 * xuQ nx Ex X ny Ey Y + bN (xuB nx Ex X ny Ey Y)) (unN Ex X Ey Y - 1) = rnF k n (smI G nx Ex X ny Ey Y).natAbs G
    ∧ xuN m nx Ex X ny Ey Y = sgS m nx ny (smI G nx Ex X ny Ey Y) := by
  obtain ⟨F, hF⟩ : ∃ F, F = min (unN Ex X Ey Y) G := ⟨_, rfl⟩
  have h1 : F ≤ unN Ex X Ey Y := by omega
  have h2 : F ≤ G := by omega
  obtain ⟨a, b, c⟩ := xu_sum hX hY h1 (by omega) (by omega) m nx ny
  have hK : 0 < 2 ^ (G - F).toNat := Nat.pow_pos (by omega)
  have es := smI_low (X := X) (Y := Y) h2 hx hy nx ny
  have ea : (smI F nx Ex X ny Ey Y).natAbs = (smI G nx Ex X ny Ey Y).natAbs * 2 ^ (G - F).toNat := by rw [es, Int.natAbs_mul, Int.natAbs_natCast]
  obtain ⟨p, q⟩ := stk_round (m := k) (neg := n) (F := F) b
  have eu : F + ((unN Ex X Ey Y - F).toNat : Int) - 1 = unN Ex X Ey Y - 1 := by omega
  have eG : G - ((G - F).toNat : Int) = F := by omega
  have sp := rnP_scale k n (smI G nx Ex X ny Ey Y).natAbs (G - F).toNat G
  have sf := rnF_scale k n (smI G nx Ex X ny Ey Y).natAbs (G - F).toNat G
  rw [eG, ← ea] at sp sf
  rw [eu] at p q
  refine ⟨by rw [a, p, sp], by rw [a, q, sf], ?_⟩
  rw [c, es, sgS_mul m nx ny _ hK]

/-! ### patterns -/
/-- a finite pattern's size, in units of 2^-1074 -/
def uV (p : Int) : Nat := szF (-1074) (xp p) (sg p).toNat
def pvI (p : Int) : Int := sgI (sgn p) (uV p)
def psI (a b : Int) : Int := pvI a + pvI b
theorem psI_eq (a b : Int) : psI a b = smI (-1074) (sgn a) (xp a) (sg a).toNat (sgn b) (xp b) (sg b).toNat := rfl
theorem xp_bd (p : Int) : -1074 ≤ xp p ∧ xp p ≤ 972 := by
  have := ex_lt p
  unfold xp
  split
  · omega
  · split <;> omega
theorem sg_lt (p : Int) : 0 ≤ sg p ∧ sg p < 9007199254740992 := by
  have := fr_lt p
  unfold sg
  split
  · omega
  · split <;> omega
theorem may_pat (p : Int) : May (xp p) (sg p).toNat := by
  have h1 := xp_bd p
  have h2 := sg_lt p
  refine ⟨?_, by omega, by omega⟩
  have : (2 : Nat) ^ 128 = 340282366920938463463374607431768211456 := rfl
  omega
def adN (m a b : Int) : Bool := sgS m (sgn a) (sgn b) (psI a b)
def adP (m a b : Int) : Int := rnP m (adN m a b) (psI a b).natAbs (-1074)
def adF (m a b : Int) : Int := rnF m (adN m a b) (psI a b).natAbs (-1074)
theorem psI_comm (a b : Int) : psI a b = psI b a := by unfold psI; omega
theorem sgS_comm (m : Int) (nx ny : Bool) (S : Int) : sgS m nx ny S = sgS m ny nx S := by
  have e : (if nx = ny then nx else decide (m = 4)) = (if ny = nx then ny else decide (m = 4)) := by cases nx <;> cases ny <;> rfl
  unfold sgS
  rw [e]
theorem adN_comm (m a b : Int) : adN m a b = adN m b a := by unfold adN; rw [psI_comm, sgS_comm]
theorem ad_comm (m a b : Int) : adP m a b = adP m b a ∧ adF m a b = adF m b a := by unfold adP adF; rw [adN_comm, psI_comm]; exact ⟨rfl, rfl⟩
/-- a pattern's own number is rounded to it -/
theorem own_uV {m : Int} {n : Bool} {p : Int} (h : ex p ≠ 2047) : rnP m n (uV p) (-1074) = mag p ∧ rnF m n (uV p) (-1074) = 0 := by
  have hb := xp_bd p
  obtain ⟨a, b⟩ := own_pat (m := m) (neg := n) h
  have e1 := rnP_scale m n (sg p).toNat (xp p + 1074).toNat (xp p)
  have e2 := rnF_scale m n (sg p).toNat (xp p + 1074).toNat (xp p)
  have e3 : xp p - ((xp p + 1074).toNat : Int) = -1074 := by omega
  have e4 : uV p = (sg p).toNat * 2 ^ (xp p + 1074).toNat := by
    unfold uV szF
    congr 2
  rw [e3, ← e4] at e1 e2
  exact ⟨by rw [e1, a], by rw [e2, b]⟩
theorem uV_zero {p : Int} (h : ex p ≠ 2047) : uV p = 0 ↔ mag p = 0 := by
  have h1 := ex_lt p
  have h2 := fr_lt p
  have h4 : mag p = 4503599627370496 * ex p + fr p := by unfold mag ex fr; omega
  have hp : 0 < 2 ^ (xp p - -1074).toNat := Nat.pow_pos (by omega)
  have e : uV p = 0 ↔ sg p = 0 := by
    have := sg_lt p
    unfold uV szF
    rw [Nat.mul_eq_zero]
    omega
  rw [e, h4]
  unfold sg
  split
  · omega
  · omega
/-- of a sum without flags the pattern's number is the sum -/
theorem back_uV {m : Int} {n : Bool} {A : Nat} (h : rnF m n A (-1074) = 0) : rnP m n A (-1074) < 9218868437227405312 ∧ uV (rnP m n A (-1074)) = A := by
  by_cases hA : A = 0
  · subst hA
    have e : rnP m n 0 (-1074) = 0 := by simp [rnP]
    rw [e]
    refine ⟨by omega, ?_⟩
    rw [uV_zero (by decide)]
    decide
  · unfold rnF at h
    rw [if_neg hA] at h
    have hb : ¬ 9218868437227405312 ≤ p0 m n A (-1074) := fun hc => by rw [if_pos hc] at h; omega
    rw [if_neg hb] at h
    have hl : toL A (-1074) (lowE A (-1074)) = false := by
      cases hc : toL A (-1074) (lowE A (-1074)) with
      | false => rfl
      | true => rw [hc, if_pos rfl] at h; split at h <;> omega
    have hp : rnP m n A (-1074) = p0 m n A (-1074) := by unfold rnP; rw [if_neg hA, if_neg hb]
    rw [hp]
    refine ⟨by omega, ?_⟩
    have hlow := lowE_ge A (-1074)
    have hq := low_hi m n A (-1074)
    -- the multiple, exactly
    have hx : A = toQ m n A (-1074) (lowE A (-1074)) * 2 ^ (lowE A (-1074) + 1074).toNat := by
      unfold toQ toL at *
      by_cases he : lowE A (-1074) ≤ -1074
      · rw [if_pos he]
        have e0 : lowE A (-1074) = -1074 := by omega
        rw [e0]
        simp
      · rw [if_neg he] at hl ⊢
        have e1 : (lowE A (-1074) - -1074).toNat = (lowE A (-1074) + 1074).toNat := by omega
        rw [e1] at hl ⊢
        have hm : A % 2 ^ (lowE A (-1074) + 1074).toNat = 0 := by simpa using hl
        rw [rq_exact hm]
        have := Nat.div_add_mod A (2 ^ (lowE A (-1074) + 1074).toNat)
        rw [hm, Nat.mul_comm] at this
        omega
    have hlo : lowE A (-1074) = -1074 ∨ 4503599627370496 ≤ toQ m n A (-1074) (lowE A (-1074)) := by
      by_cases h1 : lowE A (-1074) = -1074
      · exact .inl h1
      · right
        refine low_lo hA ?_
        unfold lowE at h1
        split at h1 <;> omega
    have hpe : p0 m n A (-1074) = (lowE A (-1074) + 1074) * 4503599627370496 + (toQ m n A (-1074) (lowE A (-1074)) : Nat) := rfl
    generalize toQ m n A (-1074) (lowE A (-1074)) = q at *
    generalize lowE A (-1074) = e at *
    rw [hpe] at hb ⊢
    obtain ⟨j, hj⟩ : ∃ j : Nat, e = (j : Int) - 1074 := ⟨(e + 1074).toNat, by omega⟩
    have ej : (e + 1074).toNat = j := by omega
    have ej' : e + 1074 = (j : Int) := by omega
    rw [ej] at hx
    rw [ej'] at hb ⊢
    clear ej ej'
    rw [hx]
    unfold uV szF xp sg
    by_cases c0 : q < 4503599627370496
    · have j0 : j = 0 := by omega
      subst j0
      have ee : ex (((0 : Nat) : Int) * 4503599627370496 + (q : Int)) = 0 := by unfold ex; omega
      have ef : fr (((0 : Nat) : Int) * 4503599627370496 + (q : Int)) = (q : Int) := by unfold fr; omega
      rw [ee, ef]
      simp
    · by_cases c1 : q = 9007199254740992
      · have ee : ex ((j : Int) * 4503599627370496 + (q : Int)) = (j : Int) + 2 := by unfold ex; omega
        have ef : fr ((j : Int) * 4503599627370496 + (q : Int)) = 0 := by unfold fr; omega
        rw [ee, ef, if_neg (by omega), if_neg (by omega), if_neg (by omega), if_neg (by omega)]
        have e1 : ((j : Int) + 2 - 1075 - -1074).toNat = j + 1 := by omega
        rw [e1, c1, Nat.pow_succ]
        have e2 : ((0 : Int) + 4503599627370496).toNat = 4503599627370496 := rfl
        rw [e2]
        omega
      · have ee : ex ((j : Int) * 4503599627370496 + (q : Int)) = (j : Int) + 1 := by unfold ex; omega
        have ef : fr ((j : Int) * 4503599627370496 + (q : Int)) = (q : Int) - 4503599627370496 := by unfold fr; omega
        rw [ee, ef, if_neg (by omega), if_neg (by omega), if_neg (by omega), if_neg (by omega)]
        have e1 : ((j : Int) + 1 - 1075 - -1074).toNat = j := by omega
        have e2 : ((q : Int) - 4503599627370496 + 4503599627370496).toNat = q := by omega
        rw [e1, e2]
/-- the other sign -/
def ng (p : Int) : Int := (p + 9223372036854775808) % 18446744073709551616
theorem ng_parts {p : Int} (hp : U p) : U (ng p) ∧ sgn (ng p) = !sgn p ∧ ex (ng p) = ex p ∧ fr (ng p) = fr p ∧ mag (ng p) = mag p := by
  unfold U at hp
  unfold ng U sgn ex fr mag
  refine ⟨by omega, ?_, by omega, by omega, by omega⟩
  by_cases h : 9223372036854775808 ≤ p
  · rw [decide_eq_true h, decide_eq_false (by omega)]; rfl
  · rw [decide_eq_false h, decide_eq_true (by omega)]; rfl
theorem ng_num {p : Int} (hp : U p) : xp (ng p) = xp p ∧ sg (ng p) = sg p ∧ cl (ng p) = cl p ∧ uV (ng p) = uV p ∧ pvI (ng p) = - pvI p := by
  obtain ⟨_, h1, h2, h3, _⟩ := ng_parts hp
  have e1 : xp (ng p) = xp p := by unfold xp; rw [h2]
  have e2 : sg (ng p) = sg p := by unfold sg; rw [h2, h3]
  have e4 : uV (ng p) = uV p := by unfold uV; rw [e1, e2]
  refine ⟨e1, e2, by unfold cl; rw [h2, h3], e4, ?_⟩
  unfold pvI
  rw [h1, e4]
  cases sgn p <;> simp [sgI]
theorem psI_ng {a b : Int} (ha : U a) (hb : U b) : psI (ng a) (ng b) = - psI a b := by
  unfold psI
  rw [(ng_num ha).2.2.2.2, (ng_num hb).2.2.2.2]
  omega
theorem ad_ng {m a b : Int} (ha : U a) (hb : U b) : adP (swM m) (ng a) (ng b) = adP m a b ∧ adF (swM m) (ng a) (ng b) = adF m a b ∧ (psI a b ≠ 0 → adN (swM m) (ng a) (ng b) = !adN m a b) := by
  have e := psI_ng ha hb
  have hn : psI a b ≠ 0 → adN (swM m) (ng a) (ng b) = !adN m a b := fun h => by
    unfold adN sgS
    rw [e, if_neg (by omega), if_neg h]
    by_cases h2 : psI a b < 0
    · rw [decide_eq_true h2, decide_eq_false (by omega)]; rfl
    · rw [decide_eq_false h2, decide_eq_true (by omega)]; rfl
  by_cases h : psI a b = 0
  · refine ⟨?_, ?_, hn⟩
    · unfold adP; rw [e, h]; simp [rnP]
    · unfold adF; rw [e, h]; simp [rnF]
  · have h1 := hn h
    refine ⟨?_, ?_, hn⟩
    · unfold adP; rw [h1, e, Int.natAbs_neg, rnP_swM]
    · unfold adF; rw [h1, e, Int.natAbs_neg, rnF_swM]
theorem ad_self {m a : Int} (ha : U a) : psI a (ng a) = 0 ∧ adN m a (ng a) = decide (m = 4) ∧ adP m a (ng a) = 0 ∧ adF m a (ng a) = 0 := by
  have e : psI a (ng a) = 0 := by unfold psI; rw [(ng_num ha).2.2.2.2]; omega
  refine ⟨e, ?_, by unfold adP; rw [e]; simp [rnP], by unfold adF; rw [e]; simp [rnF]⟩
  unfold adN sgS
  rw [if_pos e, (ng_parts ha).2.1, if_neg (by cases sgn a <;> simp)]
theorem sgI_abs (n : Bool) (A : Nat) : (sgI n A).natAbs = A := by cases n <;> simp [sgI]
theorem sgI_neg {n : Bool} {A : Nat} (h : A ≠ 0) : decide (sgI n A < 0) = n ∧ sgI n A ≠ 0 := by
  cases n
  · exact ⟨decide_eq_false (by simp only [sgI]; omega), by simp only [sgI]; omega⟩
  · exact ⟨decide_eq_true (by simp only [sgI]; omega), by simp only [sgI]; omega⟩
/-- where the sum is a pattern's number -/
theorem ad_num {m a b p : Int} (hf : ex p ≠ 2047) (h0 : mag p ≠ 0) (hs : psI a b = pvI p) : adN m a b = sgn p ∧ adP m a b = mag p ∧ adF m a b = 0 := by
  have hu : uV p ≠ 0 := fun h => h0 ((uV_zero hf).1 h)
  obtain ⟨n1, n2⟩ := sgI_neg (n := sgn p) hu
  have hn : adN m a b = sgn p := by
    unfold adN sgS
    rw [hs]
    unfold pvI
    rw [if_neg n2, n1]
  have hab : (psI a b).natAbs = uV p := by rw [hs]; exact sgI_abs _ _
  obtain ⟨q1, q2⟩ := own_uV (m := m) (n := sgn p) hf
  refine ⟨hn, ?_, ?_⟩
  · unfold adP; rw [hn, hab, q1]
  · unfold adF; rw [hn, hab, q2]
theorem pvI_zero : pvI 0 = 0 := by decide
theorem ad_zero {m a : Int} (hf : ex a ≠ 2047) (h0 : mag a ≠ 0) : adN m a 0 = sgn a ∧ adP m a 0 = mag a ∧ adF m a 0 = 0 := ad_num hf h0 (by unfold psI; rw [pvI_zero]; omega)
theorem ad_bd (m a b : Int) : 0 ≤ adP m a b ∧ adP m a b ≤ 9218868437227405312 := rnP_bd _ _ _ _
end Go.Rn

/-
  What the layers over rounding share: a pattern's significand as a number of 256 bits; units far away; classes.
-/
namespace Go.Proofs.Ytehfjljnaencjaa
open Go.KRun Go.Wd Go.Pt Go.Rn
set_option maxRecDepth 100000

/-- what is known of calls: rounding, a pattern's parts, its class -/
def conG0 : Con := alt 23 gRd (alt 35 (gU vT) (alt 20 (gU fun p => .int .i64 (cl p)) conN))
theorem conG0_ok : ConOk conG0 := alt_ok Try.func23 rfl gRd_ok (alt_ok Try.func35 rfl take_ok (alt_ok Try.func20 rfl cls_ok conN_ok))
def wSg (p : Int) : W4 := ⟨sg p, 0, 0, 0⟩
def lp0 : Bool × Bool := (decide ((0 : Int) < ((2 : Nat) : Int)), true)
def lp1 : Bool × Bool := (decide (IntKind.i64.wrap (0 + 1) < ((2 : Nat) : Int)), true)
def lp2 : Bool × Bool := (decide (IntKind.i64.wrap (IntKind.i64.wrap (0 + 1) + 1) < ((2 : Nat) : Int)), false)
/-! ### its numbers -/
theorem wSg_ok (p : Int) : (wSg p).ok := by
  have h := sg_lt p
  exact ⟨⟨h.1, by unfold wSg; dsimp only; omega⟩, ⟨by unfold wSg; dsimp only; omega, by unfold wSg; dsimp only; omega⟩, ⟨by unfold wSg; dsimp only; omega, by unfold wSg; dsimp only; omega⟩, ⟨by unfold wSg; dsimp only; omega, by unfold wSg; dsimp only; omega⟩⟩
theorem wSg_nat (p : Int) : (wSg p).nat = (sg p).toNat := by
  unfold W4.nat W4.val wSg
  simp only [Int.mul_zero, Int.add_zero]
theorem fin_ex {p : Int} (h : cl p ≤ 2) : ex p ≠ 2047 := by
  rcases cl_cases p with ⟨h1, _⟩ | ⟨_, h2⟩ | ⟨_, h2, _⟩ <;> omega
theorem tw_of {q : Nat} (h : q < 2 ^ 256) (b : Bool) : tw (ofN q) b = 2 * q + bN b := by
  unfold tw
  rw [ofN_nat h]
  cases b <;> rfl
/-- the unit may be far away -/
theorem clp_round (k : Int) (n : Bool) {x : W4} (hx : x.ok) (b : Bool) (u : Int) : rnP k n (tw x b) (clp u - 1) = rnP k n (tw x b) (u - 1) ∧ rnF k n (tw x b) (clp u - 1) = rnF k n (tw x b) (u - 1) := by
  have h1 := same_round (m := k) (neg := n) hx b (C := clp u) (D := u) (by unfold clp; split <;> (try split) <;> omega)
  have h2 := same_round (m := k) (neg := n) hx b (C := u) (D := u) (.inl rfl)
  exact ⟨by rw [h1.1, h2.1], by rw [h1.2, h2.2]⟩
theorem beq_t {x y : Int} (h : x = y) : (x == y) = true := by simpa using h
theorem beq_f {x y : Int} (h : x ≠ y) : (x == y) = false := by simpa using h
theorem bne_t {x y : Int} (h : x ≠ y) : (x != y) = true := by simpa using h
theorem bne_f {x y : Int} (h : x = y) : (x != y) = false := by simpa using h
theorem cl_bd (p : Int) : 0 ≤ cl p ∧ cl p ≤ 5 := by
  unfold cl
  split
  · split <;> omega
  · split
    · split
      · omega
      · split <;> omega
    · omega
end Go.Proofs.Ytehfjljnaencjaa

/-
  Contracts of words; a pattern's significand, moved up, and whether it is nothing.
-/
namespace Go.Proofs.Ytehfjljnaencjaa
open Go.KRun Go.Wd Go.Pt Go.Rn
set_option maxRecDepth 100000

/-- a truth of two words, told ahead -/
def gUUb (k : Int → Int → Bool) : Ans := fun vals s =>
  match vals, s with
  | [.int .u64 a, .int .u64 b], .inr (.inr (.inr (.inl d))) :: s' => some (.bool d, s', [(k a b, d), (decide (U a ∧ U b), true)])
  | _, _ => none
theorem gUUb_ok {f : Nat} {k : Int → Int → Bool} (hk : ∀ a b : Int, U a → U b → ∀ w, Calls Try.prog f #[.int .u64 a, .int .u64 b] w fun e w' => e = .returned (.bool (k a b)) ∧ Tidy w w') : AnsOk f (gUUb k) := by
  intro vals s v s' lg h hl w
  unfold gUUb at h
  split at h
  · cases h
    have e := hl _ (List.mem_cons_self)
    obtain ⟨h1, h2⟩ := of_decide_eq_true (hl _ (List.mem_cons_of_mem _ (List.mem_singleton.2 rfl)))
    simp only at e
    rw [← e]
    exact hk _ _ h1 h2 w
  · cases h
/-- a value of two words -/
def gUU (k : Int → Int → Value) (c : Int → Int → Bool) : Ans := fun vals s =>
  match vals with
  | [.int .u64 a, .int .u64 b] => some (k a b, s, [(c a b, true), (decide (U a ∧ U b), true)])
  | _ => none
theorem gUU_ok {f : Nat} {k : Int → Int → Value} {c : Int → Int → Bool} (hk : ∀ a b : Int, U a → U b → c a b = true → ∀ w, Calls Try.prog f #[.int .u64 a, .int .u64 b] w fun e w' => e = .returned (k a b) ∧ Tidy w w') : AnsOk f (gUU k c) := by
  intro vals s v s' lg h hl w
  unfold gUU at h
  split at h
  · cases h
    have e := hl _ (List.mem_cons_self)
    obtain ⟨h1, h2⟩ := of_decide_eq_true (hl _ (List.mem_cons_of_mem _ (List.mem_singleton.2 rfl)))
    exact hk _ _ h1 h2 e w
  · cases h
def nzW (x : W4) : Bool := !(x.a == 0 && (x.b == 0 && (x.c == 0 && (x.d == 0 && true))))
theorem nzW_of {n : Int} (h0 : 0 ≤ n) (h1 : n < 115792089237316195423570985008687907853269984665640564039457584007913129639936) : nzW (W4.of n) = decide (n ≠ 0) := by
  have ev : (W4.of n).val = n := by rw [W4.val_of, Int.emod_eq_of_lt h0 h1]
  have ok := W4.ok_of n
  by_cases hz : n = 0
  · subst hz; rfl
  · rw [decide_eq_true hz]
    unfold nzW
    cases hc : ((W4.of n).a == 0 && ((W4.of n).b == 0 && ((W4.of n).c == 0 && ((W4.of n).d == 0 && true))))
    · rfl
    · exfalso
      simp only [Bool.and_eq_true, beq_iff_eq] at hc
      obtain ⟨e1, e2, e3, e4, _⟩ := hc
      apply hz
      rw [← ev]
      unfold W4.val
      rw [e1, e2, e3, e4]
      rfl
theorem wSg_val (p : Int) : (wSg p).val = sg p := by
  have h := sg_lt p
  rw [W4.nat_val (wSg_ok p), wSg_nat]
  omega
theorem pow_lim {u : Nat} (h : u ≤ 199) : (2 : Int) ^ u ≤ 803469022129495137770981046170581301261101496891396417650688 := by
  have h1 : (2 : Nat) ^ u ≤ 2 ^ 199 := Nat.pow_le_pow_right (by omega) h
  have h2 : (2 : Nat) ^ 199 = 803469022129495137770981046170581301261101496891396417650688 := rfl
  rw [h2] at h1
  have := cast_pow u
  omega
theorem shl_sg (p : Int) {u : Nat} (h0 : 1 ≤ u) (h : u ≤ 199) : (shlW (wSg p) (u : Int)).ok ∧ (shlW (wSg p) (u : Int)).val = (((sg p).toNat * 2 ^ u : Nat) : Int) := by
  have hs := sg_lt p
  have hp := pow_lim h
  have hq : (0 : Int) < 2 ^ u := by rw [cast_pow]; exact_mod_cast Nat.pow_pos (by omega)
  have e : (wSg p).val * 2 ^ u = (((sg p).toNat * 2 ^ u : Nat) : Int) := by
    rw [wSg_val, Int.natCast_mul, ← cast_pow, Int.toNat_of_nonneg hs.1]
  have hb : (((sg p).toNat * 2 ^ u : Nat) : Int) < 115792089237316195423570985008687907853269984665640564039457584007913129639936 := by
    rw [← e, wSg_val]
    have := Int.mul_le_mul (show sg p ≤ 9007199254740991 by omega) hp (by omega) (by omega)
    omega
  unfold shlW
  rw [if_neg (by omega), if_neg (by omega), Int.toNat_natCast, e]
  exact ⟨W4.ok_of _, by rw [W4.val_of, Int.emod_eq_of_lt (by omega) hb]⟩
theorem sg_zero {p : Int} (h : cl p ≤ 2) : sg p = 0 ↔ cl p = 0 := by
  have h3 := fr_lt p
  unfold sg cl at *
  split at h
  · rename_i h1
    rw [if_pos h1]
    split <;> omega
  · rename_i h1
    split at h
    · split at h
      · omega
      · split at h <;> omega
    · rename_i h2
      rw [if_neg h1, if_neg h2]
      omega
/-- a value of one word, with a condition -/
def gU1 (k : Int → Value) (c : Int → Bool) : Ans := fun vals s =>
  match vals with
  | [.int .u64 a] => some (k a, s, [(c a, true), (decide (U a), true)])
  | _ => none
theorem gU1_ok {f : Nat} {k : Int → Value} {c : Int → Bool} (hk : ∀ a : Int, U a → c a = true → ∀ w, Calls Try.prog f #[.int .u64 a] w fun e w' => e = .returned (k a) ∧ Tidy w w') : AnsOk f (gU1 k c) := by
  intro vals s v s' lg h hl w
  unfold gU1 at h
  split at h
  · cases h
    have e := hl _ (List.mem_cons_self)
    have h1 := of_decide_eq_true (hl _ (List.mem_cons_of_mem _ (List.mem_singleton.2 rfl)))
    exact hk _ h1 e w
  · cases h
end Go.Proofs.Ytehfjljnaencjaa
