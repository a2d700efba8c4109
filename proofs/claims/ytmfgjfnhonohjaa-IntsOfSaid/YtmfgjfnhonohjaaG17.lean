/-
  The program's rounding of one word, in plain terms.
-/
import Derived.Test.YtmfgjfnhonohjaaG13
import Derived.Test.YtmfgjfnhonohjaaG16
namespace Go.Proofs.Ytmfgjfnhonohjaa
open Go.KRun Go.Wd Go.Pt Go.Rn
set_option maxRecDepth 100000

theorem w1_nat {x : Int} (h : 0 ≤ x) (h1 : x < 18446744073709551616) : (⟨x, 0, 0, 0⟩ : W4).ok ∧ (⟨x, 0, 0, 0⟩ : W4).nat = x.toNat := by
  refine ⟨⟨⟨h, h1⟩, ⟨by dsimp only; omega, by dsimp only; omega⟩, ⟨by dsimp only; omega, by dsimp only; omega⟩, ⟨by dsimp only; omega, by dsimp only; omega⟩⟩, ?_⟩
  unfold W4.nat W4.val
  simp only [Int.mul_zero, Int.add_zero]
/-- the program's rounding in plain terms -/
theorem rd_w9 (m : Int) (n : Bool) {x : W4} (hx : x.ok) {C D : Int} (h : C = D ∨ (1700 ≤ C ∧ 1700 ≤ D) ∨ (C ≤ -1700 ∧ D ≤ -1700)) : rdV m n (tw x false) (clp C - 1) = rdT (sS n (rnP m n x.nat D)) (rnF m n x.nat D) := by
  obtain ⟨p, f⟩ := same_round (m := m) (neg := n) hx false (C := clp C) (D := D) (by unfold clp; split <;> split <;> omega)
  unfold rdV
  rw [p, f]
  simp only [rT, jB, Int.sub_zero]
end Go.Proofs.Ytmfgjfnhonohjaa

/-
  PLAIN ARITHMETIC: patterns as whole numbers of the machine, and the other way round.
-/
namespace Go.Rn
open Go.Nt Go.Wd Go.Pt

/-- a whole number's own size -/
theorem own_whole {p : Int} {j W : Nat} (hj : (j : Int) = 1074) (hf : ex p ≠ 2047) (hW : uV p = W * 2 ^ j) (m : Int) : whQ m p = W ∧ whL p = false ∧ (0 < xp p → W = (sg p).toNat * 2 ^ (xp p).toNat) ∧ (xp p ≤ 0 → (sg p).toNat = W * 2 ^ (0 - xp p).toNat) := by
  have xb := xp_bd p
  have up : 0 ≤ xp p → W = (sg p).toNat * 2 ^ (xp p).toNat := fun h => by
    unfold uV szF at hW
    have e : 2 ^ (xp p - -1074).toNat = 2 ^ (xp p).toNat * 2 ^ j := by rw [← Nat.pow_add]; congr 1; omega
    rw [e, ← Nat.mul_assoc] at hW
    exact (Nat.eq_of_mul_eq_mul_right (Nat.pow_pos (by omega)) hW).symm
  have dn : xp p ≤ 0 → (sg p).toNat = W * 2 ^ (0 - xp p).toNat := fun h => by
    unfold uV szF at hW
    have e : 2 ^ j = 2 ^ (0 - xp p).toNat * 2 ^ (xp p - -1074).toNat := by rw [← Nat.pow_add]; congr 1; omega
    rw [e, ← Nat.mul_assoc] at hW
    exact Nat.eq_of_mul_eq_mul_right (Nat.pow_pos (by omega)) hW
  refine ⟨?_, ?_, fun h => up (by omega), dn⟩
  · by_cases h : 0 ≤ xp p
    · unfold whQ toQ
      rw [if_pos h, show xp p - 0 = xp p by omega]
      exact (up h).symm
    · have hl := (wh_stays (m := m) hj hf hW).2 (by omega)
      rcases wh_sides (a := p) (by omega) with ⟨_, h2, h3⟩ | ⟨h1, _⟩
      · rw [h2 m]
        rw [dn (by omega)] at h3
        exact (Nat.eq_of_mul_eq_mul_right (Nat.pow_pos (by omega)) h3).symm
      · rw [hl] at h1
        cases h1
  · by_cases h : 0 ≤ xp p
    · unfold whL toL
      rw [if_pos h]
    · exact (wh_stays (m := m) hj hf hW).2 (by omega)
/-- the size of a whole number's parts (of what is beyond all types some size beyond them) -/
def szC (c e s : Int) : Nat := if c = 3 then 18446744073709551616 else if 0 < e then s.toNat * 2 ^ (min e 64).toNat else s.toNat / 2 ^ (0 - e).toNat
theorem szC_lt {c e s : Int} (h1 : s < 9007199254740992) : szC c e s < 2 ^ 128 := by
  have e128 : (2 : Nat) ^ 128 = 340282366920938463463374607431768211456 := rfl
  unfold szC
  split
  · omega
  · split
    · have h : s.toNat * 2 ^ (min e 64).toNat ≤ 9007199254740992 * 2 ^ 64 := Nat.mul_le_mul (by omega) (Nat.pow_le_pow_right (by omega) (by omega))
      exact Nat.lt_of_le_of_lt h (by decide)
    · have := Nat.div_le_self s.toNat (2 ^ (0 - e).toNat)
      omega
theorem sz_own {p : Int} {j W : Nat} (hj : (j : Int) = 1074) (hc : cl p ≤ 2) (hf : ex p ≠ 2047) (hW : uV p = W * 2 ^ j) : szC (cl p) (xp p) (sg p) = W ∨ (18446744073709551616 ≤ szC (cl p) (xp p) (sg p) ∧ 18446744073709551616 ≤ W) := by
  obtain ⟨_, _, h1, h2⟩ := own_whole hj hf hW 0
  unfold szC
  rw [if_neg (by omega)]
  by_cases h : 0 < xp p
  · rw [if_pos h]
    by_cases h64 : xp p ≤ 64
    · left
      rw [h1 h, show min (xp p) 64 = xp p by omega]
    · right
      have es : 1 ≤ (sg p).toNat := by
        have fb := fr_lt p
        have : ¬ ex p = 0 := fun h0 => by
          unfold xp at h
          rw [if_pos h0] at h
          omega
        unfold sg
        rw [if_neg this, if_neg hf]
        omega
      have e64 : (2 : Nat) ^ 64 = 18446744073709551616 := rfl
      rw [h1 h, show min (xp p) 64 = 64 by omega, show (64 : Int).toNat = 64 from rfl, ← e64]
      refine ⟨Nat.le_mul_of_pos_left _ es, ?_⟩
      exact Nat.le_trans (Nat.pow_le_pow_right (by omega) (by omega)) (Nat.le_mul_of_pos_left _ es)
  · rw [if_neg h]
    left
    rw [h2 (by omega)]
    exact Nat.mul_div_cancel _ (Nat.pow_pos (by omega))
/-- parts of a pattern and of its size -/
theorem mag_parts (p : Int) : cl (mag p) = cl p ∧ xp (mag p) = xp p ∧ sg (mag p) = sg p := by
  have e1 : ex (mag p) = ex p := by unfold ex mag; omega
  have e2 : fr (mag p) = fr p := by unfold fr mag; omega
  unfold cl xp sg
  rw [e1, e2]
  exact ⟨rfl, rfl, rfl⟩
theorem same_parts {p q : Int} (h : mag p = mag q) : cl p = cl q ∧ xp p = xp q ∧ sg p = sg q := by
  obtain ⟨a1, a2, a3⟩ := mag_parts p
  obtain ⟨b1, b2, b3⟩ := mag_parts q
  rw [h] at a1 a2 a3
  exact ⟨a1.symm.trans b1, a2.symm.trans b2, a3.symm.trans b3⟩
/-- what a pattern, rounded to a whole number, has as its size -/
theorem sz_round {m a q : Int} (hq : mag q = whP m a) (hc : cl q ≤ 2) (fq : ex q ≠ 2047) : szC (cl q) (xp q) (sg q) = whQ m a ∨ (18446744073709551616 ≤ szC (cl q) (xp q) (sg q) ∧ 18446744073709551616 ≤ whQ m a) := by
  obtain ⟨j, hj⟩ : ∃ j : Nat, (j : Int) = 1074 := ⟨1074, rfl⟩
  have hu : uV q = whQ m a * 2 ^ j := by
    rw [← uV_mag q, hq]
    by_cases h : xp a < 0
    · exact (wh_num hj h).1
    · unfold whP
      rw [if_pos (by omega), uV_mag]
      unfold uV szF whQ toQ
      rw [if_pos (by omega), Nat.mul_assoc, ← Nat.pow_add]
      exact congrArg (fun z => (sg a).toNat * 2 ^ z) (by omega)
  exact sz_own hj hc fq hu
/-! ### the answers -/
def bdN (L M : Nat) (p : Int) : Nat := if sgn p = true then L else M
/-- a number is beyond its type -/
def tiB (L M : Nat) (m p : Int) : Bool := decide (cl p = 3 ∨ bdN L M p < whQ m p)
def tiS (p : Int) : Bool := decide (cl p ≤ 3) && sgn p
def tiN (L M : Nat) (m p : Int) : Nat := if 3 < cl p then 0 else if tiB L M m p = true then bdN L M p else whQ m p
def tiF (L M : Nat) (m p : Int) (t : Bool) : Int := if 3 < cl p then 1 else if tiB L M m p = true then 1 else if t = true ∧ whL p = true then 16 else 0
def tiI (L M : Nat) (m p : Int) : Int := sgI (tiS p) (tiN L M m p)
theorem tiF_bd (L M : Nat) (m p : Int) (t : Bool) : 0 ≤ tiF L M m p t ∧ tiF L M m p t ≤ 16 := by
  unfold tiF
  split
  · omega
  · split
    · omega
    · split <;> omega
theorem tiN_le (L M : Nat) (m p : Int) : tiN L M m p ≤ bdN L M p := by
  unfold tiN
  split
  · omega
  · split
    · omega
    · rename_i h
      have h : ¬ (cl p = 3 ∨ bdN L M p < whQ m p) := fun h' => h (decide_eq_true h')
      omega
theorem tiI_bd (L M : Nat) (m p : Int) : -(L : Int) ≤ tiI L M m p ∧ tiI L M m p ≤ (M : Int) := by
  have h := tiN_le L M m p
  unfold bdN at h
  unfold tiI
  cases hs : tiS p with
  | true =>
    have : sgn p = true := by unfold tiS at hs; simp only [Bool.and_eq_true] at hs; exact hs.2
    rw [if_pos this] at h
    simp only [sgI]
    omega
  | false =>
    simp only [sgI]
    refine ⟨by omega, ?_⟩
    by_cases hn : 3 < cl p
    · have : tiN L M m p = 0 := by unfold tiN; rw [if_pos hn]
      omega
    · have : sgn p = false := by
        unfold tiS at hs
        rw [decide_eq_true (by omega)] at hs
        simpa using hs
      rw [if_neg (by rw [this]; decide)] at h
      omega
/-- without a sign a type has its sizes alone -/
theorem ti_plain (M : Nat) (m p : Int) : tiI 0 M m p = (tiN 0 M m p : Nat) := by
  have h := tiI_bd 0 M m p
  unfold tiI at h ⊢
  cases hs : tiS p with
  | true => rw [hs] at h; simp only [sgI] at h ⊢; omega
  | false => rfl
/-! ### back -/
/-- a pattern that is a whole number of the type is it, without flags -/
theorem ti_own {L M : Nat} {p : Int} {j W : Nat} (hj : (j : Int) = 1074) (hc : cl p ≤ 2) (hf : ex p ≠ 2047) (hW : uV p = W * 2 ^ j) (m : Int) (t : Bool) :
    (W ≤ bdN L M p → tiI L M m p = sgI (sgn p) W ∧ tiF L M m p t = 0) ∧ (bdN L M p < W → tiI L M m p = sgI (sgn p) (bdN L M p) ∧ tiF L M m p t = 1) := by
  obtain ⟨h1, h2, _, _⟩ := own_whole hj hf hW m
  have hS : tiS p = sgn p := by unfold tiS; rw [decide_eq_true (by omega)]; rfl
  have h3 : ¬ 3 < cl p := by omega
  unfold tiI tiF tiN
  rw [hS, h1, h2, if_neg h3, if_neg h3]
  constructor
  · intro h
    have hb : ¬ tiB L M m p = true := fun h' => by
      have := of_decide_eq_true h'
      rw [h1] at this
      omega
    rw [if_neg hb, if_neg hb, if_neg (by simp)]
    exact ⟨rfl, rfl⟩
  · intro h
    have hb : tiB L M m p = true := decide_eq_true (.inr (by rw [h1]; exact h))
    rw [if_pos hb, if_pos hb]
    exact ⟨rfl, rfl⟩
/-- a whole number of 64 bits, rounded: it is a whole number, on the side that the mode asks for -/
theorem of_num {X j : Nat} (hj : (j : Int) = 1074) (hX : X ≤ 9223372036854775808) (m : Int) (n : Bool) :
    ∃ W, uV (rnP m n X 0) = W * 2 ^ j ∧ 0 ≤ rnP m n X 0 ∧ rnP m n X 0 ≤ 4890909195324358656 ∧ W ≤ 9223372036854775808 ∧ ((m = 4 ∧ n = false) ∨ (m = 3 ∧ n = true) → W ≤ X) ∧ ((m = 3 ∧ n = false) ∨ (m = 4 ∧ n = true) → X ≤ W) := by
  have e63 : rnP m n 9223372036854775808 0 = 4890909195324358656 := by
    have h1 := rnP_scale m n 4503599627370496 11 11
    have h2 := (own_pat (m := m) (neg := n) (p := 4890909195324358656) (by decide)).1
    have e1 : (sg 4890909195324358656).toNat = 4503599627370496 := by decide
    have e2 : xp 4890909195324358656 = 11 := by decide
    have e3 : mag 4890909195324358656 = 4890909195324358656 := by decide
    rw [e1, e2, e3] at h2
    rw [h2] at h1
    exact h1
  have le : rnP m n X 0 ≤ 4890909195324358656 := by rw [← e63]; exact rnP_mono hX
  have ge := (rnP_bd m n X 0).1
  have u63 : uV 4890909195324358656 = 9223372036854775808 * 2 ^ j := by
    have e1 : (sg 4890909195324358656).toNat = 4503599627370496 := by decide
    have e2 : xp 4890909195324358656 = 11 := by decide
    unfold uV szF
    rw [e1, e2, show ((11 : Int) - -1074).toNat = 11 + j by omega, Nat.pow_add, ← Nat.mul_assoc]
  have wle : ∀ W, uV (rnP m n X 0) = W * 2 ^ j → W ≤ 9223372036854775808 := fun W hW => by
    have h : uV (rnP m n X 0) ≤ uV 4890909195324358656 := by
      rcases Int.lt_or_eq_of_le le with h | h
      · exact Nat.le_of_lt (uV_lt ge h (by omega))
      · rw [h]; exact Nat.le_refl _
    rw [hW, u63] at h
    exact Nat.le_of_mul_le_mul_right h (Nat.pow_pos (by omega))
  by_cases hz : X = 0
  · have e : rnP m n X 0 = 0 := by unfold rnP; rw [if_pos hz]
    refine ⟨0, ?_, ge, le, by omega, fun _ => by omega, fun _ => by omega⟩
    rw [e, Nat.zero_mul]
    decide
  have hp : p0 m n X 0 < 9218868437227405312 := by
    refine Int.not_le.1 fun hc => ?_
    have : rnP m n X 0 = bey m n := by unfold rnP; rw [if_neg hz, if_pos hc]
    have hb := bey_or m n
    omega
  have hF : rnF m n X 0 = 0 ∨ rnF m n X 0 = 16 ∨ rnF m n X 0 = 24 := by
    unfold rnF
    rw [if_neg hz, if_neg (by omega)]
    split
    · split <;> simp
    · simp
  obtain ⟨_, _, hu, _⟩ := rn_num hz hF
  obtain ⟨l, hl⟩ : ∃ l, l = lowE X 0 := ⟨_, rfl⟩
  have lg := lowE_ge X 0
  rw [← hl] at hu lg
  by_cases h0 : l ≤ 0
  · have hW : uV (rnP m n X 0) = X * 2 ^ j := by
      rw [hu]
      unfold toQ
      rw [if_pos h0, Nat.mul_assoc, ← Nat.pow_add]
      exact congrArg (fun z => X * 2 ^ z) (by omega)
    exact ⟨X, hW, ge, le, wle X hW, fun _ => Nat.le_refl _, fun _ => Nat.le_refl _⟩
  · obtain ⟨k, hk⟩ : ∃ k : Nat, k = l.toNat := ⟨_, rfl⟩
    have hW : uV (rnP m n X 0) = toQ m n X 0 l * 2 ^ k * 2 ^ j := by
      rw [hu, Nat.mul_assoc, ← Nat.pow_add]
      exact congrArg (fun z => toQ m n X 0 l * 2 ^ z) (by omega)
    have hp : 0 < 2 ^ k := Nat.pow_pos (by omega)
    have dm := Nat.div_add_mod X (2 ^ k)
    have ml := Nat.mod_lt X hp
    have eQ : toQ m n X 0 l = X / 2 ^ k + (if gup m n X 0 l = true then 1 else 0) := by
      rw [toQ_gup]
      refine congrArg (fun z => z + (if gup m n X 0 l = true then 1 else 0)) ?_
      unfold toQ
      rw [if_neg h0]
      have e : (l - 0).toNat = k := by omega
      have h2 : upR 2 n (odd (X / 2 ^ k)) (restC (X % 2 ^ k) (2 ^ k)) = false := by simp [upR]
      unfold rq
      rw [e, h2]
      simp
    have eW : toQ m n X 0 l * 2 ^ k = 2 ^ k * (X / 2 ^ k) + (if gup m n X 0 l = true then 2 ^ k else 0) := by
      rw [eQ, Nat.add_mul, Nat.mul_comm]
      refine congrArg (fun z => 2 ^ k * (X / 2 ^ k) + z) ?_
      split
      · rw [Nat.one_mul]
      · rw [Nat.zero_mul]
    refine ⟨_, hW, ge, le, wle _ hW, ?_, ?_⟩
    · intro hs
      have hg : gup m n X 0 l = false := by
        cases hL : toL X 0 l with
        | false => exact gup_lost hL
        | true =>
          obtain ⟨g3, g4, _⟩ := gup_side (neg := n) hL
          rcases hs with ⟨rfl, rfl⟩ | ⟨rfl, rfl⟩
          · exact g4
          · exact g3
      rw [eW, hg, if_neg (by decide)]
      omega
    · intro hs
      cases hL : toL X 0 l with
      | false =>
        rw [eW, gup_lost hL, if_neg (by decide)]
        unfold toL at hL
        rw [if_neg h0, show (l - 0).toNat = k by omega] at hL
        have := of_decide_eq_false hL
        omega
      | true =>
        obtain ⟨g3, g4, _⟩ := gup_side (neg := n) hL
        have hg : gup m n X 0 l = true := by
          rcases hs with ⟨rfl, rfl⟩ | ⟨rfl, rfl⟩
          · exact g3
          · exact g4
        rw [eW, hg, if_pos rfl]
        omega
end Go.Rn

/-
  Whole numbers of the machine: what is known of calls; a pattern taken apart, its sign told ahead.
-/
namespace Go.Proofs.Ytmfgjfnhonohjaa
open Go.KRun Go.Wd Go.Pt Go.Rn
set_option maxRecDepth 100000

/-- pat.Take, the sign told ahead -/
def gTkT : Ans := fun vals s =>
  match vals, s with
  | [.int .u64 p], .inr (.inr (.inr (.inl d))) :: s' => some (vP d (cl p) (xp p) (sg p), s', [(sgn p, d), (decide (U p), true)])
  | _, _ => none
theorem gTkT_ok : AnsOk 39 gTkT := by
  intro vals s v s' lg h hl w
  unfold gTkT at h
  split at h
  · rename_i p d s2
    cases h
    have l1 : sgn p = d := hl _ List.mem_cons_self
    have l2 := hl _ (List.mem_cons_of_mem _ (List.mem_singleton.2 rfl))
    have := take_ok [.int .u64 p] [] (vT p) [] [(decide (U p), true)] rfl (fun x hx => by rw [List.mem_singleton.1 hx]; exact l2) w
    unfold vT at this
    rw [l1] at this
    exact this
  · cases h
def conI0 : Con := alt 68 (g1n (plain1n shlV4)) (alt 69 (g1n (plain1n shrV4)) (alt 70 (g2 (plain2 cmpV4)) (alt 39 gTkT (alt 38 gWO conG0))))
theorem conI0_ok : ConOk conI0 := alt_ok Try.func68 rfl (plain1n_ok shl_calls) (alt_ok Try.func69 rfl (plain1n_ok shr_calls) (alt_ok Try.func70 rfl (plain2_ok cmp_calls) (alt_ok Try.func39 rfl gTkT_ok (alt_ok Try.func38 rfl gWO_ok conG0_ok))))
end Go.Proofs.Ytmfgjfnhonohjaa
