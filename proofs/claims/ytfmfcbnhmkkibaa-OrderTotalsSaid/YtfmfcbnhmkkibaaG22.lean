/-
  PLAIN ARITHMETIC: which of two finite sizes is less is told by their patterns; and so are the numbers in units of the less exponent.
-/
import Derived.Test.YtfmfcbnhmkkibaaG21
import Derived.Test.YtfmfcbnhmkkibaaG05
import Derived.Test.YtfmfcbnhmkkibaaG06
import Derived.Test.YtfmfcbnhmkkibaaG19
import Derived.Test.YtfmfcbnhmkkibaaG20
namespace Go.Rn
open Go.Nt Go.Wd Go.Pt

theorem uV_less {p q : Int} (hp : 0 ≤ p) (hp1 : p < 9218868437227405312) (hq : 0 ≤ q) (hq1 : q < 9218868437227405312) : uV p < uV q ↔ p < q := by
  obtain ⟨a1, _⟩ := own_uV (m := 0) (n := false) (fin_small (p := p) hp hp1)
  obtain ⟨b1, _⟩ := own_uV (m := 0) (n := false) (fin_small (p := q) hq hq1)
  rw [mag_self hp (by omega)] at a1
  rw [mag_self hq (by omega)] at b1
  have key : ∀ {x y : Nat}, x ≤ y → rnP 0 false x (-1074) ≤ rnP 0 false y (-1074) := fun h => rnP_mono h
  constructor
  · intro h
    rcases Int.lt_or_le p q with h1 | h1
    · exact h1
    · exfalso
      have h2 := key (Nat.le_of_lt h)
      rw [a1, b1] at h2
      have : p = q := by omega
      rw [this] at h
      omega
  · intro h
    rcases Nat.lt_or_ge (uV p) (uV q) with h1 | h1
    · exact h1
    · have h2 := key h1
      rw [a1, b1] at h2
      omega
theorem uV_inj {p q : Int} (hp : 0 ≤ p) (hp1 : p < 9218868437227405312) (hq : 0 ≤ q) (hq1 : q < 9218868437227405312) : uV p = uV q ↔ p = q := by
  have h1 := uV_less hp hp1 hq hq1
  have h2 := uV_less hq hq1 hp hp1
  constructor
  · intro h; omega
  · intro h; rw [h]
/-- in units of 2^low, low not above the exponent -/
theorem uV_units {p low : Int} (h0 : -1074 ≤ low) (h : low ≤ xp p) : uV p = (sg p).toNat * 2 ^ (xp p - low).toNat * 2 ^ (low + 1074).toNat := by
  have e : uV p = (sg p).toNat * 2 ^ (xp p - -1074).toNat := by unfold uV szF; rfl
  rw [e, Nat.mul_assoc, ← Nat.pow_add]
  congr 2
  omega
theorem units_lt {p q low : Int} (h0 : -1074 ≤ low) (hp : low ≤ xp p) (hq : low ≤ xp q) : ((sg p).toNat * 2 ^ (xp p - low).toNat < (sg q).toNat * 2 ^ (xp q - low).toNat ↔ uV p < uV q) ∧ ((sg p).toNat * 2 ^ (xp p - low).toNat = (sg q).toNat * 2 ^ (xp q - low).toNat ↔ uV p = uV q) := by
  have hz : 0 < 2 ^ (low + 1074).toNat := Nat.pow_pos (by omega)
  rw [uV_units h0 hp, uV_units h0 hq]
  exact ⟨(Nat.mul_lt_mul_right hz).symm, ⟨fun h => by rw [h], fun h => Nat.eq_of_mul_eq_mul_right hz h⟩⟩
end Go.Rn

/-
  PLAIN ARITHMETIC: the order of two finite patterns, by their numbers in units of the less exponent.
-/
namespace Go.Rn
open Go.Nt Go.Wd Go.Pt

/-- the less exponent, and how far a number is moved up to it -/
def lwE (a b : Int) : Int := if xp b < xp a then xp b else xp a
def upA (a b : Int) : Nat := (xp a - lwE a b).toNat
def upB (a b : Int) : Nat := (xp b - lwE a b).toNat
def unA (a b : Int) : Nat := (sg a).toNat * 2 ^ upA a b
def unB (a b : Int) : Nat := (sg b).toNat * 2 ^ upB a b
/-- which size is less -/
def kM (a b : Int) : Int := if mag a < mag b then -1 else if mag a = mag b then 0 else 1
theorem lwE_bd (a b : Int) : -1074 ≤ lwE a b ∧ lwE a b ≤ xp a ∧ lwE a b ≤ xp b ∧ upA a b ≤ 2046 ∧ upB a b ≤ 2046 := by
  have h1 := xp_bd a
  have h2 := xp_bd b
  unfold upA upB lwE
  split <;> omega
theorem un_mag {a b : Int} (h1 : cl a ≤ 2) (h2 : cl b ≤ 2) : (unA a b < unB a b ↔ mag a < mag b) ∧ (unA a b = unB a b ↔ mag a = mag b) := by
  obtain ⟨l1, l2, l3, _⟩ := lwE_bd a b
  have u := units_lt l1 l2 l3
  have m1 := mag_pos (a := a)
  have m2 := mag_pos (a := b)
  have s1 := (cl_sz a).2.2.1.1 h1
  have s2 := (cl_sz b).2.2.1.1 h2
  have e1 := uV_less m1.1 s1 m2.1 s2
  have e2 := uV_inj m1.1 s1 m2.1 s2
  rw [uV_mag, uV_mag] at e1 e2
  unfold unA unB upA upB
  exact ⟨u.1.trans e1, u.2.trans e2⟩
theorem sg_no {p : Int} (h : cl p ≤ 2) : 0 < (sg p).toNat ↔ mag p ≠ 0 := by
  have h1 := mag_par p
  have h2 := fr_lt p
  have h3 := ex_lt p
  have h4 := (cl_sz p).2.2.1.1 h
  unfold sg
  split
  · omega
  · split <;> omega
/-- which of two finite patterns is less, by sizes and signs -/
theorem co_val {a b : Int} (ha : U a) (hb : U b) (h1 : cl a ≤ 2) (h2 : cl b ≤ 2) :
    ((mag a ≠ 0 ∧ 9223372036854775808 ≤ a) → (mag b ≠ 0 ∧ 9223372036854775808 ≤ b) → coV a b = 0 - kM a b) ∧
    ((mag a ≠ 0 ∧ 9223372036854775808 ≤ a) → ¬ (mag b ≠ 0 ∧ 9223372036854775808 ≤ b) → coV a b = -1) ∧
    (¬ (mag a ≠ 0 ∧ 9223372036854775808 ≤ a) → (mag b ≠ 0 ∧ 9223372036854775808 ≤ b) → coV a b = 1) ∧
    (¬ (mag a ≠ 0 ∧ 9223372036854775808 ≤ a) → ¬ (mag b ≠ 0 ∧ 9223372036854775808 ≤ b) → coV a b = kM a b) := by
  have z1 := (cl_sz a).2.2.2.1
  have z2 := (cl_sz b).2.2.2.1
  have e1 : mag a = a % 9223372036854775808 := rfl
  have e2 : mag b = b % 9223372036854775808 := rfl
  have p1 : plc a = if a < 9223372036854775808 then a + 9223372036854775808 else 18446744073709551615 - a := rfl
  have p2 : plc b = if b < 9223372036854775808 then b + 9223372036854775808 else 18446744073709551615 - b := rfl
  unfold U at ha hb
  have hc : coV a b = if mag a = 0 ∧ mag b = 0 then 0 else if plc a < plc b then -1 else if plc b < plc a then 1 else 0 := by
    unfold coV
    rw [if_neg (by omega)]
    simp only [z1, z2]
  rw [hc]
  unfold kM
  refine ⟨fun h3 h4 => ?_, fun h3 h4 => ?_, fun h3 h4 => ?_, fun h3 h4 => ?_⟩
  · rw [if_neg (show ¬ (a < 9223372036854775808) by omega)] at p1
    rw [if_neg (show ¬ (b < 9223372036854775808) by omega)] at p2
    rw [if_neg (by omega)]
    split <;> split <;> omega
  · rw [if_neg (show ¬ (a < 9223372036854775808) by omega)] at p1
    rw [if_neg (by omega), if_pos]
    split at p2 <;> omega
  · rw [if_neg (show ¬ (b < 9223372036854775808) by omega)] at p2
    rw [if_neg (by omega)]
    split at p1
    · rw [if_neg (by omega), if_pos (by omega)]
    · rw [if_neg (by omega), if_pos (by omega)]
  · by_cases hz : mag a = 0 ∧ mag b = 0
    · rw [if_pos hz, if_neg (by omega), if_pos (by omega)]
    · rw [if_neg hz]
      by_cases ha' : a < 9223372036854775808
      · rw [if_pos ha'] at p1
        by_cases hb' : b < 9223372036854775808
        · rw [if_pos hb'] at p2
          split <;> split <;> omega
        · rw [if_neg hb'] at p2
          split <;> split <;> omega
      · rw [if_neg ha'] at p1
        by_cases hb' : b < 9223372036854775808
        · rw [if_pos hb'] at p2
          split <;> split <;> omega
        · rw [if_neg hb'] at p2
          omega
/-- one of two is Endless -/
theorem co_inf {a b : Int} (ha : U a) (hb : U b) (h1 : ¬ 3 < cl a) (h2 : ¬ 3 < cl b) (h : ¬ (cl a < 3 ∧ cl b < 3)) : coV a b = if a = b then 0 else if a = 9218868437227405312 ∨ b = 18442240474082181120 then 1 else -1 := by
  have a1 := (cl_sz a).1
  have b1 := (cl_sz b).1
  have a2 := (cl_sz a).2.1
  have b2 := (cl_sz b).2.1
  have z1 := (cl_sz a).2.2.2.1
  have z2 := (cl_sz b).2.2.2.1
  have e1 : mag a = a % 9223372036854775808 := rfl
  have e2 : mag b = b % 9223372036854775808 := rfl
  have p1 : plc a = if a < 9223372036854775808 then a + 9223372036854775808 else 18446744073709551615 - a := rfl
  have p2 : plc b = if b < 9223372036854775808 then b + 9223372036854775808 else 18446744073709551615 - b := rfl
  unfold U at ha hb
  unfold coV
  rw [if_neg (by omega), if_neg (by omega)]
  by_cases ha' : a < 9223372036854775808
  · rw [if_pos ha'] at p1
    by_cases hb' : b < 9223372036854775808
    · rw [if_pos hb'] at p2
      split <;> split <;> (try split) <;> omega
    · rw [if_neg hb'] at p2
      split <;> split <;> (try split) <;> omega
  · rw [if_neg ha'] at p1
    by_cases hb' : b < 9223372036854775808
    · rw [if_pos hb'] at p2
      split <;> split <;> (try split) <;> omega
    · rw [if_neg hb'] at p2
      split <;> split <;> (try split) <;> omega
/-- the class's rank in the order of all -/
def rkC (c : Int) : Int := if c = 0 then 0 else if c = 1 ∨ c = 2 then 1 else if c = 3 then 2 else if c = 4 then 4 else 3
def ahK (a b : Int) : Bool := if rkC (cl a) ≠ rkC (cl b) then decide (rkC (cl a) < rkC (cl b)) else decide (a ≤ b)
theorem cl_all (p : Int) : 0 ≤ cl p ∧ cl p ≤ 5 := by
  unfold cl
  split
  · split <;> omega
  · split
    · split
      · omega
      · split <;> omega
    · omega
theorem rk_sz (p : Int) : (rkC (cl p) = 0 ∧ mag p = 0) ∨ (rkC (cl p) = 1 ∧ 0 < mag p ∧ mag p < 9218868437227405312) ∨ (rkC (cl p) = 2 ∧ mag p = 9218868437227405312) ∨ (rkC (cl p) = 3 ∧ 9218868437227405312 < mag p ∧ mag p < 9221120237041090560) ∨ (rkC (cl p) = 4 ∧ 9221120237041090560 ≤ mag p) := by
  obtain ⟨h1, h2, h3, h4, h5⟩ := cl_sz p
  have h6 := cl_all p
  have h7 := mag_pos (a := p)
  unfold rkC
  by_cases c0 : cl p = 0
  · rw [if_pos c0]; omega
  · rw [if_neg c0]
    by_cases c1 : cl p = 1 ∨ cl p = 2
    · rw [if_pos c1]; omega
    · rw [if_neg c1]
      by_cases c3 : cl p = 3
      · rw [if_pos c3]; omega
      · rw [if_neg c3]
        by_cases c4 : cl p = 4
        · rw [if_pos c4]; omega
        · rw [if_neg c4]; omega
theorem ah_le {a b : Int} (ha : mag a = a) (hb : mag b = b) : ahK a b = decide (a ≤ b) := by
  have h1 := rk_sz a
  have h2 := rk_sz b
  unfold ahK
  by_cases h : rkC (cl a) ≠ rkC (cl b)
  · rw [if_pos h]
    congr 1
    exact propext ⟨fun _ => by omega, fun _ => by omega⟩
  · rw [if_neg h]
end Go.Rn

/-
  The document's order (tillerref10): which of two finite patterns is less, by their numbers, as a call in every world.
-/
namespace Go.Proofs.Ytfmfcbnhmkkibaa
open Go.KRun Go.Nt Go.Pt Go.Rn
set_option maxRecDepth 100000

/-- the document's Pattern, the sign told ahead -/
def gPtT : AnsH := fun vals h s =>
  match vals, s with
  | [.int .u64 p], .inr (.inr (.inr (.inl d))) :: s' => some (vRN d (xp p) (sOf h.n (sg p).toNat), h.push (wU (d16 (sg p).toNat)) tU, s', [(sgn p, d), (decide (U p), true)])
  | _, _ => none
theorem gPtT_ok : AnsHOk 42 gPtT := by
  intro vals h s v h' s' lg hg hl
  unfold gPtT at hg
  split at hg
  · rename_i p d s2
    cases hg
    obtain ⟨l1, l2⟩ := log_tlT hl
    have l1 : sgn p = d := l1
    refine gPt_ok _ h [] _ _ [] _ ?_ l2
    simp only [gPt, l1]
  · cases hg
def conR0 : Con := alt 41 (gU vT) conN
theorem conR0_ok : ConOk conR0 := alt_ok Try.func41 rfl ref_ok conN_ok
def hcR0 : Hc := altH 42 gPtT (altH 44 gUshlT (altH 43 gUcmpT hcN))
theorem hcR0_ok : HcOk hcR0 := altH_ok Try.func42 rfl gPtT_ok (altH_ok Try.func44 rfl gUshlT_ok (altH_ok Try.func43 rfl gUcmpT_ok hcN_ok))
def hV4 (sa sb : Bool) (a b : Int) : Hp := ⟨4, [bOf sb (xp b) (sOf 1 (sg b).toNat), bOf sa (xp a) (sOf 0 (sg a).toNat), w16 (sg b).toNat, w16 (sg a).toNat]⟩
theorem va_tttt (a b : Int) (A : Nat) (B : Nat) (k : Int) : Fits (reckon (tabH Try.prog extY conR0 hcR0) 300 30 [.int .u64 a, .int .u64 b] [cmp true, cmp true, cmp true, num A, cmp true, num B, num k, cmp true, cmp true]) (.int .i64 (IntKind.i64.wrap (0 - k))) [(decide ((((d16 (sg b).toNat).length : Nat) : Int) > 0), true), (decide ((((d16 (sg a).toNat).length : Nat) : Int) > 0), true), (decide (cmpZ (vO (((hV4 true true a b).push (wU (d16 A)) tU).push (wU (d16 B)) tU) (aP16 4) (d16 A).length) (vO (((hV4 true true a b).push (wU (d16 A)) tU).push (wU (d16 B)) tU) (aP16 5) (d16 B).length) = k), true), (two16 (((hV4 true true a b).push (wU (d16 A)) tU).push (wU (d16 B)) tU) (aP16 4) (aP16 5) (d16 A).length (d16 A).length (d16 B).length (d16 B).length, true), (decide (vO ((hV4 true true a b).push (wU (d16 A)) tU) (aP16 1) (d16 (sg b).toNat).length * 2 ^ (IntKind.i64.wrap (xp b - lwE a b)).toNat = B), true), (okSh ((hV4 true true a b).push (wU (d16 A)) tU) (aP16 1) (d16 (sg b).toNat).length (d16 (sg b).toNat).length (IntKind.i64.wrap (xp b - lwE a b)), true), (decide (0 < (d16 (sg b).toNat).length), true), (decide (vO (hV4 true true a b) (aP16 0) (d16 (sg a).toNat).length * 2 ^ (IntKind.i64.wrap (xp a - lwE a b)).toNat = A), true), (okSh (hV4 true true a b) (aP16 0) (d16 (sg a).toNat).length (d16 (sg a).toNat).length (IntKind.i64.wrap (xp a - lwE a b)), true), (decide (0 < (d16 (sg a).toNat).length), true), (sgn b, true), lU b, (sgn a, true), lU a] := ⟨by kernel_rfl, by kernel_rfl, by kernel_rfl, by kernel_rfl⟩
theorem va_tttf (a b : Int) (A : Nat) (k : Int) : Fits (reckon (tabH Try.prog extY conR0 hcR0) 300 30 [.int .u64 a, .int .u64 b] [cmp true, cmp true, cmp true, num A, cmp false, num k, cmp true, cmp false]) (.int .i64 (-1)) [(decide ((((d16 (sg b).toNat).length : Nat) : Int) > 0), false), (decide ((((d16 (sg a).toNat).length : Nat) : Int) > 0), true), (decide (cmpZ (vO ((hV4 true true a b).push (wU (d16 A)) tU) (aP16 4) (d16 A).length) (vO ((hV4 true true a b).push (wU (d16 A)) tU) none 0) = k), true), (two16 ((hV4 true true a b).push (wU (d16 A)) tU) (aP16 4) none (d16 A).length (d16 A).length 0 0, true), (rowP ((hV4 true true a b).push (wU (d16 A)) tU) (aP16 1) (d16 (sg b).toNat).length (d16 (sg b).toNat).length, true), (decide (0 < (d16 (sg b).toNat).length), false), (decide (vO (hV4 true true a b) (aP16 0) (d16 (sg a).toNat).length * 2 ^ (IntKind.i64.wrap (xp a - lwE a b)).toNat = A), true), (okSh (hV4 true true a b) (aP16 0) (d16 (sg a).toNat).length (d16 (sg a).toNat).length (IntKind.i64.wrap (xp a - lwE a b)), true), (decide (0 < (d16 (sg a).toNat).length), true), (sgn b, true), lU b, (sgn a, true), lU a] := ⟨by kernel_rfl, by kernel_rfl, by kernel_rfl, by kernel_rfl⟩
theorem va_ttft (a b : Int) (B : Nat) (k : Int) : Fits (reckon (tabH Try.prog extY conR0 hcR0) 300 30 [.int .u64 a, .int .u64 b] [cmp true, cmp true, cmp false, cmp true, num B, num k, cmp false, cmp true]) (.int .i64 1) [(decide ((((d16 (sg b).toNat).length : Nat) : Int) > 0), true), (decide ((((d16 (sg a).toNat).length : Nat) : Int) > 0), false), (decide (cmpZ (vO ((hV4 true true a b).push (wU (d16 B)) tU) none 0) (vO ((hV4 true true a b).push (wU (d16 B)) tU) (aP16 4) (d16 B).length) = k), true), (two16 ((hV4 true true a b).push (wU (d16 B)) tU) none (aP16 4) 0 0 (d16 B).length (d16 B).length, true), (decide (vO (hV4 true true a b) (aP16 1) (d16 (sg b).toNat).length * 2 ^ (IntKind.i64.wrap (xp b - lwE a b)).toNat = B), true), (okSh (hV4 true true a b) (aP16 1) (d16 (sg b).toNat).length (d16 (sg b).toNat).length (IntKind.i64.wrap (xp b - lwE a b)), true), (decide (0 < (d16 (sg b).toNat).length), true), (rowP (hV4 true true a b) (aP16 0) (d16 (sg a).toNat).length (d16 (sg a).toNat).length, true), (decide (0 < (d16 (sg a).toNat).length), false), (sgn b, true), lU b, (sgn a, true), lU a] := ⟨by kernel_rfl, by kernel_rfl, by kernel_rfl, by kernel_rfl⟩
theorem va_ttff (a b : Int) (k : Int) : Fits (reckon (tabH Try.prog extY conR0 hcR0) 300 30 [.int .u64 a, .int .u64 b] [cmp true, cmp true, cmp false, cmp false, num k, cmp false, cmp false]) (.int .i64 k) [(decide ((((d16 (sg b).toNat).length : Nat) : Int) > 0), false), (decide ((((d16 (sg a).toNat).length : Nat) : Int) > 0), false), (decide (cmpZ (vO (hV4 true true a b) none 0) (vO (hV4 true true a b) none 0) = k), true), (two16 (hV4 true true a b) none none 0 0 0 0, true), (rowP (hV4 true true a b) (aP16 1) (d16 (sg b).toNat).length (d16 (sg b).toNat).length, true), (decide (0 < (d16 (sg b).toNat).length), false), (rowP (hV4 true true a b) (aP16 0) (d16 (sg a).toNat).length (d16 (sg a).toNat).length, true), (decide (0 < (d16 (sg a).toNat).length), false), (sgn b, true), lU b, (sgn a, true), lU a] := ⟨by kernel_rfl, by kernel_rfl, by kernel_rfl, by kernel_rfl⟩
theorem va_tftt (a b : Int) (A : Nat) (B : Nat) (k : Int) : Fits (reckon (tabH Try.prog extY conR0 hcR0) 300 30 [.int .u64 a, .int .u64 b] [cmp true, cmp false, cmp true, num A, cmp true, num B, num k, cmp true, cmp true]) (.int .i64 (-1)) [(decide ((((d16 (sg b).toNat).length : Nat) : Int) > 0), true), (decide ((((d16 (sg a).toNat).length : Nat) : Int) > 0), true), (decide (cmpZ (vO (((hV4 true false a b).push (wU (d16 A)) tU).push (wU (d16 B)) tU) (aP16 4) (d16 A).length) (vO (((hV4 true false a b).push (wU (d16 A)) tU).push (wU (d16 B)) tU) (aP16 5) (d16 B).length) = k), true), (two16 (((hV4 true false a b).push (wU (d16 A)) tU).push (wU (d16 B)) tU) (aP16 4) (aP16 5) (d16 A).length (d16 A).length (d16 B).length (d16 B).length, true), (decide (vO ((hV4 true false a b).push (wU (d16 A)) tU) (aP16 1) (d16 (sg b).toNat).length * 2 ^ (IntKind.i64.wrap (xp b - lwE a b)).toNat = B), true), (okSh ((hV4 true false a b).push (wU (d16 A)) tU) (aP16 1) (d16 (sg b).toNat).length (d16 (sg b).toNat).length (IntKind.i64.wrap (xp b - lwE a b)), true), (decide (0 < (d16 (sg b).toNat).length), true), (decide (vO (hV4 true false a b) (aP16 0) (d16 (sg a).toNat).length * 2 ^ (IntKind.i64.wrap (xp a - lwE a b)).toNat = A), true), (okSh (hV4 true false a b) (aP16 0) (d16 (sg a).toNat).length (d16 (sg a).toNat).length (IntKind.i64.wrap (xp a - lwE a b)), true), (decide (0 < (d16 (sg a).toNat).length), true), (sgn b, false), lU b, (sgn a, true), lU a] := ⟨by kernel_rfl, by kernel_rfl, by kernel_rfl, by kernel_rfl⟩
theorem va_tftf (a b : Int) (A : Nat) (k : Int) : Fits (reckon (tabH Try.prog extY conR0 hcR0) 300 30 [.int .u64 a, .int .u64 b] [cmp true, cmp false, cmp true, num A, cmp false, num k, cmp true, cmp false]) (.int .i64 (-1)) [(decide ((((d16 (sg b).toNat).length : Nat) : Int) > 0), false), (decide ((((d16 (sg a).toNat).length : Nat) : Int) > 0), true), (decide (cmpZ (vO ((hV4 true false a b).push (wU (d16 A)) tU) (aP16 4) (d16 A).length) (vO ((hV4 true false a b).push (wU (d16 A)) tU) none 0) = k), true), (two16 ((hV4 true false a b).push (wU (d16 A)) tU) (aP16 4) none (d16 A).length (d16 A).length 0 0, true), (rowP ((hV4 true false a b).push (wU (d16 A)) tU) (aP16 1) (d16 (sg b).toNat).length (d16 (sg b).toNat).length, true), (decide (0 < (d16 (sg b).toNat).length), false), (decide (vO (hV4 true false a b) (aP16 0) (d16 (sg a).toNat).length * 2 ^ (IntKind.i64.wrap (xp a - lwE a b)).toNat = A), true), (okSh (hV4 true false a b) (aP16 0) (d16 (sg a).toNat).length (d16 (sg a).toNat).length (IntKind.i64.wrap (xp a - lwE a b)), true), (decide (0 < (d16 (sg a).toNat).length), true), (sgn b, false), lU b, (sgn a, true), lU a] := ⟨by kernel_rfl, by kernel_rfl, by kernel_rfl, by kernel_rfl⟩
theorem va_tfft (a b : Int) (B : Nat) (k : Int) : Fits (reckon (tabH Try.prog extY conR0 hcR0) 300 30 [.int .u64 a, .int .u64 b] [cmp true, cmp false, cmp false, cmp true, num B, num k, cmp false, cmp true]) (.int .i64 k) [(decide ((((d16 (sg b).toNat).length : Nat) : Int) > 0), true), (decide ((((d16 (sg a).toNat).length : Nat) : Int) > 0), false), (decide (cmpZ (vO ((hV4 true false a b).push (wU (d16 B)) tU) none 0) (vO ((hV4 true false a b).push (wU (d16 B)) tU) (aP16 4) (d16 B).length) = k), true), (two16 ((hV4 true false a b).push (wU (d16 B)) tU) none (aP16 4) 0 0 (d16 B).length (d16 B).length, true), (decide (vO (hV4 true false a b) (aP16 1) (d16 (sg b).toNat).length * 2 ^ (IntKind.i64.wrap (xp b - lwE a b)).toNat = B), true), (okSh (hV4 true false a b) (aP16 1) (d16 (sg b).toNat).length (d16 (sg b).toNat).length (IntKind.i64.wrap (xp b - lwE a b)), true), (decide (0 < (d16 (sg b).toNat).length), true), (rowP (hV4 true false a b) (aP16 0) (d16 (sg a).toNat).length (d16 (sg a).toNat).length, true), (decide (0 < (d16 (sg a).toNat).length), false), (sgn b, false), lU b, (sgn a, true), lU a] := ⟨by kernel_rfl, by kernel_rfl, by kernel_rfl, by kernel_rfl⟩
theorem va_tfff (a b : Int) (k : Int) : Fits (reckon (tabH Try.prog extY conR0 hcR0) 300 30 [.int .u64 a, .int .u64 b] [cmp true, cmp false, cmp false, cmp false, num k, cmp false, cmp false]) (.int .i64 k) [(decide ((((d16 (sg b).toNat).length : Nat) : Int) > 0), false), (decide ((((d16 (sg a).toNat).length : Nat) : Int) > 0), false), (decide (cmpZ (vO (hV4 true false a b) none 0) (vO (hV4 true false a b) none 0) = k), true), (two16 (hV4 true false a b) none none 0 0 0 0, true), (rowP (hV4 true false a b) (aP16 1) (d16 (sg b).toNat).length (d16 (sg b).toNat).length, true), (decide (0 < (d16 (sg b).toNat).length), false), (rowP (hV4 true false a b) (aP16 0) (d16 (sg a).toNat).length (d16 (sg a).toNat).length, true), (decide (0 < (d16 (sg a).toNat).length), false), (sgn b, false), lU b, (sgn a, true), lU a] := ⟨by kernel_rfl, by kernel_rfl, by kernel_rfl, by kernel_rfl⟩
theorem va_fttt (a b : Int) (A : Nat) (B : Nat) (k : Int) : Fits (reckon (tabH Try.prog extY conR0 hcR0) 300 30 [.int .u64 a, .int .u64 b] [cmp false, cmp true, cmp true, num A, cmp true, num B, num k, cmp true, cmp true]) (.int .i64 1) [(decide ((((d16 (sg b).toNat).length : Nat) : Int) > 0), true), (decide ((((d16 (sg a).toNat).length : Nat) : Int) > 0), true), (decide (cmpZ (vO (((hV4 false true a b).push (wU (d16 A)) tU).push (wU (d16 B)) tU) (aP16 4) (d16 A).length) (vO (((hV4 false true a b).push (wU (d16 A)) tU).push (wU (d16 B)) tU) (aP16 5) (d16 B).length) = k), true), (two16 (((hV4 false true a b).push (wU (d16 A)) tU).push (wU (d16 B)) tU) (aP16 4) (aP16 5) (d16 A).length (d16 A).length (d16 B).length (d16 B).length, true), (decide (vO ((hV4 false true a b).push (wU (d16 A)) tU) (aP16 1) (d16 (sg b).toNat).length * 2 ^ (IntKind.i64.wrap (xp b - lwE a b)).toNat = B), true), (okSh ((hV4 false true a b).push (wU (d16 A)) tU) (aP16 1) (d16 (sg b).toNat).length (d16 (sg b).toNat).length (IntKind.i64.wrap (xp b - lwE a b)), true), (decide (0 < (d16 (sg b).toNat).length), true), (decide (vO (hV4 false true a b) (aP16 0) (d16 (sg a).toNat).length * 2 ^ (IntKind.i64.wrap (xp a - lwE a b)).toNat = A), true), (okSh (hV4 false true a b) (aP16 0) (d16 (sg a).toNat).length (d16 (sg a).toNat).length (IntKind.i64.wrap (xp a - lwE a b)), true), (decide (0 < (d16 (sg a).toNat).length), true), (sgn b, true), lU b, (sgn a, false), lU a] := ⟨by kernel_rfl, by kernel_rfl, by kernel_rfl, by kernel_rfl⟩
theorem va_fttf (a b : Int) (A : Nat) (k : Int) : Fits (reckon (tabH Try.prog extY conR0 hcR0) 300 30 [.int .u64 a, .int .u64 b] [cmp false, cmp true, cmp true, num A, cmp false, num k, cmp true, cmp false]) (.int .i64 k) [(decide ((((d16 (sg b).toNat).length : Nat) : Int) > 0), false), (decide ((((d16 (sg a).toNat).length : Nat) : Int) > 0), true), (decide (cmpZ (vO ((hV4 false true a b).push (wU (d16 A)) tU) (aP16 4) (d16 A).length) (vO ((hV4 false true a b).push (wU (d16 A)) tU) none 0) = k), true), (two16 ((hV4 false true a b).push (wU (d16 A)) tU) (aP16 4) none (d16 A).length (d16 A).length 0 0, true), (rowP ((hV4 false true a b).push (wU (d16 A)) tU) (aP16 1) (d16 (sg b).toNat).length (d16 (sg b).toNat).length, true), (decide (0 < (d16 (sg b).toNat).length), false), (decide (vO (hV4 false true a b) (aP16 0) (d16 (sg a).toNat).length * 2 ^ (IntKind.i64.wrap (xp a - lwE a b)).toNat = A), true), (okSh (hV4 false true a b) (aP16 0) (d16 (sg a).toNat).length (d16 (sg a).toNat).length (IntKind.i64.wrap (xp a - lwE a b)), true), (decide (0 < (d16 (sg a).toNat).length), true), (sgn b, true), lU b, (sgn a, false), lU a] := ⟨by kernel_rfl, by kernel_rfl, by kernel_rfl, by kernel_rfl⟩
theorem va_ftft (a b : Int) (B : Nat) (k : Int) : Fits (reckon (tabH Try.prog extY conR0 hcR0) 300 30 [.int .u64 a, .int .u64 b] [cmp false, cmp true, cmp false, cmp true, num B, num k, cmp false, cmp true]) (.int .i64 1) [(decide ((((d16 (sg b).toNat).length : Nat) : Int) > 0), true), (decide ((((d16 (sg a).toNat).length : Nat) : Int) > 0), false), (decide (cmpZ (vO ((hV4 false true a b).push (wU (d16 B)) tU) none 0) (vO ((hV4 false true a b).push (wU (d16 B)) tU) (aP16 4) (d16 B).length) = k), true), (two16 ((hV4 false true a b).push (wU (d16 B)) tU) none (aP16 4) 0 0 (d16 B).length (d16 B).length, true), (decide (vO (hV4 false true a b) (aP16 1) (d16 (sg b).toNat).length * 2 ^ (IntKind.i64.wrap (xp b - lwE a b)).toNat = B), true), (okSh (hV4 false true a b) (aP16 1) (d16 (sg b).toNat).length (d16 (sg b).toNat).length (IntKind.i64.wrap (xp b - lwE a b)), true), (decide (0 < (d16 (sg b).toNat).length), true), (rowP (hV4 false true a b) (aP16 0) (d16 (sg a).toNat).length (d16 (sg a).toNat).length, true), (decide (0 < (d16 (sg a).toNat).length), false), (sgn b, true), lU b, (sgn a, false), lU a] := ⟨by kernel_rfl, by kernel_rfl, by kernel_rfl, by kernel_rfl⟩
theorem va_ftff (a b : Int) (k : Int) : Fits (reckon (tabH Try.prog extY conR0 hcR0) 300 30 [.int .u64 a, .int .u64 b] [cmp false, cmp true, cmp false, cmp false, num k, cmp false, cmp false]) (.int .i64 k) [(decide ((((d16 (sg b).toNat).length : Nat) : Int) > 0), false), (decide ((((d16 (sg a).toNat).length : Nat) : Int) > 0), false), (decide (cmpZ (vO (hV4 false true a b) none 0) (vO (hV4 false true a b) none 0) = k), true), (two16 (hV4 false true a b) none none 0 0 0 0, true), (rowP (hV4 false true a b) (aP16 1) (d16 (sg b).toNat).length (d16 (sg b).toNat).length, true), (decide (0 < (d16 (sg b).toNat).length), false), (rowP (hV4 false true a b) (aP16 0) (d16 (sg a).toNat).length (d16 (sg a).toNat).length, true), (decide (0 < (d16 (sg a).toNat).length), false), (sgn b, true), lU b, (sgn a, false), lU a] := ⟨by kernel_rfl, by kernel_rfl, by kernel_rfl, by kernel_rfl⟩
theorem va_fftt (a b : Int) (A : Nat) (B : Nat) (k : Int) : Fits (reckon (tabH Try.prog extY conR0 hcR0) 300 30 [.int .u64 a, .int .u64 b] [cmp false, cmp false, cmp true, num A, cmp true, num B, num k, cmp true, cmp true]) (.int .i64 k) [(decide ((((d16 (sg b).toNat).length : Nat) : Int) > 0), true), (decide ((((d16 (sg a).toNat).length : Nat) : Int) > 0), true), (decide (cmpZ (vO (((hV4 false false a b).push (wU (d16 A)) tU).push (wU (d16 B)) tU) (aP16 4) (d16 A).length) (vO (((hV4 false false a b).push (wU (d16 A)) tU).push (wU (d16 B)) tU) (aP16 5) (d16 B).length) = k), true), (two16 (((hV4 false false a b).push (wU (d16 A)) tU).push (wU (d16 B)) tU) (aP16 4) (aP16 5) (d16 A).length (d16 A).length (d16 B).length (d16 B).length, true), (decide (vO ((hV4 false false a b).push (wU (d16 A)) tU) (aP16 1) (d16 (sg b).toNat).length * 2 ^ (IntKind.i64.wrap (xp b - lwE a b)).toNat = B), true), (okSh ((hV4 false false a b).push (wU (d16 A)) tU) (aP16 1) (d16 (sg b).toNat).length (d16 (sg b).toNat).length (IntKind.i64.wrap (xp b - lwE a b)), true), (decide (0 < (d16 (sg b).toNat).length), true), (decide (vO (hV4 false false a b) (aP16 0) (d16 (sg a).toNat).length * 2 ^ (IntKind.i64.wrap (xp a - lwE a b)).toNat = A), true), (okSh (hV4 false false a b) (aP16 0) (d16 (sg a).toNat).length (d16 (sg a).toNat).length (IntKind.i64.wrap (xp a - lwE a b)), true), (decide (0 < (d16 (sg a).toNat).length), true), (sgn b, false), lU b, (sgn a, false), lU a] := ⟨by kernel_rfl, by kernel_rfl, by kernel_rfl, by kernel_rfl⟩
theorem va_fftf (a b : Int) (A : Nat) (k : Int) : Fits (reckon (tabH Try.prog extY conR0 hcR0) 300 30 [.int .u64 a, .int .u64 b] [cmp false, cmp false, cmp true, num A, cmp false, num k, cmp true, cmp false]) (.int .i64 k) [(decide ((((d16 (sg b).toNat).length : Nat) : Int) > 0), false), (decide ((((d16 (sg a).toNat).length : Nat) : Int) > 0), true), (decide (cmpZ (vO ((hV4 false false a b).push (wU (d16 A)) tU) (aP16 4) (d16 A).length) (vO ((hV4 false false a b).push (wU (d16 A)) tU) none 0) = k), true), (two16 ((hV4 false false a b).push (wU (d16 A)) tU) (aP16 4) none (d16 A).length (d16 A).length 0 0, true), (rowP ((hV4 false false a b).push (wU (d16 A)) tU) (aP16 1) (d16 (sg b).toNat).length (d16 (sg b).toNat).length, true), (decide (0 < (d16 (sg b).toNat).length), false), (decide (vO (hV4 false false a b) (aP16 0) (d16 (sg a).toNat).length * 2 ^ (IntKind.i64.wrap (xp a - lwE a b)).toNat = A), true), (okSh (hV4 false false a b) (aP16 0) (d16 (sg a).toNat).length (d16 (sg a).toNat).length (IntKind.i64.wrap (xp a - lwE a b)), true), (decide (0 < (d16 (sg a).toNat).length), true), (sgn b, false), lU b, (sgn a, false), lU a] := ⟨by kernel_rfl, by kernel_rfl, by kernel_rfl, by kernel_rfl⟩
theorem va_ffft (a b : Int) (B : Nat) (k : Int) : Fits (reckon (tabH Try.prog extY conR0 hcR0) 300 30 [.int .u64 a, .int .u64 b] [cmp false, cmp false, cmp false, cmp true, num B, num k, cmp false, cmp true]) (.int .i64 k) [(decide ((((d16 (sg b).toNat).length : Nat) : Int) > 0), true), (decide ((((d16 (sg a).toNat).length : Nat) : Int) > 0), false), (decide (cmpZ (vO ((hV4 false false a b).push (wU (d16 B)) tU) none 0) (vO ((hV4 false false a b).push (wU (d16 B)) tU) (aP16 4) (d16 B).length) = k), true), (two16 ((hV4 false false a b).push (wU (d16 B)) tU) none (aP16 4) 0 0 (d16 B).length (d16 B).length, true), (decide (vO (hV4 false false a b) (aP16 1) (d16 (sg b).toNat).length * 2 ^ (IntKind.i64.wrap (xp b - lwE a b)).toNat = B), true), (okSh (hV4 false false a b) (aP16 1) (d16 (sg b).toNat).length (d16 (sg b).toNat).length (IntKind.i64.wrap (xp b - lwE a b)), true), (decide (0 < (d16 (sg b).toNat).length), true), (rowP (hV4 false false a b) (aP16 0) (d16 (sg a).toNat).length (d16 (sg a).toNat).length, true), (decide (0 < (d16 (sg a).toNat).length), false), (sgn b, false), lU b, (sgn a, false), lU a] := ⟨by kernel_rfl, by kernel_rfl, by kernel_rfl, by kernel_rfl⟩
theorem va_ffff (a b : Int) (k : Int) : Fits (reckon (tabH Try.prog extY conR0 hcR0) 300 30 [.int .u64 a, .int .u64 b] [cmp false, cmp false, cmp false, cmp false, num k, cmp false, cmp false]) (.int .i64 k) [(decide ((((d16 (sg b).toNat).length : Nat) : Int) > 0), false), (decide ((((d16 (sg a).toNat).length : Nat) : Int) > 0), false), (decide (cmpZ (vO (hV4 false false a b) none 0) (vO (hV4 false false a b) none 0) = k), true), (two16 (hV4 false false a b) none none 0 0 0 0, true), (rowP (hV4 false false a b) (aP16 1) (d16 (sg b).toNat).length (d16 (sg b).toNat).length, true), (decide (0 < (d16 (sg b).toNat).length), false), (rowP (hV4 false false a b) (aP16 0) (d16 (sg a).toNat).length (d16 (sg a).toNat).length, true), (decide (0 < (d16 (sg a).toNat).length), false), (sgn b, false), lU b, (sgn a, false), lU a] := ⟨by kernel_rfl, by kernel_rfl, by kernel_rfl, by kernel_rfl⟩
theorem two_none {h : Hp} {b A : Nat} (hb : h.blk? b = some (wU (d16 A), tU)) (hl : (d16 A).length < 1073741800) : two16 h (aP16 b) none (d16 A).length (d16 A).length 0 0 = true := by
  unfold two16 aP16
  rw [rowP_d16 hb (by omega), dgB_d16 hb]
  simp only [Bool.true_and, Bool.and_true]
  exact Bool.and_eq_true_iff.2 ⟨rfl, blt_iff.2 (by omega)⟩
theorem two_00 (h : Hp) : two16 h none none 0 0 0 0 = true := rfl
theorem shl_len {x k : Nat} (hx : x < 9007199254740992) (hk : k ≤ 2046) : (d16 (x * 2 ^ k)).length < 100000 := by
  obtain ⟨m, hm⟩ : ∃ m, m = 132 := ⟨_, rfl⟩
  have e : (2 : Nat) ^ 53 = 9007199254740992 := rfl
  have h : x * 2 ^ k < 2 ^ (16 * m) := by
    refine Nat.lt_of_lt_of_le (Nat.mul_lt_mul_of_pos_right (show x < 2 ^ 53 by omega) (Nat.pow_pos (by omega))) ?_
    rw [← Nat.pow_add]
    exact Nat.pow_le_pow_right (by omega) (by omega)
  have := d16_len h
  omega
def PkV (a b : Int) (u v : Nat) : Prop := U a ∧ U b ∧ IntKind.i64.wrap (xp a - lwE a b) = (u : Int) ∧ IntKind.i64.wrap (xp b - lwE a b) = (v : Int) ∧ (d16 (sg a).toNat).length < 100000 ∧ (d16 (sg b).toNat).length < 100000 ∧ u < 100000 ∧ v < 100000
theorem vw_tttt (a b k : Int) (u v : Nat) (P : PkV a b u v) (sa : sgn a = true) (sb : sgn b = true) (A : Nat) (eA : (sg a).toNat * 2 ^ ((u : Nat) : Int).toNat = A) (lA : (d16 A).length < 100000) (na : 0 < (d16 (sg a).toNat).length) (B : Nat) (eB : (sg b).toNat * 2 ^ ((v : Nat) : Int).toNat = B) (lB : (d16 B).length < 100000) (nb : 0 < (d16 (sg b).toNat).length) (hk : cmpZ A B = k) (w : World) : Calls Try.prog 30 #[.int .u64 a, .int .u64 b] w fun r w' => r = .returned (.int .i64 (IntKind.i64.wrap (0 - k))) ∧ Tidy w w' := by
  have hv : ([.int .u64 a, .int .u64 b].all (lt 0)) = true := rfl
  have T := tabH_ok conR0_ok hcR0_ok
  obtain ⟨ha, hb, wa, wb, la, lb, lu, lv⟩ := P
  have ka : decide (U a) = true := decide_eq_true ha
  have kb : decide (U b) = true := decide_eq_true hb
  exact fits_calls T (va_tttt a b A B k) (okCons (decide_eq_true (by omega)) (okCons (decide_eq_true (by omega)) (okCons (decide_eq_true (by rw [(vO_aP (V := A) rfl), (vO_aP (V := B) rfl)]; exact hk)) (okCons (oTwo (V := A) (W := B) rfl rfl lA lB) (okCons (decide_eq_true (by rw [vO_aP (V := (sg b).toNat) rfl, wb]; exact eB)) (okCons (by rw [wb]; exact oSh (V := (sg b).toNat) rfl (by omega) (by omega)) (okCons (decide_eq_true (by omega)) (okCons (decide_eq_true (by rw [vO_aP (V := (sg a).toNat) rfl, wa]; exact eA)) (okCons (by rw [wa]; exact oSh (V := (sg a).toNat) rfl (by omega) (by omega)) (okCons (decide_eq_true (by omega)) (okCons sb (okCons kb (okCons sa (okL1 ka)))))))))))))) hv (by rfl) w
theorem vw_tttf (a b k : Int) (u v : Nat) (P : PkV a b u v) (sa : sgn a = true) (sb : sgn b = true) (A : Nat) (eA : (sg a).toNat * 2 ^ ((u : Nat) : Int).toNat = A) (lA : (d16 A).length < 100000) (na : 0 < (d16 (sg a).toNat).length) (nb : ¬ 0 < (d16 (sg b).toNat).length) (hk : cmpZ A 0 = k) (w : World) : Calls Try.prog 30 #[.int .u64 a, .int .u64 b] w fun r w' => r = .returned (.int .i64 (-1)) ∧ Tidy w w' := by
  have hv : ([.int .u64 a, .int .u64 b].all (lt 0)) = true := rfl
  have T := tabH_ok conR0_ok hcR0_ok
  obtain ⟨ha, hb, wa, wb, la, lb, lu, lv⟩ := P
  have ka : decide (U a) = true := decide_eq_true ha
  have kb : decide (U b) = true := decide_eq_true hb
  exact fits_calls T (va_tttf a b A k) (okCons (decide_eq_false (by omega)) (okCons (decide_eq_true (by omega)) (okCons (decide_eq_true (by rw [(vO_aP (V := A) rfl), (vO_nil _)]; exact hk)) (okCons (two_none (A := A) rfl (by omega)) (okCons (rowP_d16 (A := (sg b).toNat) rfl (by omega)) (okCons (decide_eq_false (by omega)) (okCons (decide_eq_true (by rw [vO_aP (V := (sg a).toNat) rfl, wa]; exact eA)) (okCons (by rw [wa]; exact oSh (V := (sg a).toNat) rfl (by omega) (by omega)) (okCons (decide_eq_true (by omega)) (okCons sb (okCons kb (okCons sa (okL1 ka))))))))))))) hv (by rfl) w
theorem vw_ttft (a b k : Int) (u v : Nat) (P : PkV a b u v) (sa : sgn a = true) (sb : sgn b = true) (na : ¬ 0 < (d16 (sg a).toNat).length) (B : Nat) (eB : (sg b).toNat * 2 ^ ((v : Nat) : Int).toNat = B) (lB : (d16 B).length < 100000) (nb : 0 < (d16 (sg b).toNat).length) (hk : cmpZ 0 B = k) (w : World) : Calls Try.prog 30 #[.int .u64 a, .int .u64 b] w fun r w' => r = .returned (.int .i64 1) ∧ Tidy w w' := by
  have hv : ([.int .u64 a, .int .u64 b].all (lt 0)) = true := rfl
  have T := tabH_ok conR0_ok hcR0_ok
  obtain ⟨ha, hb, wa, wb, la, lb, lu, lv⟩ := P
  have ka : decide (U a) = true := decide_eq_true ha
  have kb : decide (U b) = true := decide_eq_true hb
  exact fits_calls T (va_ttft a b B k) (okCons (decide_eq_true (by omega)) (okCons (decide_eq_false (by omega)) (okCons (decide_eq_true (by rw [(vO_nil _), (vO_aP (V := B) rfl)]; exact hk)) (okCons (two_nil (A := B) rfl (by omega)) (okCons (decide_eq_true (by rw [vO_aP (V := (sg b).toNat) rfl, wb]; exact eB)) (okCons (by rw [wb]; exact oSh (V := (sg b).toNat) rfl (by omega) (by omega)) (okCons (decide_eq_true (by omega)) (okCons (rowP_d16 (A := (sg a).toNat) rfl (by omega)) (okCons (decide_eq_false (by omega)) (okCons sb (okCons kb (okCons sa (okL1 ka))))))))))))) hv (by rfl) w
theorem vw_ttff (a b k : Int) (u v : Nat) (P : PkV a b u v) (sa : sgn a = true) (sb : sgn b = true) (na : ¬ 0 < (d16 (sg a).toNat).length) (nb : ¬ 0 < (d16 (sg b).toNat).length) (hk : cmpZ 0 0 = k) (w : World) : Calls Try.prog 30 #[.int .u64 a, .int .u64 b] w fun r w' => r = .returned (.int .i64 k) ∧ Tidy w w' := by
  have hv : ([.int .u64 a, .int .u64 b].all (lt 0)) = true := rfl
  have T := tabH_ok conR0_ok hcR0_ok
  obtain ⟨ha, hb, wa, wb, la, lb, lu, lv⟩ := P
  have ka : decide (U a) = true := decide_eq_true ha
  have kb : decide (U b) = true := decide_eq_true hb
  exact fits_calls T (va_ttff a b k) (okCons (decide_eq_false (by omega)) (okCons (decide_eq_false (by omega)) (okCons (decide_eq_true (by rw [vO_nil]; exact hk)) (okCons (two_00 _) (okCons (rowP_d16 (A := (sg b).toNat) rfl (by omega)) (okCons (decide_eq_false (by omega)) (okCons (rowP_d16 (A := (sg a).toNat) rfl (by omega)) (okCons (decide_eq_false (by omega)) (okCons sb (okCons kb (okCons sa (okL1 ka)))))))))))) hv (by rfl) w
theorem vw_tftt (a b k : Int) (u v : Nat) (P : PkV a b u v) (sa : sgn a = true) (sb : sgn b = false) (A : Nat) (eA : (sg a).toNat * 2 ^ ((u : Nat) : Int).toNat = A) (lA : (d16 A).length < 100000) (na : 0 < (d16 (sg a).toNat).length) (B : Nat) (eB : (sg b).toNat * 2 ^ ((v : Nat) : Int).toNat = B) (lB : (d16 B).length < 100000) (nb : 0 < (d16 (sg b).toNat).length) (hk : cmpZ A B = k) (w : World) : Calls Try.prog 30 #[.int .u64 a, .int .u64 b] w fun r w' => r = .returned (.int .i64 (-1)) ∧ Tidy w w' := by
  have hv : ([.int .u64 a, .int .u64 b].all (lt 0)) = true := rfl
  have T := tabH_ok conR0_ok hcR0_ok
  obtain ⟨ha, hb, wa, wb, la, lb, lu, lv⟩ := P
  have ka : decide (U a) = true := decide_eq_true ha
  have kb : decide (U b) = true := decide_eq_true hb
  exact fits_calls T (va_tftt a b A B k) (okCons (decide_eq_true (by omega)) (okCons (decide_eq_true (by omega)) (okCons (decide_eq_true (by rw [(vO_aP (V := A) rfl), (vO_aP (V := B) rfl)]; exact hk)) (okCons (oTwo (V := A) (W := B) rfl rfl lA lB) (okCons (decide_eq_true (by rw [vO_aP (V := (sg b).toNat) rfl, wb]; exact eB)) (okCons (by rw [wb]; exact oSh (V := (sg b).toNat) rfl (by omega) (by omega)) (okCons (decide_eq_true (by omega)) (okCons (decide_eq_true (by rw [vO_aP (V := (sg a).toNat) rfl, wa]; exact eA)) (okCons (by rw [wa]; exact oSh (V := (sg a).toNat) rfl (by omega) (by omega)) (okCons (decide_eq_true (by omega)) (okCons sb (okCons kb (okCons sa (okL1 ka)))))))))))))) hv (by rfl) w
theorem vw_tftf (a b k : Int) (u v : Nat) (P : PkV a b u v) (sa : sgn a = true) (sb : sgn b = false) (A : Nat) (eA : (sg a).toNat * 2 ^ ((u : Nat) : Int).toNat = A) (lA : (d16 A).length < 100000) (na : 0 < (d16 (sg a).toNat).length) (nb : ¬ 0 < (d16 (sg b).toNat).length) (hk : cmpZ A 0 = k) (w : World) : Calls Try.prog 30 #[.int .u64 a, .int .u64 b] w fun r w' => r = .returned (.int .i64 (-1)) ∧ Tidy w w' := by
  have hv : ([.int .u64 a, .int .u64 b].all (lt 0)) = true := rfl
  have T := tabH_ok conR0_ok hcR0_ok
  obtain ⟨ha, hb, wa, wb, la, lb, lu, lv⟩ := P
  have ka : decide (U a) = true := decide_eq_true ha
  have kb : decide (U b) = true := decide_eq_true hb
  exact fits_calls T (va_tftf a b A k) (okCons (decide_eq_false (by omega)) (okCons (decide_eq_true (by omega)) (okCons (decide_eq_true (by rw [(vO_aP (V := A) rfl), (vO_nil _)]; exact hk)) (okCons (two_none (A := A) rfl (by omega)) (okCons (rowP_d16 (A := (sg b).toNat) rfl (by omega)) (okCons (decide_eq_false (by omega)) (okCons (decide_eq_true (by rw [vO_aP (V := (sg a).toNat) rfl, wa]; exact eA)) (okCons (by rw [wa]; exact oSh (V := (sg a).toNat) rfl (by omega) (by omega)) (okCons (decide_eq_true (by omega)) (okCons sb (okCons kb (okCons sa (okL1 ka))))))))))))) hv (by rfl) w
theorem vw_tfft (a b k : Int) (u v : Nat) (P : PkV a b u v) (sa : sgn a = true) (sb : sgn b = false) (na : ¬ 0 < (d16 (sg a).toNat).length) (B : Nat) (eB : (sg b).toNat * 2 ^ ((v : Nat) : Int).toNat = B) (lB : (d16 B).length < 100000) (nb : 0 < (d16 (sg b).toNat).length) (hk : cmpZ 0 B = k) (w : World) : Calls Try.prog 30 #[.int .u64 a, .int .u64 b] w fun r w' => r = .returned (.int .i64 k) ∧ Tidy w w' := by
  have hv : ([.int .u64 a, .int .u64 b].all (lt 0)) = true := rfl
  have T := tabH_ok conR0_ok hcR0_ok
  obtain ⟨ha, hb, wa, wb, la, lb, lu, lv⟩ := P
  have ka : decide (U a) = true := decide_eq_true ha
  have kb : decide (U b) = true := decide_eq_true hb
  exact fits_calls T (va_tfft a b B k) (okCons (decide_eq_true (by omega)) (okCons (decide_eq_false (by omega)) (okCons (decide_eq_true (by rw [(vO_nil _), (vO_aP (V := B) rfl)]; exact hk)) (okCons (two_nil (A := B) rfl (by omega)) (okCons (decide_eq_true (by rw [vO_aP (V := (sg b).toNat) rfl, wb]; exact eB)) (okCons (by rw [wb]; exact oSh (V := (sg b).toNat) rfl (by omega) (by omega)) (okCons (decide_eq_true (by omega)) (okCons (rowP_d16 (A := (sg a).toNat) rfl (by omega)) (okCons (decide_eq_false (by omega)) (okCons sb (okCons kb (okCons sa (okL1 ka))))))))))))) hv (by rfl) w
theorem vw_tfff (a b k : Int) (u v : Nat) (P : PkV a b u v) (sa : sgn a = true) (sb : sgn b = false) (na : ¬ 0 < (d16 (sg a).toNat).length) (nb : ¬ 0 < (d16 (sg b).toNat).length) (hk : cmpZ 0 0 = k) (w : World) : Calls Try.prog 30 #[.int .u64 a, .int .u64 b] w fun r w' => r = .returned (.int .i64 k) ∧ Tidy w w' := by
  have hv : ([.int .u64 a, .int .u64 b].all (lt 0)) = true := rfl
  have T := tabH_ok conR0_ok hcR0_ok
  obtain ⟨ha, hb, wa, wb, la, lb, lu, lv⟩ := P
  have ka : decide (U a) = true := decide_eq_true ha
  have kb : decide (U b) = true := decide_eq_true hb
  exact fits_calls T (va_tfff a b k) (okCons (decide_eq_false (by omega)) (okCons (decide_eq_false (by omega)) (okCons (decide_eq_true (by rw [vO_nil]; exact hk)) (okCons (two_00 _) (okCons (rowP_d16 (A := (sg b).toNat) rfl (by omega)) (okCons (decide_eq_false (by omega)) (okCons (rowP_d16 (A := (sg a).toNat) rfl (by omega)) (okCons (decide_eq_false (by omega)) (okCons sb (okCons kb (okCons sa (okL1 ka)))))))))))) hv (by rfl) w
theorem vw_fttt (a b k : Int) (u v : Nat) (P : PkV a b u v) (sa : sgn a = false) (sb : sgn b = true) (A : Nat) (eA : (sg a).toNat * 2 ^ ((u : Nat) : Int).toNat = A) (lA : (d16 A).length < 100000) (na : 0 < (d16 (sg a).toNat).length) (B : Nat) (eB : (sg b).toNat * 2 ^ ((v : Nat) : Int).toNat = B) (lB : (d16 B).length < 100000) (nb : 0 < (d16 (sg b).toNat).length) (hk : cmpZ A B = k) (w : World) : Calls Try.prog 30 #[.int .u64 a, .int .u64 b] w fun r w' => r = .returned (.int .i64 1) ∧ Tidy w w' := by
  have hv : ([.int .u64 a, .int .u64 b].all (lt 0)) = true := rfl
  have T := tabH_ok conR0_ok hcR0_ok
  obtain ⟨ha, hb, wa, wb, la, lb, lu, lv⟩ := P
  have ka : decide (U a) = true := decide_eq_true ha
  have kb : decide (U b) = true := decide_eq_true hb
  exact fits_calls T (va_fttt a b A B k) (okCons (decide_eq_true (by omega)) (okCons (decide_eq_true (by omega)) (okCons (decide_eq_true (by rw [(vO_aP (V := A) rfl), (vO_aP (V := B) rfl)]; exact hk)) (okCons (oTwo (V := A) (W := B) rfl rfl lA lB) (okCons (decide_eq_true (by rw [vO_aP (V := (sg b).toNat) rfl, wb]; exact eB)) (okCons (by rw [wb]; exact oSh (V := (sg b).toNat) rfl (by omega) (by omega)) (okCons (decide_eq_true (by omega)) (okCons (decide_eq_true (by rw [vO_aP (V := (sg a).toNat) rfl, wa]; exact eA)) (okCons (by rw [wa]; exact oSh (V := (sg a).toNat) rfl (by omega) (by omega)) (okCons (decide_eq_true (by omega)) (okCons sb (okCons kb (okCons sa (okL1 ka)))))))))))))) hv (by rfl) w
theorem vw_fttf (a b k : Int) (u v : Nat) (P : PkV a b u v) (sa : sgn a = false) (sb : sgn b = true) (A : Nat) (eA : (sg a).toNat * 2 ^ ((u : Nat) : Int).toNat = A) (lA : (d16 A).length < 100000) (na : 0 < (d16 (sg a).toNat).length) (nb : ¬ 0 < (d16 (sg b).toNat).length) (hk : cmpZ A 0 = k) (w : World) : Calls Try.prog 30 #[.int .u64 a, .int .u64 b] w fun r w' => r = .returned (.int .i64 k) ∧ Tidy w w' := by
  have hv : ([.int .u64 a, .int .u64 b].all (lt 0)) = true := rfl
  have T := tabH_ok conR0_ok hcR0_ok
  obtain ⟨ha, hb, wa, wb, la, lb, lu, lv⟩ := P
  have ka : decide (U a) = true := decide_eq_true ha
  have kb : decide (U b) = true := decide_eq_true hb
  exact fits_calls T (va_fttf a b A k) (okCons (decide_eq_false (by omega)) (okCons (decide_eq_true (by omega)) (okCons (decide_eq_true (by rw [(vO_aP (V := A) rfl), (vO_nil _)]; exact hk)) (okCons (two_none (A := A) rfl (by omega)) (okCons (rowP_d16 (A := (sg b).toNat) rfl (by omega)) (okCons (decide_eq_false (by omega)) (okCons (decide_eq_true (by rw [vO_aP (V := (sg a).toNat) rfl, wa]; exact eA)) (okCons (by rw [wa]; exact oSh (V := (sg a).toNat) rfl (by omega) (by omega)) (okCons (decide_eq_true (by omega)) (okCons sb (okCons kb (okCons sa (okL1 ka))))))))))))) hv (by rfl) w
theorem vw_ftft (a b k : Int) (u v : Nat) (P : PkV a b u v) (sa : sgn a = false) (sb : sgn b = true) (na : ¬ 0 < (d16 (sg a).toNat).length) (B : Nat) (eB : (sg b).toNat * 2 ^ ((v : Nat) : Int).toNat = B) (lB : (d16 B).length < 100000) (nb : 0 < (d16 (sg b).toNat).length) (hk : cmpZ 0 B = k) (w : World) : Calls Try.prog 30 #[.int .u64 a, .int .u64 b] w fun r w' => r = .returned (.int .i64 1) ∧ Tidy w w' := by
  have hv : ([.int .u64 a, .int .u64 b].all (lt 0)) = true := rfl
  have T := tabH_ok conR0_ok hcR0_ok
  obtain ⟨ha, hb, wa, wb, la, lb, lu, lv⟩ := P
  have ka : decide (U a) = true := decide_eq_true ha
  have kb : decide (U b) = true := decide_eq_true hb
  exact fits_calls T (va_ftft a b B k) (okCons (decide_eq_true (by omega)) (okCons (decide_eq_false (by omega)) (okCons (decide_eq_true (by rw [(vO_nil _), (vO_aP (V := B) rfl)]; exact hk)) (okCons (two_nil (A := B) rfl (by omega)) (okCons (decide_eq_true (by rw [vO_aP (V := (sg b).toNat) rfl, wb]; exact eB)) (okCons (by rw [wb]; exact oSh (V := (sg b).toNat) rfl (by omega) (by omega)) (okCons (decide_eq_true (by omega)) (okCons (rowP_d16 (A := (sg a).toNat) rfl (by omega)) (okCons (decide_eq_false (by omega)) (okCons sb (okCons kb (okCons sa (okL1 ka))))))))))))) hv (by rfl) w
theorem vw_ftff (a b k : Int) (u v : Nat) (P : PkV a b u v) (sa : sgn a = false) (sb : sgn b = true) (na : ¬ 0 < (d16 (sg a).toNat).length) (nb : ¬ 0 < (d16 (sg b).toNat).length) (hk : cmpZ 0 0 = k) (w : World) : Calls Try.prog 30 #[.int .u64 a, .int .u64 b] w fun r w' => r = .returned (.int .i64 k) ∧ Tidy w w' := by
  have hv : ([.int .u64 a, .int .u64 b].all (lt 0)) = true := rfl
  have T := tabH_ok conR0_ok hcR0_ok
  obtain ⟨ha, hb, wa, wb, la, lb, lu, lv⟩ := P
  have ka : decide (U a) = true := decide_eq_true ha
  have kb : decide (U b) = true := decide_eq_true hb
  exact fits_calls T (va_ftff a b k) (okCons (decide_eq_false (by omega)) (okCons (decide_eq_false (by omega)) (okCons (decide_eq_true (by rw [vO_nil]; exact hk)) (okCons (two_00 _) (okCons (rowP_d16 (A := (sg b).toNat) rfl (by omega)) (okCons (decide_eq_false (by omega)) (okCons (rowP_d16 (A := (sg a).toNat) rfl (by omega)) (okCons (decide_eq_false (by omega)) (okCons sb (okCons kb (okCons sa (okL1 ka)))))))))))) hv (by rfl) w
theorem vw_fftt (a b k : Int) (u v : Nat) (P : PkV a b u v) (sa : sgn a = false) (sb : sgn b = false) (A : Nat) (eA : (sg a).toNat * 2 ^ ((u : Nat) : Int).toNat = A) (lA : (d16 A).length < 100000) (na : 0 < (d16 (sg a).toNat).length) (B : Nat) (eB : (sg b).toNat * 2 ^ ((v : Nat) : Int).toNat = B) (lB : (d16 B).length < 100000) (nb : 0 < (d16 (sg b).toNat).length) (hk : cmpZ A B = k) (w : World) : Calls Try.prog 30 #[.int .u64 a, .int .u64 b] w fun r w' => r = .returned (.int .i64 k) ∧ Tidy w w' := by
  have hv : ([.int .u64 a, .int .u64 b].all (lt 0)) = true := rfl
  have T := tabH_ok conR0_ok hcR0_ok
  obtain ⟨ha, hb, wa, wb, la, lb, lu, lv⟩ := P
  have ka : decide (U a) = true := decide_eq_true ha
  have kb : decide (U b) = true := decide_eq_true hb
  exact fits_calls T (va_fftt a b A B k) (okCons (decide_eq_true (by omega)) (okCons (decide_eq_true (by omega)) (okCons (decide_eq_true (by rw [(vO_aP (V := A) rfl), (vO_aP (V := B) rfl)]; exact hk)) (okCons (oTwo (V := A) (W := B) rfl rfl lA lB) (okCons (decide_eq_true (by rw [vO_aP (V := (sg b).toNat) rfl, wb]; exact eB)) (okCons (by rw [wb]; exact oSh (V := (sg b).toNat) rfl (by omega) (by omega)) (okCons (decide_eq_true (by omega)) (okCons (decide_eq_true (by rw [vO_aP (V := (sg a).toNat) rfl, wa]; exact eA)) (okCons (by rw [wa]; exact oSh (V := (sg a).toNat) rfl (by omega) (by omega)) (okCons (decide_eq_true (by omega)) (okCons sb (okCons kb (okCons sa (okL1 ka)))))))))))))) hv (by rfl) w
theorem vw_fftf (a b k : Int) (u v : Nat) (P : PkV a b u v) (sa : sgn a = false) (sb : sgn b = false) (A : Nat) (eA : (sg a).toNat * 2 ^ ((u : Nat) : Int).toNat = A) (lA : (d16 A).length < 100000) (na : 0 < (d16 (sg a).toNat).length) (nb : ¬ 0 < (d16 (sg b).toNat).length) (hk : cmpZ A 0 = k) (w : World) : Calls Try.prog 30 #[.int .u64 a, .int .u64 b] w fun r w' => r = .returned (.int .i64 k) ∧ Tidy w w' := by
  have hv : ([.int .u64 a, .int .u64 b].all (lt 0)) = true := rfl
  have T := tabH_ok conR0_ok hcR0_ok
  obtain ⟨ha, hb, wa, wb, la, lb, lu, lv⟩ := P
  have ka : decide (U a) = true := decide_eq_true ha
  have kb : decide (U b) = true := decide_eq_true hb
  exact fits_calls T (va_fftf a b A k) (okCons (decide_eq_false (by omega)) (okCons (decide_eq_true (by omega)) (okCons (decide_eq_true (by rw [(vO_aP (V := A) rfl), (vO_nil _)]; exact hk)) (okCons (two_none (A := A) rfl (by omega)) (okCons (rowP_d16 (A := (sg b).toNat) rfl (by omega)) (okCons (decide_eq_false (by omega)) (okCons (decide_eq_true (by rw [vO_aP (V := (sg a).toNat) rfl, wa]; exact eA)) (okCons (by rw [wa]; exact oSh (V := (sg a).toNat) rfl (by omega) (by omega)) (okCons (decide_eq_true (by omega)) (okCons sb (okCons kb (okCons sa (okL1 ka))))))))))))) hv (by rfl) w
theorem vw_ffft (a b k : Int) (u v : Nat) (P : PkV a b u v) (sa : sgn a = false) (sb : sgn b = false) (na : ¬ 0 < (d16 (sg a).toNat).length) (B : Nat) (eB : (sg b).toNat * 2 ^ ((v : Nat) : Int).toNat = B) (lB : (d16 B).length < 100000) (nb : 0 < (d16 (sg b).toNat).length) (hk : cmpZ 0 B = k) (w : World) : Calls Try.prog 30 #[.int .u64 a, .int .u64 b] w fun r w' => r = .returned (.int .i64 k) ∧ Tidy w w' := by
  have hv : ([.int .u64 a, .int .u64 b].all (lt 0)) = true := rfl
  have T := tabH_ok conR0_ok hcR0_ok
  obtain ⟨ha, hb, wa, wb, la, lb, lu, lv⟩ := P
  have ka : decide (U a) = true := decide_eq_true ha
  have kb : decide (U b) = true := decide_eq_true hb
  exact fits_calls T (va_ffft a b B k) (okCons (decide_eq_true (by omega)) (okCons (decide_eq_false (by omega)) (okCons (decide_eq_true (by rw [(vO_nil _), (vO_aP (V := B) rfl)]; exact hk)) (okCons (two_nil (A := B) rfl (by omega)) (okCons (decide_eq_true (by rw [vO_aP (V := (sg b).toNat) rfl, wb]; exact eB)) (okCons (by rw [wb]; exact oSh (V := (sg b).toNat) rfl (by omega) (by omega)) (okCons (decide_eq_true (by omega)) (okCons (rowP_d16 (A := (sg a).toNat) rfl (by omega)) (okCons (decide_eq_false (by omega)) (okCons sb (okCons kb (okCons sa (okL1 ka))))))))))))) hv (by rfl) w
theorem vw_ffff (a b k : Int) (u v : Nat) (P : PkV a b u v) (sa : sgn a = false) (sb : sgn b = false) (na : ¬ 0 < (d16 (sg a).toNat).length) (nb : ¬ 0 < (d16 (sg b).toNat).length) (hk : cmpZ 0 0 = k) (w : World) : Calls Try.prog 30 #[.int .u64 a, .int .u64 b] w fun r w' => r = .returned (.int .i64 k) ∧ Tidy w w' := by
  have hv : ([.int .u64 a, .int .u64 b].all (lt 0)) = true := rfl
  have T := tabH_ok conR0_ok hcR0_ok
  obtain ⟨ha, hb, wa, wb, la, lb, lu, lv⟩ := P
  have ka : decide (U a) = true := decide_eq_true ha
  have kb : decide (U b) = true := decide_eq_true hb
  exact fits_calls T (va_ffff a b k) (okCons (decide_eq_false (by omega)) (okCons (decide_eq_false (by omega)) (okCons (decide_eq_true (by rw [vO_nil]; exact hk)) (okCons (two_00 _) (okCons (rowP_d16 (A := (sg b).toNat) rfl (by omega)) (okCons (decide_eq_false (by omega)) (okCons (rowP_d16 (A := (sg a).toNat) rfl (by omega)) (okCons (decide_eq_false (by omega)) (okCons sb (okCons kb (okCons sa (okL1 ka)))))))))))) hv (by rfl) w
theorem value_calls (a b : Int) (ha : U a) (hb : U b) (h1 : cl a ≤ 2) (h2 : cl b ≤ 2) (w : World) : Calls Try.prog 30 #[.int .u64 a, .int .u64 b] w fun r w' => r = .returned (.int .i64 (coV a b)) ∧ Tidy w w' := by
  have sga := sg_lt a
  have sgb := sg_lt b
  obtain ⟨_, w1, w2, u1, u2⟩ := lwE_bd a b
  have xa := xp_bd a
  have xb := xp_bd b
  have wa : IntKind.i64.wrap (xp a - lwE a b) = ((upA a b : Nat) : Int) := by unfold upA; rw [wrapI' ⟨by omega, by omega⟩]; omega
  have wb : IntKind.i64.wrap (xp b - lwE a b) = ((upB a b : Nat) : Int) := by unfold upB; rw [wrapI' ⟨by omega, by omega⟩]; omega
  have eA : (sg a).toNat * 2 ^ ((upA a b : Nat) : Int).toNat = unA a b := by rw [Int.toNat_natCast]; rfl
  have eB : (sg b).toNat * 2 ^ ((upB a b : Nat) : Int).toNat = unB a b := by rw [Int.toNat_natCast]; rfl
  have lA : (d16 (unA a b)).length < 100000 := shl_len (by omega) u1
  have lB : (d16 (unB a b)).length < 100000 := shl_len (by omega) u2
  have la : (d16 (sg a).toNat).length < 100000 := by have := shl_len (x := (sg a).toNat) (k := 0) (by omega) (by omega); rwa [Nat.pow_zero, Nat.mul_one] at this
  have lb : (d16 (sg b).toNat).length < 100000 := by have := shl_len (x := (sg b).toNat) (k := 0) (by omega) (by omega); rwa [Nat.pow_zero, Nat.mul_one] at this
  have P : PkV a b (upA a b) (upB a b) := ⟨ha, hb, wa, wb, la, lb, by omega, by omega⟩
  have ia := d16_iff (V := (sg a).toNat)
  have ib := d16_iff (V := (sg b).toNat)
  have ja := sg_no h1
  have jb := sg_no h2
  obtain ⟨c1, c2, c3, c4⟩ := co_val ha hb h1 h2
  obtain ⟨m1, m2⟩ := un_mag h1 h2
  have zA : ¬ 0 < (d16 (sg a).toNat).length → unA a b = 0 := fun h => by unfold unA; rw [show (sg a).toNat = 0 by omega, Nat.zero_mul]
  have zB : ¬ 0 < (d16 (sg b).toNat).length → unB a b = 0 := fun h => by unfold unB; rw [show (sg b).toNat = 0 by omega, Nat.zero_mul]
  have hk : cmpZ (unA a b) (unB a b) = kM a b := by
    unfold cmpZ kM
    by_cases q1 : mag a < mag b
    · rw [if_pos q1, if_pos (m1.2 q1)]
    · rw [if_neg q1, if_neg (fun h => q1 (m1.1 h))]
      by_cases q2 : mag a = mag b
      · rw [if_pos q2, if_pos (m2.2 q2)]
      · rw [if_neg q2, if_neg (fun h => q2 (m2.1 h))]
  have kb1 : -1 ≤ kM a b ∧ kM a b ≤ 1 := by
    unfold kM
    split
    · omega
    · split <;> omega
  have ew : IntKind.i64.wrap (0 - kM a b) = 0 - kM a b := wrapI' ⟨by omega, by omega⟩
  have da : 9223372036854775808 ≤ a ↔ sgn a = true := by unfold sgn; exact decide_eq_true_iff.symm
  have db : 9223372036854775808 ≤ b ↔ sgn b = true := by unfold sgn; exact decide_eq_true_iff.symm
  rw [da] at c1 c2 c3 c4
  rw [db] at c1 c2 c3 c4
  have fa : 0 < (d16 (sg a).toNat).length ↔ mag a ≠ 0 := ia.trans ja
  have fb : 0 < (d16 (sg b).toNat).length ↔ mag b ≠ 0 := ib.trans jb
  rcases Bool.eq_false_or_eq_true (sgn a) with sa | sa
  · rcases Bool.eq_false_or_eq_true (sgn b) with sb | sb
    · by_cases na : 0 < (d16 (sg a).toNat).length
      · by_cases nb : 0 < (d16 (sg b).toNat).length
        · rw [c1 ⟨fa.1 na, sa⟩ ⟨fb.1 nb, sb⟩, ← ew]
          exact vw_tttt a b (kM a b) _ _ P sa sb _ eA lA na _ eB lB nb hk w
        · rw [c2 ⟨fa.1 na, sa⟩ (fun h => nb (fb.2 h.1))]
          exact vw_tttf a b (kM a b) _ _ P sa sb _ eA lA na nb (by rw [zB nb] at hk; exact hk) w
      · by_cases nb : 0 < (d16 (sg b).toNat).length
        · rw [c3 (fun h => na (fa.2 h.1)) ⟨fb.1 nb, sb⟩]
          exact vw_ttft a b (kM a b) _ _ P sa sb na _ eB lB nb (by rw [zA na] at hk; exact hk) w
        · rw [c4 (fun h => na (fa.2 h.1)) (fun h => nb (fb.2 h.1))]
          exact vw_ttff a b (kM a b) _ _ P sa sb na nb (by rw [zA na, zB nb] at hk; exact hk) w
    · by_cases na : 0 < (d16 (sg a).toNat).length
      · by_cases nb : 0 < (d16 (sg b).toNat).length
        · rw [c2 ⟨fa.1 na, sa⟩ (fun h => by rw [sb] at h; exact Bool.noConfusion h.2)]
          exact vw_tftt a b (kM a b) _ _ P sa sb _ eA lA na _ eB lB nb hk w
        · rw [c2 ⟨fa.1 na, sa⟩ (fun h => nb (fb.2 h.1))]
          exact vw_tftf a b (kM a b) _ _ P sa sb _ eA lA na nb (by rw [zB nb] at hk; exact hk) w
      · by_cases nb : 0 < (d16 (sg b).toNat).length
        · rw [c4 (fun h => na (fa.2 h.1)) (fun h => by rw [sb] at h; exact Bool.noConfusion h.2)]
          exact vw_tfft a b (kM a b) _ _ P sa sb na _ eB lB nb (by rw [zA na] at hk; exact hk) w
        · rw [c4 (fun h => na (fa.2 h.1)) (fun h => nb (fb.2 h.1))]
          exact vw_tfff a b (kM a b) _ _ P sa sb na nb (by rw [zA na, zB nb] at hk; exact hk) w
  · rcases Bool.eq_false_or_eq_true (sgn b) with sb | sb
    · by_cases na : 0 < (d16 (sg a).toNat).length
      · by_cases nb : 0 < (d16 (sg b).toNat).length
        · rw [c3 (fun h => by rw [sa] at h; exact Bool.noConfusion h.2) ⟨fb.1 nb, sb⟩]
          exact vw_fttt a b (kM a b) _ _ P sa sb _ eA lA na _ eB lB nb hk w
        · rw [c4 (fun h => by rw [sa] at h; exact Bool.noConfusion h.2) (fun h => nb (fb.2 h.1))]
          exact vw_fttf a b (kM a b) _ _ P sa sb _ eA lA na nb (by rw [zB nb] at hk; exact hk) w
      · by_cases nb : 0 < (d16 (sg b).toNat).length
        · rw [c3 (fun h => na (fa.2 h.1)) ⟨fb.1 nb, sb⟩]
          exact vw_ftft a b (kM a b) _ _ P sa sb na _ eB lB nb (by rw [zA na] at hk; exact hk) w
        · rw [c4 (fun h => na (fa.2 h.1)) (fun h => nb (fb.2 h.1))]
          exact vw_ftff a b (kM a b) _ _ P sa sb na nb (by rw [zA na, zB nb] at hk; exact hk) w
    · by_cases na : 0 < (d16 (sg a).toNat).length
      · by_cases nb : 0 < (d16 (sg b).toNat).length
        · rw [c4 (fun h => by rw [sa] at h; exact Bool.noConfusion h.2) (fun h => by rw [sb] at h; exact Bool.noConfusion h.2)]
          exact vw_fftt a b (kM a b) _ _ P sa sb _ eA lA na _ eB lB nb hk w
        · rw [c4 (fun h => by rw [sa] at h; exact Bool.noConfusion h.2) (fun h => nb (fb.2 h.1))]
          exact vw_fftf a b (kM a b) _ _ P sa sb _ eA lA na nb (by rw [zB nb] at hk; exact hk) w
      · by_cases nb : 0 < (d16 (sg b).toNat).length
        · rw [c4 (fun h => na (fa.2 h.1)) (fun h => by rw [sb] at h; exact Bool.noConfusion h.2)]
          exact vw_ffft a b (kM a b) _ _ P sa sb na _ eB lB nb (by rw [zA na] at hk; exact hk) w
        · rw [c4 (fun h => na (fa.2 h.1)) (fun h => nb (fb.2 h.1))]
          exact vw_ffff a b (kM a b) _ _ P sa sb na nb (by rw [zA na, zB nb] at hk; exact hk) w
def conR1 : Con := alt 30 (gUU (fun a b => .int .i64 (coV a b)) fun a b => decide (cl a ≤ 2 ∧ cl b ≤ 2)) conR0
theorem conR1_ok : ConOk conR1 := alt_ok Try.func30 rfl (gUU_ok fun a b ha hb hc w => value_calls a b ha hb (of_decide_eq_true hc).1 (of_decide_eq_true hc).2 w) conR0_ok
end Go.Proofs.Ytfmfcbnhmkkibaa
