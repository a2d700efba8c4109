/-
  Layer 3's calls on patterns, as calls in every world: pat.Abs, pat.Class, pat.Take, and the document's own Take.
-/
import Derived.Test.YtfmfcbnhmkkibaaG04
namespace Go.Proofs.Ytfmfcbnhmkkibaa
open Go.KRun Go.Pt
set_option maxRecDepth 100000

/-- a call with one word of 64 bits -/
def gU (k : Int → Value) : Ans := fun vals s =>
  match vals with
  | [.int .u64 p] => some (k p, s, [(decide (U p), true)])
  | _ => none
theorem gU_ok {f : Nat} {k : Int → Value} (hk : ∀ p : Int, U p → ∀ w, Calls Try.prog f #[.int .u64 p] w fun e w' => e = .returned (k p) ∧ Tidy w w') : AnsOk f (gU k) := by
  intro vals s v s' lg h hl w
  unfold gU at h
  split at h
  · cases h
    exact hk _ (of_decide_eq_true (hl _ (List.mem_singleton.2 rfl))) w
  · cases h

theorem abs_fits (p : Int) : Fits (reckon (tabOf Try.prog extY conN true) 300 33 [.int .u64 p] []) (.int .u64 (bNot p 9223372036854775808)) [] := ⟨by kernel_rfl, by kernel_rfl, by kernel_rfl, by kernel_rfl⟩
theorem abs_ok : AnsOk 33 (gU fun p => .int .u64 (mag p)) := gU_ok fun p hp w => by
  have := fits_calls (tabY_ok conN_ok) (abs_fits p) (fun x hx => by cases hx) (by rfl) (by rfl) w
  rw [bNot_sign hp] at this
  exact this
def conA : Con := alt 33 (gU fun p => .int .u64 (mag p)) conN
theorem conA_ok : ConOk conA := alt_ok Try.func33 rfl abs_ok conN_ok
/-- the exponent as the code reckons it -/
def exM (p : Int) : Int := IntKind.i64.wrap ((mag p).fdiv (2 ^ min (52 : Int).toNat 64))
theorem exM_eq (p : Int) : exM p = ex p := by
  have e : ((2 : Int) ^ min (52 : Int).toNat 64) = 4503599627370496 := by rfl
  unfold exM
  rw [e, Int.fdiv_eq_ediv_of_nonneg _ (by omega), ex_mag]
  have := ex_lt p
  exact wrapI' ⟨by omega, by omega⟩
def frM (p : Int) : Int := bAnd p 4503599627370495
def lX (p : Int) (l : Log) : Log := (decide ((52 : Int) < 0), false) :: (decide (U p), true) :: l
theorem lX_ok {p : Int} (hp : U p) : okLog (lX p []) := okCons rfl (okL1 (decide_eq_true hp))
def lQ (p : Int) : Bool := bAnd (frM p) 2251799813685248 != 0
theorem cls_small (p : Int) (d : Bool) : Fits (reckon (tabOf Try.prog extY conA true) 300 24 [.int .u64 p] [cmp true, cmp d]) (.int .i64 (match d with | true => 0 | false => 1)) ((frM p == 0, d) :: (exM p == 0, true) :: lX p []) := by
  cases d <;> exact ⟨by kernel_rfl, by kernel_rfl, by kernel_rfl, by kernel_rfl⟩
theorem cls_endless (p : Int) : Fits (reckon (tabOf Try.prog extY conA true) 300 24 [.int .u64 p] [cmp false, cmp true, cmp true]) (.int .i64 3) ((frM p == 0, true) :: (exM p == 2047, true) :: (exM p == 0, false) :: lX p []) := ⟨by kernel_rfl, by kernel_rfl, by kernel_rfl, by kernel_rfl⟩
theorem cls_great (p : Int) (d : Bool) : Fits (reckon (tabOf Try.prog extY conA true) 300 24 [.int .u64 p] [cmp false, cmp true, cmp false, cmp d]) (.int .i64 (match d with | true => 4 | false => 5)) ((lQ p, d) :: (frM p == 0, false) :: (exM p == 2047, true) :: (exM p == 0, false) :: lX p []) := by
  cases d <;> exact ⟨by kernel_rfl, by kernel_rfl, by kernel_rfl, by kernel_rfl⟩
theorem cls_plain (p : Int) : Fits (reckon (tabOf Try.prog extY conA true) 300 24 [.int .u64 p] [cmp false, cmp false]) (.int .i64 2) ((exM p == 2047, false) :: (exM p == 0, false) :: lX p []) := ⟨by kernel_rfl, by kernel_rfl, by kernel_rfl, by kernel_rfl⟩
theorem frM_eq {p : Int} (hp : U p) : frM p = fr p := bAnd_frac hp
theorem lQ_eq {p : Int} (hp : U p) : lQ p = decide (2251799813685248 ≤ fr p) := by
  have := fr_lt p
  unfold lQ
  rw [frM_eq hp, bAnd_quiet ⟨by omega, by omega⟩]
  by_cases h : 2251799813685248 ≤ fr p
  · rw [decide_eq_true h, show fr p / 2251799813685248 = 1 from by omega]; rfl
  · rw [decide_eq_false h, show fr p / 2251799813685248 = 0 from by omega]; rfl
theorem cls_ok : AnsOk 24 (gU fun p => .int .i64 (cl p)) := gU_ok fun p hp w => by
  have hl := lX_ok hp
  have ee := exM_eq p
  have ef := frM_eq hp
  unfold cl
  by_cases h0 : ex p = 0
  · rw [if_pos h0]
    have := fits_calls (tabY_ok conA_ok) (cls_small p (frM p == 0)) (okCons rfl (okCons (by rw [ee]; simp [h0]) hl)) (by rfl) (by cases (frM p == 0) <;> rfl) w
    rw [ef] at this
    by_cases h1 : fr p = 0
    · rw [if_pos h1]; rw [show (fr p == 0) = true from by simp [h1]] at this; exact this
    · rw [if_neg h1]; rw [show (fr p == 0) = false from by simp [h1]] at this; exact this
  · rw [if_neg h0]
    by_cases h2 : ex p = 2047
    · rw [if_pos h2]
      by_cases h1 : fr p = 0
      · rw [if_pos h1]
        exact fits_calls (tabY_ok conA_ok) (cls_endless p) (okCons (by rw [ef]; simp [h1]) (okCons (by rw [ee]; simp [h2]) (okCons (by rw [ee]; simp [h0]) hl))) (by rfl) (by rfl) w
      · rw [if_neg h1]
        have := fits_calls (tabY_ok conA_ok) (cls_great p (lQ p)) (okCons rfl (okCons (by rw [ef]; simp [h1]) (okCons (by rw [ee]; simp [h2]) (okCons (by rw [ee]; simp [h0]) hl)))) (by rfl) (by cases (lQ p) <;> rfl) w
        rw [lQ_eq hp] at this
        by_cases h3 : 2251799813685248 ≤ fr p
        · rw [if_pos h3]; rw [decide_eq_true h3] at this; exact this
        · rw [if_neg h3]; rw [decide_eq_false h3] at this; exact this
    · rw [if_neg h2]
      exact fits_calls (tabY_ok conA_ok) (cls_plain p) (okCons (by rw [ee]; simp [h2]) (okCons (by rw [ee]; simp [h0]) hl)) (by rfl) (by rfl) w
def conB : Con := alt 24 (gU fun p => .int .i64 (cl p)) conA
theorem conB_ok : ConOk conB := alt_ok Try.func24 rfl cls_ok conA_ok

/-! ### Take -/
def vP (m : Bool) (c e s : Int) : Value := .agg #[.bool m, .int .i64 c, .int .i64 e, .int .u64 s]
def vT (p : Int) : Value := vP (sgn p) (cl p) (xp p) (sg p)
def lS (p : Int) (d : Bool) : Bool × Bool := (bAnd p 9223372036854775808 != 0, d)
def lU (p : Int) : Bool × Bool := (decide (U p), true)
theorem sign_eq {p : Int} (hp : U p) : (bAnd p 9223372036854775808 != 0) = sgn p := by
  rw [bAnd_sign hp]
  unfold sgn
  unfold U at hp
  by_cases h : 9223372036854775808 ≤ p
  · rw [decide_eq_true h, show p / 9223372036854775808 = 1 from by omega]; rfl
  · rw [decide_eq_false h, show p / 9223372036854775808 = 0 from by omega]; rfl
theorem cl_cases (p : Int) : (ex p = 0 ∧ (cl p = 0 ∨ cl p = 1)) ∨ (ex p = 2047 ∧ 3 ≤ cl p) ∨ (ex p ≠ 0 ∧ ex p ≠ 2047 ∧ cl p = 2) := by
  unfold cl
  split
  · split <;> omega
  · split
    · split
      · omega
      · split <;> omega
    · omega
theorem lead_or {p : Int} : bOr (fr p) 4503599627370496 = fr p + 4503599627370496 := by
  have := fr_lt p
  rw [or_low 52 (z := 1) (by omega) (by rfl) this.1 (show fr p < 2 ^ 52 from this.2) (by omega)]
  omega
/-! ### the document's Take -/
def exR (p : Int) : Int := (IntKind.u64.wrap (p.tdiv 4503599627370496)).tmod 2048
def frR (p : Int) : Int := p.tmod 4503599627370496
def lR (p : Int) (d : Bool) : Log := [(decide (p ≥ 9223372036854775808), d), (decide ((4503599627370496 : Int) = 0), false), (decide ((2048 : Int) = 0), false)]
theorem ref_plain (p : Int) (d : Bool) : Fits (reckon (tabOf Try.prog extY conN true) 300 41 [.int .u64 p] [cmp true, cmp true, cmp d, cmp false, cmp false]) (vP d 2 (IntKind.i64.wrap (IntKind.i64.wrap (exR p) - 1075)) (IntKind.u64.wrap (frR p + 4503599627370496))) ((exR p == 0, false) :: (exR p == 2047, false) :: lR p d) := ⟨by kernel_rfl, by kernel_rfl, by kernel_rfl, by kernel_rfl⟩
theorem ref_quiet (p : Int) (d : Bool) : Fits (reckon (tabOf Try.prog extY conN true) 300 41 [.int .u64 p] [cmp true, cmp true, cmp d, cmp true, cmp true]) (vP d 4 0 (frR p)) ((decide (frR p ≥ 2251799813685248), true) :: (exR p == 2047, true) :: lR p d) := ⟨by kernel_rfl, by kernel_rfl, by kernel_rfl, by kernel_rfl⟩
theorem ref_great (p : Int) (d b : Bool) : Fits (reckon (tabOf Try.prog extY conN true) 300 41 [.int .u64 p] [cmp true, cmp true, cmp d, cmp true, cmp false, cmp b]) (vP d (match b with | true => 5 | false => 3) 0 (frR p)) ((decide (frR p > 0), b) :: (decide (frR p ≥ 2251799813685248), false) :: (exR p == 2047, true) :: lR p d) := by
  cases b <;> exact ⟨by kernel_rfl, by kernel_rfl, by kernel_rfl, by kernel_rfl⟩
theorem ref_small (p : Int) (d b : Bool) : Fits (reckon (tabOf Try.prog extY conN true) 300 41 [.int .u64 p] [cmp true, cmp true, cmp d, cmp false, cmp true, cmp b]) (vP d (match b with | true => 1 | false => 0) (-1074) (frR p)) ((decide (frR p > 0), b) :: (exR p == 0, true) :: (exR p == 2047, false) :: lR p d) := by
  cases b <;> exact ⟨by kernel_rfl, by kernel_rfl, by kernel_rfl, by kernel_rfl⟩
theorem exR_eq {p : Int} (hp : U p) : exR p = ex p := by
  unfold exR ex U at *
  rw [Int.tdiv_eq_ediv_of_nonneg hp.1, wrapU' ⟨by omega, by omega⟩, Int.tmod_eq_emod_of_nonneg (by omega)]
theorem frR_eq {p : Int} (hp : U p) : frR p = fr p := by unfold frR fr U at *; rw [Int.tmod_eq_emod_of_nonneg hp.1]
theorem ref_calls (p : Int) (hp : U p) (w : World) : Calls Try.prog 41 #[.int .u64 p] w fun e w' => e = .returned (vT p) ∧ Tidy w w' := by
  have hl : okLog (lR p (sgn p)) := okCons rfl (okCons rfl (okL1 rfl))
  have hf := frR_eq hp
  have he := exR_eq hp
  have hx := ex_lt p
  have hy := fr_lt p
  unfold vT xp sg cl
  by_cases h0 : ex p = 0
  · simp only [if_pos h0]
    by_cases h1 : fr p = 0
    · simp only [if_pos h1]
      have := fits_calls (tabY_ok conN_ok) (ref_small p (sgn p) false) (okCons (by rw [hf]; simp [h1]) (okCons (by rw [he]; simp [h0]) (okCons (by rw [he]; simp [h0]) hl))) (by rfl) (by rfl) w
      rw [hf] at this
      exact this
    · simp only [if_neg h1]
      have := fits_calls (tabY_ok conN_ok) (ref_small p (sgn p) true) (okCons (by rw [hf]; exact decide_eq_true (by omega)) (okCons (by rw [he]; simp [h0]) (okCons (by rw [he]; simp [h0]) hl))) (by rfl) (by rfl) w
      rw [hf] at this
      exact this
  · simp only [if_neg h0]
    by_cases h2 : ex p = 2047
    · simp only [if_pos h2]
      by_cases h3 : 2251799813685248 ≤ fr p
      · simp only [if_pos h3, if_neg (show ¬ fr p = 0 by omega)]
        have := fits_calls (tabY_ok conN_ok) (ref_quiet p (sgn p)) (okCons (by rw [hf]; exact decide_eq_true h3) (okCons (by rw [he]; simp [h2]) hl)) (by rfl) (by rfl) w
        rw [hf] at this
        exact this
      · by_cases h1 : fr p = 0
        · simp only [if_pos h1]
          have := fits_calls (tabY_ok conN_ok) (ref_great p (sgn p) false) (okCons (by rw [hf]; simp [h1]) (okCons (by rw [hf]; exact decide_eq_false h3) (okCons (by rw [he]; simp [h2]) hl))) (by rfl) (by rfl) w
          rw [hf] at this
          exact this
        · simp only [if_neg h1, if_neg h3]
          have := fits_calls (tabY_ok conN_ok) (ref_great p (sgn p) true) (okCons (by rw [hf]; exact decide_eq_true (by omega)) (okCons (by rw [hf]; exact decide_eq_false h3) (okCons (by rw [he]; simp [h2]) hl))) (by rfl) (by rfl) w
          rw [hf] at this
          exact this
    · simp only [if_neg h2]
      have := fits_calls (tabY_ok conN_ok) (ref_plain p (sgn p)) (okCons (by rw [he]; simp [h0]) (okCons (by rw [he]; simp [h2]) hl)) (by rfl) (by rfl) w
      rw [hf, he, wrapI' (n := ex p) ⟨by omega, by omega⟩, wrapI' ⟨by omega, by omega⟩, wrapU' ⟨by omega, by omega⟩] at this
      exact this
theorem ref_ok : AnsOk 41 (gU vT) := gU_ok ref_calls
end Go.Proofs.Ytfmfcbnhmkkibaa

/-
  Contracts of words; a pattern's class and size, in plain terms.
-/
namespace Go.Proofs.Ytfmfcbnhmkkibaa
open Go.KRun Go.Pt
set_option maxRecDepth 100000

/-- a truth of two words, told ahead -/
def gUUb (k : Int → Int → Bool) : Ans := fun vals s =>
  match vals, s with
  | [.int .u64 a, .int .u64 b], .inr (.inr (.inr (.inl d))) :: s' => some (.bool d, s', [(k a b, d), (decide (U a ∧ U b), true)])
  | _, _ => none
theorem gUUb_ok {f : Nat} {k : Int → Int → Bool} (hk : ∀ a b : Int, U a → U b → ∀ w, Calls Try.prog f #[.int .u64 a, .int .u64 b] w fun e w' => e = .returned (.bool (k a b)) ∧ Tidy w w') : AnsOk f (gUUb k) := by
  intro vals s v s' lg h hl w
  unfold gUUb at h
  split at h
  · cases h
    have e := hl _ (List.mem_cons_self)
    obtain ⟨h1, h2⟩ := of_decide_eq_true (hl _ (List.mem_cons_of_mem _ (List.mem_singleton.2 rfl)))
    simp only at e
    rw [← e]
    exact hk _ _ h1 h2 w
  · cases h
/-- a value of two words -/
def gUU (k : Int → Int → Value) (c : Int → Int → Bool) : Ans := fun vals s =>
  match vals with
  | [.int .u64 a, .int .u64 b] => some (k a b, s, [(c a b, true), (decide (U a ∧ U b), true)])
  | _ => none
theorem gUU_ok {f : Nat} {k : Int → Int → Value} {c : Int → Int → Bool} (hk : ∀ a b : Int, U a → U b → c a b = true → ∀ w, Calls Try.prog f #[.int .u64 a, .int .u64 b] w fun e w' => e = .returned (k a b) ∧ Tidy w w') : AnsOk f (gUU k c) := by
  intro vals s v s' lg h hl w
  unfold gUU at h
  split at h
  · cases h
    have e := hl _ (List.mem_cons_self)
    obtain ⟨h1, h2⟩ := of_decide_eq_true (hl _ (List.mem_cons_of_mem _ (List.mem_singleton.2 rfl)))
    exact hk _ _ h1 h2 e w
  · cases h
/-- a value of one word, with a condition -/
def gU1 (k : Int → Value) (c : Int → Bool) : Ans := fun vals s =>
  match vals with
  | [.int .u64 a] => some (k a, s, [(c a, true), (decide (U a), true)])
  | _ => none
theorem gU1_ok {f : Nat} {k : Int → Value} {c : Int → Bool} (hk : ∀ a : Int, U a → c a = true → ∀ w, Calls Try.prog f #[.int .u64 a] w fun e w' => e = .returned (k a) ∧ Tidy w w') : AnsOk f (gU1 k c) := by
  intro vals s v s' lg h hl w
  unfold gU1 at h
  split at h
  · cases h
    have e := hl _ (List.mem_cons_self)
    have h1 := of_decide_eq_true (hl _ (List.mem_cons_of_mem _ (List.mem_singleton.2 rfl)))
    exact hk _ h1 e w
  · cases h
theorem beq_t {x y : Int} (h : x = y) : (x == y) = true := by simpa using h
theorem beq_f {x y : Int} (h : x ≠ y) : (x == y) = false := by simpa using h
theorem bne_t {x y : Int} (h : x ≠ y) : (x != y) = true := by simpa using h
theorem bne_f {x y : Int} (h : x = y) : (x != y) = false := by simpa using h
theorem cl_bd (p : Int) : 0 ≤ cl p ∧ cl p ≤ 5 := by
  unfold cl
  split
  · split <;> omega
  · split
    · split
      · omega
      · split <;> omega
    · omega
theorem mag_eq (p : Int) : mag p = 4503599627370496 * ex p + fr p := by unfold mag ex fr; omega
theorem mag_cl (p : Int) : (3 < cl p ↔ 9218868437227405312 < mag p) ∧ (cl p = 3 ↔ mag p = 9218868437227405312) ∧ (cl p ≤ 2 ↔ mag p < 9218868437227405312) := by
  have h1 := mag_eq p
  have h2 := ex_lt p
  have h3 := fr_lt p
  rw [h1]
  unfold cl
  split
  · split <;> omega
  · split
    · split
      · omega
      · split <;> omega
    · omega
theorem mag_cl0 {p : Int} (h : cl p = 0) : mag p = 0 := by
  have e := mag_eq p
  unfold cl at h
  split at h
  · rename_i h3
    split at h
    · rename_i h4; omega
    · omega
  · split at h
    · split at h
      · omega
      · split at h <;> omega
    · omega
theorem mag_lt {p : Int} : 0 ≤ mag p ∧ mag p < 9223372036854775808 := by unfold mag; omega
theorem bNot_mag {p : Int} (hp : U p) : bNot p 9223372036854775808 = mag p := bNot_sign hp
end Go.Proofs.Ytfmfcbnhmkkibaa

/-
  PLAIN ARITHMETIC: which of two patterns is less, and the place of a pattern in the order of all.
-/
namespace Go.Pt

/-- the place of a pattern in the order of all -/
def plc (p : Int) : Int := if p < 9223372036854775808 then p + 9223372036854775808 else 18446744073709551615 - p
/-- one of two is no number -/
def nnB (a b : Int) : Bool := decide (3 < cl a ∨ 3 < cl b)
/-- the flags of two patterns of which one is no number -/
def ldF (a b : Int) : Int := if cl a = 5 ∨ cl b = 5 then 1 else 0
def tlB (a b : Int) : Bool := decide (plc a ≤ plc b)
/-- which is less -/
def coV (a b : Int) : Int := if 3 < cl a ∨ 3 < cl b then 2 else if cl a = 0 ∧ cl b = 0 then 0 else if plc a < plc b then -1 else if plc b < plc a then 1 else 0
def coF (a b : Int) : Int := if 3 < cl a ∨ 3 < cl b then ldF a b else 0
def siF (a b : Int) : Int := if 3 < cl a ∨ 3 < cl b then 1 else 0
/-- the one that is a number -/
def onP (a b : Int) : Int := if ¬ 3 < cl a then a else if ¬ 3 < cl b then b else 9221120237041090560
def lsP (a b : Int) : Int := if plc a ≤ plc b then a else b
def grP (a b : Int) : Int := if plc a ≤ plc b then b else a
def miP (a b : Int) : Int := if 3 < cl a ∨ 3 < cl b then 9221120237041090560 else lsP a b
def maP (a b : Int) : Int := if 3 < cl a ∨ 3 < cl b then 9221120237041090560 else grP a b
def mnP (a b : Int) : Int := if 3 < cl a ∨ 3 < cl b then onP a b else lsP a b
def mxP (a b : Int) : Int := if 3 < cl a ∨ 3 < cl b then onP a b else grP a b
def msP (a b : Int) : Int := if 3 < cl a ∨ 3 < cl b then 9221120237041090560 else if mag a = mag b then lsP a b else if mag a ≤ mag b then a else b
def mtP (a b : Int) : Int := if 3 < cl a ∨ 3 < cl b then 9221120237041090560 else if mag a = mag b then grP a b else if mag a ≤ mag b then b else a
theorem plc_bd {p : Int} (h : U p) : U (plc p) := by unfold plc U at *; split <;> omega
theorem plc_inj {a b : Int} (ha : U a) (hb : U b) : plc a = plc b ↔ a = b := by
  unfold plc U at *
  split <;> split <;> omega
theorem ng_plc {p : Int} (hp : U p) (h : p < 9223372036854775808) : (p + 9223372036854775808) % 18446744073709551616 = plc p := by
  unfold plc U at *
  rw [if_pos h]
  omega
theorem mag_plc {a : Int} (ha : U a) : mag a = a ↔ a < 9223372036854775808 := by unfold mag U at *; omega
theorem mag_pos {a : Int} : 0 ≤ mag a ∧ mag a < 9223372036854775808 := by unfold mag; omega
theorem plc_mag {a b : Int} : plc (mag a) ≤ plc (mag b) ↔ mag a ≤ mag b := by
  have h1 := mag_pos (a := a)
  have h2 := mag_pos (a := b)
  unfold plc
  rw [if_pos h1.2, if_pos h2.2]
  omega
theorem cl_mag (a : Int) : cl (mag a) = cl a := by
  have e1 : ex (mag a) = ex a := by unfold ex mag; omega
  have e2 : fr (mag a) = fr a := by unfold fr mag; omega
  unfold cl
  rw [e1, e2]
theorem mag_par (p : Int) : mag p = 4503599627370496 * ex p + fr p := by unfold mag ex fr; omega
theorem cl_sz (p : Int) : (3 < cl p ↔ 9218868437227405312 < mag p) ∧ (cl p = 3 ↔ mag p = 9218868437227405312) ∧ (cl p ≤ 2 ↔ mag p < 9218868437227405312) ∧ (cl p = 0 ↔ mag p = 0) ∧ (cl p = 4 ↔ 9221120237041090560 ≤ mag p) := by
  have h1 := mag_par p
  have h2 := ex_lt p
  have h3 := fr_lt p
  rw [h1]
  unfold cl
  split
  · split <;> omega
  · split
    · split
      · omega
      · split <;> omega
    · omega
/-- the complement -/
theorem not_eq {p : Int} (hp : U p) : IntKind.u64.wrap ((~~~(BitVec.ofInt 64 p)).toNat : Nat) = 18446744073709551615 - p := by
  obtain ⟨h0, h1⟩ := hp
  obtain ⟨Z, rfl⟩ := Int.eq_ofNat_of_zero_le h0
  rw [back, BitVec.toNat_not, ofU (by omega)]
  omega
/-! ### the less and the greater one -/
theorem ls_gr (a b : Int) : (lsP a b = a ∧ grP a b = b) ∨ (lsP a b = b ∧ grP a b = a) := by
  unfold lsP grP
  by_cases h : plc a ≤ plc b
  · rw [if_pos h, if_pos h]; exact .inl ⟨rfl, rfl⟩
  · rw [if_neg h, if_neg h]; exact .inr ⟨rfl, rfl⟩
theorem ls_comm {a b : Int} (ha : U a) (hb : U b) : lsP a b = lsP b a := by
  have h := plc_inj ha hb
  unfold lsP
  split <;> split <;> omega
theorem ldF_comm (a b : Int) : ldF a b = ldF b a := by
  unfold ldF
  simp only [or_comm]
theorem nn_comm (a b : Int) : (3 < cl a ∨ 3 < cl b) ↔ (3 < cl b ∨ 3 < cl a) := or_comm
theorem ldF_bd (a b : Int) : 0 ≤ ldF a b ∧ ldF a b ≤ 1 := by unfold ldF; split <;> omega
theorem coF_bd (a b : Int) : 0 ≤ coF a b ∧ coF a b ≤ 1 := by
  have := ldF_bd a b
  unfold coF; split <;> omega
theorem siF_bd (a b : Int) : 0 ≤ siF a b ∧ siF a b ≤ 1 := by unfold siF; split <;> omega
theorem coV_bd (a b : Int) : -1 ≤ coV a b ∧ coV a b ≤ 2 := by
  unfold coV
  split
  · omega
  · split
    · omega
    · split
      · omega
      · split <;> omega
theorem coV_nn {a b : Int} : coV a b = 2 ↔ (3 < cl a ∨ 3 < cl b) := by
  unfold coV
  split
  · simp [*]
  · split
    · simp [*]
    · split
      · simp [*]
      · split <;> simp [*]
/-- numbers: which is less -/
theorem co_num {a b : Int} (ha : U a) (hb : U b) (h : ¬ (3 < cl a ∨ 3 < cl b)) : (coV a b < 0 → plc a < plc b) ∧ (0 < coV a b → plc b < plc a) ∧ (coV a b = 0 ↔ (a = b ∨ (mag a = 0 ∧ mag b = 0))) := by
  have h1 := (cl_sz a).2.2.2.1
  have h2 := (cl_sz b).2.2.2.1
  have h3 := plc_inj ha hb
  unfold coV
  rw [if_neg h]
  by_cases hz : cl a = 0 ∧ cl b = 0
  · rw [if_pos hz]
    refine ⟨fun h => by omega, fun h => by omega, ⟨fun _ => .inr ⟨h1.1 hz.1, h2.1 hz.2⟩, fun _ => rfl⟩⟩
  · rw [if_neg hz]
    by_cases hl : plc a < plc b
    · rw [if_pos hl]
      refine ⟨fun _ => hl, fun h => by omega, ⟨fun h => by omega, fun h => ?_⟩⟩
      rcases h with h | h
      · rw [h] at hl; omega
      · exact absurd ⟨h1.2 h.1, h2.2 h.2⟩ hz
    · rw [if_neg hl]
      by_cases hg : plc b < plc a
      · rw [if_pos hg]
        refine ⟨fun h => by omega, fun _ => hg, ⟨fun h => by omega, fun h => ?_⟩⟩
        rcases h with h | h
        · rw [h] at hg; omega
        · exact absurd ⟨h1.2 h.1, h2.2 h.2⟩ hz
      · rw [if_neg hg]
        exact ⟨fun h => by omega, fun h => by omega, ⟨fun _ => .inl (h3.1 (by omega)), fun _ => rfl⟩⟩
theorem co_comm {a b : Int} (h : ¬ (3 < cl a ∨ 3 < cl b)) : coV a b = -coV b a := by
  unfold coV
  rw [if_neg h, if_neg (show ¬ (3 < cl b ∨ 3 < cl a) from fun h' => h h'.symm)]
  by_cases hz : cl a = 0 ∧ cl b = 0
  · rw [if_pos hz, if_pos hz.symm]; rfl
  · rw [if_neg hz, if_neg (show ¬ (cl b = 0 ∧ cl a = 0) from fun h' => hz h'.symm)]
    split <;> split <;> omega
/-! ### as the document picks -/
def pcV (a b : Int) (s : Bool) : Int := if s = true ∧ coV (mag a) (mag b) ≠ 0 then coV (mag a) (mag b) else coV a b
def pdV (a b : Int) (s : Bool) : Int := if pcV a b s = 0 ∧ 9223372036854775808 ≤ a ∧ b < 9223372036854775808 then -1 else if pcV a b s = 0 ∧ a < 9223372036854775808 ∧ 9223372036854775808 ≤ b then 1 else pcV a b s
def pkP (a b : Int) (l s n : Bool) : Int := if n = true ∧ ((3 < cl a ∧ ¬ 3 < cl b) ∨ (¬ 3 < cl a ∧ 3 < cl b)) then (if 3 < cl a then b else a) else if 3 < cl a ∨ 3 < cl b then 9221120237041090560 else if decide (pdV a b s < 0) = l then a else b
theorem pd_of {a b c : Int} {s : Bool} (ha : U a) (hb : U b) (hc : pcV a b s = c) (h1 : c < 0 → plc a < plc b) (h2 : 0 < c → plc b < plc a) (h3 : c = 0 → a = b ∨ (mag a = 0 ∧ mag b = 0)) : pdV a b s < 0 ↔ plc a < plc b := by
  unfold pdV
  rw [hc]
  have ea : mag a = a % 9223372036854775808 := rfl
  have eb : mag b = b % 9223372036854775808 := rfl
  rcases Int.lt_trichotomy c 0 with h | h | h
  · rw [if_neg (by omega), if_neg (by omega)]
    exact ⟨fun _ => h1 h, fun _ => h⟩
  · have h4 := h3 h
    subst h
    unfold plc U at *
    split
    · split <;> split <;> omega
    · split
      · split <;> split <;> omega
      · split <;> split <;> omega
  · have := h2 h
    rw [if_neg (by omega), if_neg (by omega)]
    omega
theorem pd_num {a b : Int} (ha : U a) (hb : U b) (h : ¬ (3 < cl a ∨ 3 < cl b)) : pdV a b false < 0 ↔ plc a < plc b := by
  obtain ⟨h1, h2, h3⟩ := co_num ha hb h
  exact pd_of (c := coV a b) ha hb (by unfold pcV; rw [if_neg (by simp)]) h1 h2 h3.1
theorem U_mag (a : Int) : U (mag a) := by
  have := mag_pos (a := a)
  exact ⟨by omega, by omega⟩
theorem mag_mag (a : Int) : mag (mag a) = mag a := by unfold mag; omega
theorem pd_size {a b : Int} (ha : U a) (hb : U b) (h : ¬ (3 < cl a ∨ 3 < cl b)) : (mag a = mag b → (pdV a b true < 0 ↔ plc a < plc b)) ∧ (mag a < mag b → pdV a b true < 0) ∧ (mag b < mag a → ¬ pdV a b true < 0) := by
  have hm : ¬ (3 < cl (mag a) ∨ 3 < cl (mag b)) := by rw [cl_mag, cl_mag]; exact h
  obtain ⟨m1, m2, m3⟩ := co_num (U_mag a) (U_mag b) hm
  have pm := plc_mag (a := a) (b := b)
  have pn := plc_mag (a := b) (b := a)
  rw [mag_mag, mag_mag] at m3
  refine ⟨fun e => ?_, fun e => ?_, fun e => ?_⟩
  · obtain ⟨h1, h2, h3⟩ := co_num ha hb h
    have hz : coV (mag a) (mag b) = 0 := m3.2 (.inl e)
    exact pd_of (c := coV a b) ha hb (by unfold pcV; rw [if_neg (by simp [hz])]) h1 h2 h3.1
  · have hn : coV (mag a) (mag b) ≠ 0 := fun hz => by have := m3.1 hz; omega
    have hl : coV (mag a) (mag b) < 0 := by
      rcases Int.lt_or_le (coV (mag a) (mag b)) 0 with h | h
      · exact h
      · have := m2 (by omega); omega
    have ec : pcV a b true = coV (mag a) (mag b) := by unfold pcV; rw [if_pos ⟨rfl, hn⟩]
    unfold pdV
    rw [ec, if_neg (by omega), if_neg (by omega)]
    exact hl
  · have hn : coV (mag a) (mag b) ≠ 0 := fun hz => by have := m3.1 hz; omega
    have hl : 0 < coV (mag a) (mag b) := by
      rcases Int.lt_or_le (coV (mag a) (mag b)) 0 with h | h
      · have := m1 h; omega
      · omega
    have ec : pcV a b true = coV (mag a) (mag b) := by unfold pcV; rw [if_pos ⟨rfl, hn⟩]
    unfold pdV
    rw [ec, if_neg (by omega), if_neg (by omega)]
    omega
theorem pk_ls {a b : Int} (ha : U a) (hb : U b) {s : Bool} (h : pdV a b s < 0 ↔ plc a < plc b) : (if decide (pdV a b s < 0) = true then a else b) = lsP a b ∧ (if decide (pdV a b s < 0) = false then a else b) = grP a b := by
  have hi := plc_inj ha hb
  unfold lsP grP
  by_cases hl : plc a < plc b
  · rw [decide_eq_true (h.2 hl)]
    simp only [if_true, Bool.true_eq_false, if_false]
    rw [if_pos (by omega), if_pos (by omega)]
    exact ⟨rfl, rfl⟩
  · rw [decide_eq_false (fun h' => hl (h.1 h'))]
    simp only [Bool.false_eq_true, if_false, if_true]
    by_cases he : plc a ≤ plc b
    · rw [if_pos he, if_pos he]
      have := hi.1 (by omega)
      exact ⟨this.symm, this⟩
    · rw [if_neg he, if_neg he]
      exact ⟨rfl, rfl⟩
theorem pk_no (a b : Int) (l s : Bool) : pkP a b l s false = if 3 < cl a ∨ 3 < cl b then 9221120237041090560 else if decide (pdV a b s < 0) = l then a else b := by
  unfold pkP
  rw [if_neg (fun h => Bool.noConfusion h.1)]
theorem pk_yes {a b : Int} (l s : Bool) (h : ¬ (3 < cl a ∨ 3 < cl b)) : pkP a b l s true = if decide (pdV a b s < 0) = l then a else b := by
  unfold pkP
  rw [if_neg (show ¬ (true = true ∧ ((3 < cl a ∧ ¬ 3 < cl b) ∨ (¬ 3 < cl a ∧ 3 < cl b))) from fun h' => h (h'.2.elim (fun x => .inl x.1) (fun x => .inr x.2))), if_neg h]
theorem pk_plain {a b : Int} (ha : U a) (hb : U b) : pkP a b true false false = miP a b ∧ pkP a b false false false = maP a b := by
  rw [pk_no, pk_no]
  unfold miP maP
  by_cases h : 3 < cl a ∨ 3 < cl b
  · simp only [if_pos h, and_self]
  · simp only [if_neg h]
    exact pk_ls ha hb (pd_num ha hb h)
theorem pk_number {a b : Int} (ha : U a) (hb : U b) : pkP a b true false true = mnP a b ∧ pkP a b false false true = mxP a b := by
  by_cases h : 3 < cl a ∨ 3 < cl b
  · unfold pkP mnP mxP onP
    simp only [if_pos h]
    by_cases h1 : 3 < cl a
    · by_cases h2 : 3 < cl b
      · simp [h1, h2]
      · simp [h1, h2]
    · have h2 : 3 < cl b := h.resolve_left h1
      simp [h1, h2]
  · rw [pk_yes _ _ h, pk_yes _ _ h]
    unfold mnP mxP
    rw [if_neg h, if_neg h]
    exact pk_ls ha hb (pd_num ha hb h)
theorem pk_size {a b : Int} (ha : U a) (hb : U b) : pkP a b true true false = msP a b ∧ pkP a b false true false = mtP a b := by
  rw [pk_no, pk_no]
  unfold msP mtP
  by_cases h : 3 < cl a ∨ 3 < cl b
  · simp only [if_pos h, and_self]
  · simp only [if_neg h]
    obtain ⟨h1, h2, h3⟩ := pd_size ha hb h
    rcases Int.lt_trichotomy (mag a) (mag b) with e | e | e
    · rw [decide_eq_true (h2 e), if_neg (show ¬ mag a = mag b by omega), if_pos (show mag a ≤ mag b by omega), if_neg (show ¬ mag a = mag b by omega), if_pos (show mag a ≤ mag b by omega)]
      exact ⟨if_pos rfl, if_neg (by decide)⟩
    · rw [if_pos e, if_pos e]
      exact pk_ls ha hb (h1 e)
    · rw [decide_eq_false (h3 e), if_neg (show ¬ mag a = mag b by omega), if_neg (show ¬ mag a ≤ mag b by omega), if_neg (show ¬ mag a = mag b by omega), if_neg (show ¬ mag a ≤ mag b by omega)]
      exact ⟨if_neg (by decide), if_pos rfl⟩
end Go.Pt
