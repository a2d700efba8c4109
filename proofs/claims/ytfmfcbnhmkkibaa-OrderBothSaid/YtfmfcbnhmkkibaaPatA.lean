/-
  Layer 3's calls on patterns, as calls in every world: pat.Abs, pat.Class, pat.Take, and the document's own Take.
-/
import Derived.Test.YtfmfcbnhmkkibaaTab
import Derived.Test.YtfmfcbnhmkkibaaNumU
import Derived.Test.YtfmfcbnhmkkibaaOkl
namespace Go.Proofs.Ytfmfcbnhmkkibaa
open Go.KRun Go.Pt
set_option maxRecDepth 100000

/-- a call with one word of 64 bits -/
def gU (k : Int → Value) : Ans := fun vals s =>
  match vals with
  | [.int .u64 p] => some (k p, s, [(decide (U p), true)])
  | _ => none
theorem gU_ok {f : Nat} {k : Int → Value} (hk : ∀ p : Int, U p → ∀ w, Calls Try.prog f #[.int .u64 p] w fun e w' => e = .returned (k p) ∧ Tidy w w') : AnsOk f (gU k) := by
  intro vals s v s' lg h hl w
  unfold gU at h
  split at h
  · cases h
    exact hk _ (of_decide_eq_true (hl _ (List.mem_singleton.2 rfl))) w
  · cases h

theorem abs_fits (p : Int) : Fits (reckon (tabOf Try.prog extY conN true) 300 33 [.int .u64 p] []) (.int .u64 (bNot p 9223372036854775808)) [] := ⟨by kernel_rfl, by kernel_rfl, by kernel_rfl, by kernel_rfl⟩
theorem abs_ok : AnsOk 33 (gU fun p => .int .u64 (mag p)) := gU_ok fun p hp w => by
  have := fits_calls (tabY_ok conN_ok) (abs_fits p) (fun x hx => by cases hx) (by rfl) (by rfl) w
  rw [bNot_sign hp] at this
  exact this
def conA : Con := alt 33 (gU fun p => .int .u64 (mag p)) conN
theorem conA_ok : ConOk conA := alt_ok Try.func33 rfl abs_ok conN_ok
/-- the exponent as the code reckons it -/
def exM (p : Int) : Int := IntKind.i64.wrap ((mag p).fdiv (2 ^ min (52 : Int).toNat 64))
theorem exM_eq (p : Int) : exM p = ex p := by
  have e : ((2 : Int) ^ min (52 : Int).toNat 64) = 4503599627370496 := by rfl
  unfold exM
  rw [e, Int.fdiv_eq_ediv_of_nonneg _ (by omega), ex_mag]
  have := ex_lt p
  exact wrapI' ⟨by omega, by omega⟩
def frM (p : Int) : Int := bAnd p 4503599627370495
def lX (p : Int) (l : Log) : Log := (decide ((52 : Int) < 0), false) :: (decide (U p), true) :: l
theorem lX_ok {p : Int} (hp : U p) : okLog (lX p []) := okCons rfl (okL1 (decide_eq_true hp))
def lQ (p : Int) : Bool := bAnd (frM p) 2251799813685248 != 0
theorem cls_small (p : Int) (d : Bool) : Fits (reckon (tabOf Try.prog extY conA true) 300 24 [.int .u64 p] [cmp true, cmp d]) (.int .i64 (match d with | true => 0 | false => 1)) ((frM p == 0, d) :: (exM p == 0, true) :: lX p []) := by
  cases d <;> exact ⟨by kernel_rfl, by kernel_rfl, by kernel_rfl, by kernel_rfl⟩
theorem cls_endless (p : Int) : Fits (reckon (tabOf Try.prog extY conA true) 300 24 [.int .u64 p] [cmp false, cmp true, cmp true]) (.int .i64 3) ((frM p == 0, true) :: (exM p == 2047, true) :: (exM p == 0, false) :: lX p []) := ⟨by kernel_rfl, by kernel_rfl, by kernel_rfl, by kernel_rfl⟩
theorem cls_great (p : Int) (d : Bool) : Fits (reckon (tabOf Try.prog extY conA true) 300 24 [.int .u64 p] [cmp false, cmp true, cmp false, cmp d]) (.int .i64 (match d with | true => 4 | false => 5)) ((lQ p, d) :: (frM p == 0, false) :: (exM p == 2047, true) :: (exM p == 0, false) :: lX p []) := by
  cases d <;> exact ⟨by kernel_rfl, by kernel_rfl, by kernel_rfl, by kernel_rfl⟩
theorem cls_plain (p : Int) : Fits (reckon (tabOf Try.prog extY conA true) 300 24 [.int .u64 p] [cmp false, cmp false]) (.int .i64 2) ((exM p == 2047, false) :: (exM p == 0, false) :: lX p []) := ⟨by kernel_rfl, by kernel_rfl, by kernel_rfl, by kernel_rfl⟩
theorem frM_eq {p : Int} (hp : U p) : frM p = fr p := bAnd_frac hp
theorem lQ_eq {p : Int} (hp : U p) : lQ p = decide (2251799813685248 ≤ fr p) := by
  have := fr_lt p
  unfold lQ
  rw [frM_eq hp, bAnd_quiet ⟨by omega, by omega⟩]
  by_cases h : 2251799813685248 ≤ fr p
  · rw [decide_eq_true h, show fr p / 2251799813685248 = 1 from by omega]; rfl
  · rw [decide_eq_false h, show fr p / 2251799813685248 = 0 from by omega]; rfl
theorem cls_ok : AnsOk 24 (gU fun p => .int .i64 (cl p)) := gU_ok fun p hp w => by
  have hl := lX_ok hp
  have ee := exM_eq p
  have ef := frM_eq hp
  unfold cl
  by_cases h0 : ex p = 0
  · rw [if_pos h0]
    have := fits_calls (tabY_ok conA_ok) (cls_small p (frM p == 0)) (okCons rfl (okCons (by rw [ee]; simp [h0]) hl)) (by rfl) (by cases (frM p == 0) <;> rfl) w
    rw [ef] at this
    by_cases h1 : fr p = 0
    · rw [if_pos h1]; rw [show (fr p == 0) = true from by simp [h1]] at this; exact this
    · rw [if_neg h1]; rw [show (fr p == 0) = false from by simp [h1]] at this; exact this
  · rw [if_neg h0]
    by_cases h2 : ex p = 2047
    · rw [if_pos h2]
      by_cases h1 : fr p = 0
      · rw [if_pos h1]
        exact fits_calls (tabY_ok conA_ok) (cls_endless p) (okCons (by rw [ef]; simp [h1]) (okCons (by rw [ee]; simp [h2]) (okCons (by rw [ee]; simp [h0]) hl))) (by rfl) (by rfl) w
      · rw [if_neg h1]
        have := fits_calls (tabY_ok conA_ok) (cls_great p (lQ p)) (okCons rfl (okCons (by rw [ef]; simp [h1]) (okCons (by rw [ee]; simp [h2]) (okCons (by rw [ee]; simp [h0]) hl)))) (by rfl) (by cases (lQ p) <;> rfl) w
        rw [lQ_eq hp] at this
        by_cases h3 : 2251799813685248 ≤ fr p
        · rw [if_pos h3]; rw [decide_eq_true h3] at this; exact this
        · rw [if_neg h3]; rw [decide_eq_false h3] at this; exact this
    · rw [if_neg h2]
      exact fits_calls (tabY_ok conA_ok) (cls_plain p) (okCons (by rw [ee]; simp [h2]) (okCons (by rw [ee]; simp [h0]) hl)) (by rfl) (by rfl) w
def conB : Con := alt 24 (gU fun p => .int .i64 (cl p)) conA
theorem conB_ok : ConOk conB := alt_ok Try.func24 rfl cls_ok conA_ok

/-! ### Take -/
def vP (m : Bool) (c e s : Int) : Value := .agg #[.bool m, .int .i64 c, .int .i64 e, .int .u64 s]
def vT (p : Int) : Value := vP (sgn p) (cl p) (xp p) (sg p)
def lS (p : Int) (d : Bool) : Bool × Bool := (bAnd p 9223372036854775808 != 0, d)
def lU (p : Int) : Bool × Bool := (decide (U p), true)
theorem sign_eq {p : Int} (hp : U p) : (bAnd p 9223372036854775808 != 0) = sgn p := by
  rw [bAnd_sign hp]
  unfold sgn
  unfold U at hp
  by_cases h : 9223372036854775808 ≤ p
  · rw [decide_eq_true h, show p / 9223372036854775808 = 1 from by omega]; rfl
  · rw [decide_eq_false h, show p / 9223372036854775808 = 0 from by omega]; rfl
theorem cl_cases (p : Int) : (ex p = 0 ∧ (cl p = 0 ∨ cl p = 1)) ∨ (ex p = 2047 ∧ 3 ≤ cl p) ∨ (ex p ≠ 0 ∧ ex p ≠ 2047 ∧ cl p = 2) := by
  unfold cl
  split
  · split <;> omega
  · split
    · split
      · omega
      · split <;> omega
    · omega
theorem lead_or {p : Int} : bOr (fr p) 4503599627370496 = fr p + 4503599627370496 := by
  have := fr_lt p
  rw [or_low 52 (z := 1) (by omega) (by rfl) this.1 (show fr p < 2 ^ 52 from this.2) (by omega)]
  omega
/-! ### the document's Take -/
def exR (p : Int) : Int := (IntKind.u64.wrap (p.tdiv 4503599627370496)).tmod 2048
def frR (p : Int) : Int := p.tmod 4503599627370496
def lR (p : Int) (d : Bool) : Log := [(decide (p ≥ 9223372036854775808), d), (decide ((4503599627370496 : Int) = 0), false), (decide ((2048 : Int) = 0), false)]
theorem ref_plain (p : Int) (d : Bool) : Fits (reckon (tabOf Try.prog extY conN true) 300 41 [.int .u64 p] [cmp true, cmp true, cmp d, cmp false, cmp false]) (vP d 2 (IntKind.i64.wrap (IntKind.i64.wrap (exR p) - 1075)) (IntKind.u64.wrap (frR p + 4503599627370496))) ((exR p == 0, false) :: (exR p == 2047, false) :: lR p d) := ⟨by kernel_rfl, by kernel_rfl, by kernel_rfl, by kernel_rfl⟩
theorem ref_quiet (p : Int) (d : Bool) : Fits (reckon (tabOf Try.prog extY conN true) 300 41 [.int .u64 p] [cmp true, cmp true, cmp d, cmp true, cmp true]) (vP d 4 0 (frR p)) ((decide (frR p ≥ 2251799813685248), true) :: (exR p == 2047, true) :: lR p d) := ⟨by kernel_rfl, by kernel_rfl, by kernel_rfl, by kernel_rfl⟩
theorem ref_great (p : Int) (d b : Bool) : Fits (reckon (tabOf Try.prog extY conN true) 300 41 [.int .u64 p] [cmp true, cmp true, cmp d, cmp true, cmp false, cmp b]) (vP d (match b with | true => 5 | false => 3) 0 (frR p)) ((decide (frR p > 0), b) :: (decide (frR p ≥ 2251799813685248), false) :: (exR p == 2047, true) :: lR p d) := by
  cases b <;> exact ⟨by kernel_rfl, by kernel_rfl, by kernel_rfl, by kernel_rfl⟩
theorem ref_small (p : Int) (d b : Bool) : Fits (reckon (tabOf Try.prog extY conN true) 300 41 [.int .u64 p] [cmp true, cmp true, cmp d, cmp false, cmp true, cmp b]) (vP d (match b with | true => 1 | false => 0) (-1074) (frR p)) ((decide (frR p > 0), b) :: (exR p == 0, true) :: (exR p == 2047, false) :: lR p d) := by
  cases b <;> exact ⟨by kernel_rfl, by kernel_rfl, by kernel_rfl, by kernel_rfl⟩
theorem exR_eq {p : Int} (hp : U p) : exR p = ex p := by
  unfold exR ex U at *
  rw [Int.tdiv_eq_ediv_of_nonneg hp.1, wrapU' ⟨by omega, by omega⟩, Int.tmod_eq_emod_of_nonneg (by omega)]
theorem frR_eq {p : Int} (hp : U p) : frR p = fr p := by unfold frR fr U at *; rw [Int.tmod_eq_emod_of_nonneg hp.1]
theorem ref_calls (p : Int) (hp : U p) (w : World) : Calls Try.prog 41 #[.int .u64 p] w fun e w' => e = .returned (vT p) ∧ Tidy w w' := by
  have hl : okLog (lR p (sgn p)) := okCons rfl (okCons rfl (okL1 rfl))
  have hf := frR_eq hp
  have he := exR_eq hp
  have hx := ex_lt p
  have hy := fr_lt p
  unfold vT xp sg cl
  by_cases h0 : ex p = 0
  · simp only [if_pos h0]
    by_cases h1 : fr p = 0
    · simp only [if_pos h1]
      have := fits_calls (tabY_ok conN_ok) (ref_small p (sgn p) false) (okCons (by rw [hf]; simp [h1]) (okCons (by rw [he]; simp [h0]) (okCons (by rw [he]; simp [h0]) hl))) (by rfl) (by rfl) w
      rw [hf] at this
      exact this
    · simp only [if_neg h1]
      have := fits_calls (tabY_ok conN_ok) (ref_small p (sgn p) true) (okCons (by rw [hf]; exact decide_eq_true (by omega)) (okCons (by rw [he]; simp [h0]) (okCons (by rw [he]; simp [h0]) hl))) (by rfl) (by rfl) w
      rw [hf] at this
      exact this
  · simp only [if_neg h0]
    by_cases h2 : ex p = 2047
    · simp only [if_pos h2]
      by_cases h3 : 2251799813685248 ≤ fr p
      · simp only [if_pos h3, if_neg (show ¬ fr p = 0 by omega)]
        have := fits_calls (tabY_ok conN_ok) (ref_quiet p (sgn p)) (okCons (by rw [hf]; exact decide_eq_true h3) (okCons (by rw [he]; simp [h2]) hl)) (by rfl) (by rfl) w
        rw [hf] at this
        exact this
      · by_cases h1 : fr p = 0
        · simp only [if_pos h1]
          have := fits_calls (tabY_ok conN_ok) (ref_great p (sgn p) false) (okCons (by rw [hf]; simp [h1]) (okCons (by rw [hf]; exact decide_eq_false h3) (okCons (by rw [he]; simp [h2]) hl))) (by rfl) (by rfl) w
          rw [hf] at this
          exact this
        · simp only [if_neg h1, if_neg h3]
          have := fits_calls (tabY_ok conN_ok) (ref_great p (sgn p) true) (okCons (by rw [hf]; exact decide_eq_true (by omega)) (okCons (by rw [hf]; exact decide_eq_false h3) (okCons (by rw [he]; simp [h2]) hl))) (by rfl) (by rfl) w
          rw [hf] at this
          exact this
    · simp only [if_neg h2]
      have := fits_calls (tabY_ok conN_ok) (ref_plain p (sgn p)) (okCons (by rw [he]; simp [h0]) (okCons (by rw [he]; simp [h2]) hl)) (by rfl) (by rfl) w
      rw [hf, he, wrapI' (n := ex p) ⟨by omega, by omega⟩, wrapI' ⟨by omega, by omega⟩, wrapU' ⟨by omega, by omega⟩] at this
      exact this
theorem ref_ok : AnsOk 41 (gU vT) := gU_ok ref_calls
end Go.Proofs.Ytfmfcbnhmkkibaa
