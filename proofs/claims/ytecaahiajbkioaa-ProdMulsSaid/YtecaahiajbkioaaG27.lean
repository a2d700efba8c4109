/-
  Layer 3's calls on patterns, as calls in every world: pat.Abs, pat.Class, pat.Take, and the document's own Take.
-/
import Derived.Test.YtecaahiajbkioaaG05
import Derived.Test.YtecaahiajbkioaaG15
import Derived.Test.YtecaahiajbkioaaG18
import Derived.Test.YtecaahiajbkioaaG26
import Derived.Test.YtecaahiajbkioaaG25
namespace Go.Proofs.Ytecaahiajbkioaa
open Go.KRun Go.Pt
set_option maxRecDepth 100000

/-- a call with one word of 64 bits -/
def gU (k : Int → Value) : Ans := fun vals s =>
  match vals with
  | [.int .u64 p] => some (k p, s, [(decide (U p), true)])
  | _ => none
theorem gU_ok {f : Nat} {k : Int → Value} (hk : ∀ p : Int, U p → ∀ w, Calls Try.prog f #[.int .u64 p] w fun e w' => e = .returned (k p) ∧ Tidy w w') : AnsOk f (gU k) := by
  intro vals s v s' lg h hl w
  unfold gU at h
  split at h
  · cases h
    exact hk _ (of_decide_eq_true (hl _ (List.mem_singleton.2 rfl))) w
  · cases h

theorem abs_fits (p : Int) : Fits (reckon (tabOf Try.prog extY conN true) 300 72 [.int .u64 p] []) (.int .u64 (bNot p 9223372036854775808)) [] := ⟨by kernel_rfl, by kernel_rfl, by kernel_rfl, by kernel_rfl⟩
theorem abs_ok : AnsOk 72 (gU fun p => .int .u64 (mag p)) := gU_ok fun p hp w => by
  have := fits_calls (tabY_ok conN_ok) (abs_fits p) (fun x hx => by cases hx) (by rfl) (by rfl) w
  rw [bNot_sign hp] at this
  exact this
def conA : Con := alt 72 (gU fun p => .int .u64 (mag p)) conN
theorem conA_ok : ConOk conA := alt_ok Try.func72 rfl abs_ok conN_ok
/-- the exponent as the code reckons it -/
def exM (p : Int) : Int := IntKind.i64.wrap ((mag p).fdiv (2 ^ min (52 : Int).toNat 64))
theorem exM_eq (p : Int) : exM p = ex p := by
  have e : ((2 : Int) ^ min (52 : Int).toNat 64) = 4503599627370496 := by rfl
  unfold exM
  rw [e, Int.fdiv_eq_ediv_of_nonneg _ (by omega), ex_mag]
  have := ex_lt p
  exact wrapI' ⟨by omega, by omega⟩
def frM (p : Int) : Int := bAnd p 4503599627370495
def lX (p : Int) (l : Log) : Log := (decide ((52 : Int) < 0), false) :: (decide (U p), true) :: l
theorem lX_ok {p : Int} (hp : U p) : okLog (lX p []) := okCons rfl (okL1 (decide_eq_true hp))
def lQ (p : Int) : Bool := bAnd (frM p) 2251799813685248 != 0
theorem cls_small (p : Int) (d : Bool) : Fits (reckon (tabOf Try.prog extY conA true) 300 35 [.int .u64 p] [cmp true, cmp d]) (.int .i64 (match d with | true => 0 | false => 1)) ((frM p == 0, d) :: (exM p == 0, true) :: lX p []) := by
  cases d <;> exact ⟨by kernel_rfl, by kernel_rfl, by kernel_rfl, by kernel_rfl⟩
theorem cls_endless (p : Int) : Fits (reckon (tabOf Try.prog extY conA true) 300 35 [.int .u64 p] [cmp false, cmp true, cmp true]) (.int .i64 3) ((frM p == 0, true) :: (exM p == 2047, true) :: (exM p == 0, false) :: lX p []) := ⟨by kernel_rfl, by kernel_rfl, by kernel_rfl, by kernel_rfl⟩
theorem cls_great (p : Int) (d : Bool) : Fits (reckon (tabOf Try.prog extY conA true) 300 35 [.int .u64 p] [cmp false, cmp true, cmp false, cmp d]) (.int .i64 (match d with | true => 4 | false => 5)) ((lQ p, d) :: (frM p == 0, false) :: (exM p == 2047, true) :: (exM p == 0, false) :: lX p []) := by
  cases d <;> exact ⟨by kernel_rfl, by kernel_rfl, by kernel_rfl, by kernel_rfl⟩
theorem cls_plain (p : Int) : Fits (reckon (tabOf Try.prog extY conA true) 300 35 [.int .u64 p] [cmp false, cmp false]) (.int .i64 2) ((exM p == 2047, false) :: (exM p == 0, false) :: lX p []) := ⟨by kernel_rfl, by kernel_rfl, by kernel_rfl, by kernel_rfl⟩
theorem frM_eq {p : Int} (hp : U p) : frM p = fr p := bAnd_frac hp
theorem lQ_eq {p : Int} (hp : U p) : lQ p = decide (2251799813685248 ≤ fr p) := by
  have := fr_lt p
  unfold lQ
  rw [frM_eq hp, bAnd_quiet ⟨by omega, by omega⟩]
  by_cases h : 2251799813685248 ≤ fr p
  · rw [decide_eq_true h, show fr p / 2251799813685248 = 1 from by omega]; rfl
  · rw [decide_eq_false h, show fr p / 2251799813685248 = 0 from by omega]; rfl
theorem cls_ok : AnsOk 35 (gU fun p => .int .i64 (cl p)) := gU_ok fun p hp w => by
  have hl := lX_ok hp
  have ee := exM_eq p
  have ef := frM_eq hp
  unfold cl
  by_cases h0 : ex p = 0
  · rw [if_pos h0]
    have := fits_calls (tabY_ok conA_ok) (cls_small p (frM p == 0)) (okCons rfl (okCons (by rw [ee]; simp [h0]) hl)) (by rfl) (by cases (frM p == 0) <;> rfl) w
    rw [ef] at this
    by_cases h1 : fr p = 0
    · rw [if_pos h1]; rw [show (fr p == 0) = true from by simp [h1]] at this; exact this
    · rw [if_neg h1]; rw [show (fr p == 0) = false from by simp [h1]] at this; exact this
  · rw [if_neg h0]
    by_cases h2 : ex p = 2047
    · rw [if_pos h2]
      by_cases h1 : fr p = 0
      · rw [if_pos h1]
        exact fits_calls (tabY_ok conA_ok) (cls_endless p) (okCons (by rw [ef]; simp [h1]) (okCons (by rw [ee]; simp [h2]) (okCons (by rw [ee]; simp [h0]) hl))) (by rfl) (by rfl) w
      · rw [if_neg h1]
        have := fits_calls (tabY_ok conA_ok) (cls_great p (lQ p)) (okCons rfl (okCons (by rw [ef]; simp [h1]) (okCons (by rw [ee]; simp [h2]) (okCons (by rw [ee]; simp [h0]) hl)))) (by rfl) (by cases (lQ p) <;> rfl) w
        rw [lQ_eq hp] at this
        by_cases h3 : 2251799813685248 ≤ fr p
        · rw [if_pos h3]; rw [decide_eq_true h3] at this; exact this
        · rw [if_neg h3]; rw [decide_eq_false h3] at this; exact this
    · rw [if_neg h2]
      exact fits_calls (tabY_ok conA_ok) (cls_plain p) (okCons (by rw [ee]; simp [h2]) (okCons (by rw [ee]; simp [h0]) hl)) (by rfl) (by rfl) w
def conB : Con := alt 35 (gU fun p => .int .i64 (cl p)) conA
theorem conB_ok : ConOk conB := alt_ok Try.func35 rfl cls_ok conA_ok

/-! ### Take -/
def vP (m : Bool) (c e s : Int) : Value := .agg #[.bool m, .int .i64 c, .int .i64 e, .int .u64 s]
def vT (p : Int) : Value := vP (sgn p) (cl p) (xp p) (sg p)
def lS (p : Int) (d : Bool) : Bool × Bool := (bAnd p 9223372036854775808 != 0, d)
def lU (p : Int) : Bool × Bool := (decide (U p), true)
theorem take_nought (p : Int) (d : Bool) : Fits (reckon (tabOf Try.prog extY conB true) 300 57 [.int .u64 p] [cmp d, cmp true]) (vP d (cl p) (-1074) (frM p)) [(cl p == 0, true), lU p, lS p d] := ⟨by kernel_rfl, by kernel_rfl, by kernel_rfl, by kernel_rfl⟩
theorem take_tiny (p : Int) (d : Bool) : Fits (reckon (tabOf Try.prog extY conB true) 300 57 [.int .u64 p] [cmp d, cmp false, cmp true]) (vP d (cl p) (-1074) (frM p)) [(cl p == 1, true), (cl p == 0, false), lU p, lS p d] := ⟨by kernel_rfl, by kernel_rfl, by kernel_rfl, by kernel_rfl⟩
theorem take_plain (p : Int) (d : Bool) : Fits (reckon (tabOf Try.prog extY conB true) 300 57 [.int .u64 p] [cmp d, cmp false, cmp false, cmp true]) (vP d (cl p) (IntKind.i64.wrap (exM p - 1075)) (bOr (frM p) 4503599627370496)) [(decide ((52 : Int) < 0), false), lU p, (cl p == 2, true), (cl p == 1, false), (cl p == 0, false), lU p, lS p d] := ⟨by kernel_rfl, by kernel_rfl, by kernel_rfl, by kernel_rfl⟩
theorem take_great (p : Int) (d : Bool) : Fits (reckon (tabOf Try.prog extY conB true) 300 57 [.int .u64 p] [cmp d, cmp false, cmp false, cmp false]) (vP d (cl p) 0 (frM p)) [(cl p == 2, false), (cl p == 1, false), (cl p == 0, false), lU p, lS p d] := ⟨by kernel_rfl, by kernel_rfl, by kernel_rfl, by kernel_rfl⟩
theorem sign_eq {p : Int} (hp : U p) : (bAnd p 9223372036854775808 != 0) = sgn p := by
  rw [bAnd_sign hp]
  unfold sgn
  unfold U at hp
  by_cases h : 9223372036854775808 ≤ p
  · rw [decide_eq_true h, show p / 9223372036854775808 = 1 from by omega]; rfl
  · rw [decide_eq_false h, show p / 9223372036854775808 = 0 from by omega]; rfl
theorem cl_cases (p : Int) : (ex p = 0 ∧ (cl p = 0 ∨ cl p = 1)) ∨ (ex p = 2047 ∧ 3 ≤ cl p) ∨ (ex p ≠ 0 ∧ ex p ≠ 2047 ∧ cl p = 2) := by
  unfold cl
  split
  · split <;> omega
  · split
    · split
      · omega
      · split <;> omega
    · omega
theorem lead_or {p : Int} : bOr (fr p) 4503599627370496 = fr p + 4503599627370496 := by
  have := fr_lt p
  rw [or_low 52 (z := 1) (by omega) (by rfl) this.1 (show fr p < 2 ^ 52 from this.2) (by omega)]
  omega
theorem take_calls (p : Int) (hp : U p) (w : World) : Calls Try.prog 57 #[.int .u64 p] w fun e w' => e = .returned (vT p) ∧ Tidy w w' := by
  have hu : decide (U p) = true := decide_eq_true hp
  have hs := sign_eq hp
  have hf := frM_eq hp
  have he := exM_eq p
  have hx := ex_lt p
  unfold vT xp sg
  rcases cl_cases p with ⟨h1, h2⟩ | ⟨h1, h2⟩ | ⟨h1, h2, h3⟩
  · rw [if_pos h1, if_pos h1]
    rcases h2 with h2 | h2
    · have := fits_calls (tabY_ok conB_ok) (take_nought p (sgn p)) (okCons (by simp [h2]) (okCons hu (okL1 hs))) (by rfl) (by rfl) w
      rw [hf] at this
      exact this
    · have := fits_calls (tabY_ok conB_ok) (take_tiny p (sgn p)) (okCons (by simp [h2]) (okCons (by simp [h2]) (okCons hu (okL1 hs)))) (by rfl) (by rfl) w
      rw [hf] at this
      exact this
  · have h0 : ¬ ex p = 0 := by omega
    simp only [if_neg h0, if_pos h1]
    have h3 : ¬ cl p = 0 := by omega
    have h4 : ¬ cl p = 1 := by omega
    have h5 : ¬ cl p = 2 := by omega
    have := fits_calls (tabY_ok conB_ok) (take_great p (sgn p)) (okCons (by simp [h5]) (okCons (by simp [h4]) (okCons (by simp [h3]) (okCons hu (okL1 hs))))) (by rfl) (by rfl) w
    rw [hf] at this
    exact this
  · rw [if_neg h1, if_neg h1, if_neg h2, if_neg h2]
    have := fits_calls (tabY_ok conB_ok) (take_plain p (sgn p)) (okCons rfl (okCons hu (okCons (by simp [h3]) (okCons (by simp [h3]) (okCons (by simp [h3]) (okCons hu (okL1 hs))))))) (by rfl) (by rfl) w
    rw [hf, he, wrapI' ⟨by omega, by omega⟩, lead_or] at this
    exact this
theorem take_ok : AnsOk 57 (gU vT) := gU_ok take_calls

/-! ### the document's Take -/
def exR (p : Int) : Int := (IntKind.u64.wrap (p.tdiv 4503599627370496)).tmod 2048
def frR (p : Int) : Int := p.tmod 4503599627370496
def lR (p : Int) (d : Bool) : Log := [(decide (p ≥ 9223372036854775808), d), (decide ((4503599627370496 : Int) = 0), false), (decide ((2048 : Int) = 0), false)]
theorem ref_plain (p : Int) (d : Bool) : Fits (reckon (tabOf Try.prog extY conN true) 300 46 [.int .u64 p] [cmp true, cmp true, cmp d, cmp false, cmp false]) (vP d 2 (IntKind.i64.wrap (IntKind.i64.wrap (exR p) - 1075)) (IntKind.u64.wrap (frR p + 4503599627370496))) ((exR p == 0, false) :: (exR p == 2047, false) :: lR p d) := ⟨by kernel_rfl, by kernel_rfl, by kernel_rfl, by kernel_rfl⟩
theorem ref_quiet (p : Int) (d : Bool) : Fits (reckon (tabOf Try.prog extY conN true) 300 46 [.int .u64 p] [cmp true, cmp true, cmp d, cmp true, cmp true]) (vP d 4 0 (frR p)) ((decide (frR p ≥ 2251799813685248), true) :: (exR p == 2047, true) :: lR p d) := ⟨by kernel_rfl, by kernel_rfl, by kernel_rfl, by kernel_rfl⟩
theorem ref_great (p : Int) (d b : Bool) : Fits (reckon (tabOf Try.prog extY conN true) 300 46 [.int .u64 p] [cmp true, cmp true, cmp d, cmp true, cmp false, cmp b]) (vP d (match b with | true => 5 | false => 3) 0 (frR p)) ((decide (frR p > 0), b) :: (decide (frR p ≥ 2251799813685248), false) :: (exR p == 2047, true) :: lR p d) := by
  cases b <;> exact ⟨by kernel_rfl, by kernel_rfl, by kernel_rfl, by kernel_rfl⟩
theorem ref_small (p : Int) (d b : Bool) : Fits (reckon (tabOf Try.prog extY conN true) 300 46 [.int .u64 p] [cmp true, cmp true, cmp d, cmp false, cmp true, cmp b]) (vP d (match b with | true => 1 | false => 0) (-1074) (frR p)) ((decide (frR p > 0), b) :: (exR p == 0, true) :: (exR p == 2047, false) :: lR p d) := by
  cases b <;> exact ⟨by kernel_rfl, by kernel_rfl, by kernel_rfl, by kernel_rfl⟩
theorem exR_eq {p : Int} (hp : U p) : exR p = ex p := by
  unfold exR ex U at *
  rw [Int.tdiv_eq_ediv_of_nonneg hp.1, wrapU' ⟨by omega, by omega⟩, Int.tmod_eq_emod_of_nonneg (by omega)]
theorem frR_eq {p : Int} (hp : U p) : frR p = fr p := by unfold frR fr U at *; rw [Int.tmod_eq_emod_of_nonneg hp.1]
theorem ref_calls (p : Int) (hp : U p) (w : World) : Calls Try.prog 46 #[.int .u64 p] w fun e w' => e = .returned (vT p) ∧ Tidy w w' := by
  have hl : okLog (lR p (sgn p)) := okCons rfl (okCons rfl (okL1 rfl))
  have hf := frR_eq hp
  have he := exR_eq hp
  have hx := ex_lt p
  have hy := fr_lt p
  unfold vT xp sg cl
  by_cases h0 : ex p = 0
  · simp only [if_pos h0]
    by_cases h1 : fr p = 0
    · simp only [if_pos h1]
      have := fits_calls (tabY_ok conN_ok) (ref_small p (sgn p) false) (okCons (by rw [hf]; simp [h1]) (okCons (by rw [he]; simp [h0]) (okCons (by rw [he]; simp [h0]) hl))) (by rfl) (by rfl) w
      rw [hf] at this
      exact this
    · simp only [if_neg h1]
      have := fits_calls (tabY_ok conN_ok) (ref_small p (sgn p) true) (okCons (by rw [hf]; exact decide_eq_true (by omega)) (okCons (by rw [he]; simp [h0]) (okCons (by rw [he]; simp [h0]) hl))) (by rfl) (by rfl) w
      rw [hf] at this
      exact this
  · simp only [if_neg h0]
    by_cases h2 : ex p = 2047
    · simp only [if_pos h2]
      by_cases h3 : 2251799813685248 ≤ fr p
      · simp only [if_pos h3, if_neg (show ¬ fr p = 0 by omega)]
        have := fits_calls (tabY_ok conN_ok) (ref_quiet p (sgn p)) (okCons (by rw [hf]; exact decide_eq_true h3) (okCons (by rw [he]; simp [h2]) hl)) (by rfl) (by rfl) w
        rw [hf] at this
        exact this
      · by_cases h1 : fr p = 0
        · simp only [if_pos h1]
          have := fits_calls (tabY_ok conN_ok) (ref_great p (sgn p) false) (okCons (by rw [hf]; simp [h1]) (okCons (by rw [hf]; exact decide_eq_false h3) (okCons (by rw [he]; simp [h2]) hl))) (by rfl) (by rfl) w
          rw [hf] at this
          exact this
        · simp only [if_neg h1, if_neg h3]
          have := fits_calls (tabY_ok conN_ok) (ref_great p (sgn p) true) (okCons (by rw [hf]; exact decide_eq_true (by omega)) (okCons (by rw [hf]; exact decide_eq_false h3) (okCons (by rw [he]; simp [h2]) hl))) (by rfl) (by rfl) w
          rw [hf] at this
          exact this
    · simp only [if_neg h2]
      have := fits_calls (tabY_ok conN_ok) (ref_plain p (sgn p)) (okCons (by rw [he]; simp [h0]) (okCons (by rw [he]; simp [h2]) hl)) (by rfl) (by rfl) w
      rw [hf, he, wrapI' (n := ex p) ⟨by omega, by omega⟩, wrapI' ⟨by omega, by omega⟩, wrapU' ⟨by omega, by omega⟩] at this
      exact this
theorem ref_ok : AnsOk 46 (gU vT) := gU_ok ref_calls
end Go.Proofs.Ytecaahiajbkioaa

/-
  sums.Add, as a call in every world.
-/
namespace Go.Proofs.Ytecaahiajbkioaa
open Go.KRun Go.Wd Go.Pt Go.Rn
set_option maxRecDepth 100000

def conA0 : Con := alt 31 gEx (alt 20 gRd (alt 57 (gU vT) (alt 35 (gU fun p => .int .i64 (cl p)) conN)))
theorem conA0_ok : ConOk conA0 := alt_ok Try.func31 rfl gEx_ok (alt_ok Try.func20 rfl gRd_ok (alt_ok Try.func57 rfl take_ok (alt_ok Try.func35 rfl cls_ok conN_ok)))
def wSg (p : Int) : W4 := ⟨sg p, 0, 0, 0⟩
def lp0 : Bool × Bool := (decide ((0 : Int) < ((2 : Nat) : Int)), true)
def lp1 : Bool × Bool := (decide (IntKind.i64.wrap (0 + 1) < ((2 : Nat) : Int)), true)
def lp2 : Bool × Bool := (decide (IntKind.i64.wrap (IntKind.i64.wrap (0 + 1) + 1) < ((2 : Nat) : Int)), false)
theorem ad_nTT (a b m : Int) : Fits (reckon (tabOf Try.prog extY conA0 true) 300 29 [.int .u64 a, .int .u64 b, .int .i64 m] [cmp true, cmp true, cmp true, cmp true, cmp true, cmp false]) (rdT 9221120237041090560 1) [lp2, (cl b == 5, true), lU b, lp1, (cl a == 5, true), lU a, (decide (cl a > 3), true), lU a, lp0] := ⟨by kernel_rfl, by kernel_rfl, by kernel_rfl, by kernel_rfl⟩
theorem ad_nTF (a b m : Int) : Fits (reckon (tabOf Try.prog extY conA0 true) 300 29 [.int .u64 a, .int .u64 b, .int .i64 m] [cmp true, cmp true, cmp true, cmp true, cmp false, cmp false]) (rdT 9221120237041090560 1) [lp2, (cl b == 5, false), lU b, lp1, (cl a == 5, true), lU a, (decide (cl a > 3), true), lU a, lp0] := ⟨by kernel_rfl, by kernel_rfl, by kernel_rfl, by kernel_rfl⟩
theorem ad_nFT (a b m : Int) : Fits (reckon (tabOf Try.prog extY conA0 true) 300 29 [.int .u64 a, .int .u64 b, .int .i64 m] [cmp true, cmp true, cmp false, cmp true, cmp true, cmp false]) (rdT 9221120237041090560 1) [lp2, (cl b == 5, true), lU b, lp1, (cl a == 5, false), lU a, (decide (cl a > 3), true), lU a, lp0] := ⟨by kernel_rfl, by kernel_rfl, by kernel_rfl, by kernel_rfl⟩
theorem ad_nFF (a b m : Int) : Fits (reckon (tabOf Try.prog extY conA0 true) 300 29 [.int .u64 a, .int .u64 b, .int .i64 m] [cmp true, cmp true, cmp false, cmp true, cmp false, cmp false]) (rdT 9221120237041090560 0) [lp2, (cl b == 5, false), lU b, lp1, (cl a == 5, false), lU a, (decide (cl a > 3), true), lU a, lp0] := ⟨by kernel_rfl, by kernel_rfl, by kernel_rfl, by kernel_rfl⟩
theorem ad_mT (a b m : Int) : Fits (reckon (tabOf Try.prog extY conA0 true) 300 29 [.int .u64 a, .int .u64 b, .int .i64 m] [cmp true, cmp false, cmp false, cmp true, cmp true, cmp true, cmp false]) (rdT 9221120237041090560 1) [lp2, (cl b == 5, true), lU b, (decide (cl b > 3), true), lU b, lp1, (cl a == 5, false), lU a, (decide (cl a > 3), false), lU a, lp0] := ⟨by kernel_rfl, by kernel_rfl, by kernel_rfl, by kernel_rfl⟩
theorem ad_mF (a b m : Int) : Fits (reckon (tabOf Try.prog extY conA0 true) 300 29 [.int .u64 a, .int .u64 b, .int .i64 m] [cmp true, cmp false, cmp false, cmp true, cmp true, cmp false, cmp false]) (rdT 9221120237041090560 0) [lp2, (cl b == 5, false), lU b, (decide (cl b > 3), true), lU b, lp1, (cl a == 5, false), lU a, (decide (cl a > 3), false), lU a, lp0] := ⟨by kernel_rfl, by kernel_rfl, by kernel_rfl, by kernel_rfl⟩
theorem ad_ii (a b m : Int) : Fits (reckon (tabOf Try.prog extY conA0 true) 300 29 [.int .u64 a, .int .u64 b, .int .i64 m] [cmp true, cmp false, cmp false, cmp true, cmp false, cmp false, cmp false, cmp true, cmp true, cmp true]) (rdT 9221120237041090560 1) [(a != b, true), (cl b == 3, true), lU b, (cl a == 3, true), lU a, lp2, (cl b == 5, false), lU b, (decide (cl b > 3), false), lU b, lp1, (cl a == 5, false), lU a, (decide (cl a > 3), false), lU a, lp0] := ⟨by kernel_rfl, by kernel_rfl, by kernel_rfl, by kernel_rfl⟩
theorem ad_is (a b m : Int) : Fits (reckon (tabOf Try.prog extY conA0 true) 300 29 [.int .u64 a, .int .u64 b, .int .i64 m] [cmp true, cmp false, cmp false, cmp true, cmp false, cmp false, cmp false, cmp true, cmp true, cmp false, cmp true]) (rdT a 0) [(cl a == 3, true), lU a, (a != b, false), (cl b == 3, true), lU b, (cl a == 3, true), lU a, lp2, (cl b == 5, false), lU b, (decide (cl b > 3), false), lU b, lp1, (cl a == 5, false), lU a, (decide (cl a > 3), false), lU a, lp0] := ⟨by kernel_rfl, by kernel_rfl, by kernel_rfl, by kernel_rfl⟩
theorem ad_ia (a b m : Int) : Fits (reckon (tabOf Try.prog extY conA0 true) 300 29 [.int .u64 a, .int .u64 b, .int .i64 m] [cmp true, cmp false, cmp false, cmp true, cmp false, cmp false, cmp false, cmp true, cmp false, cmp true]) (rdT a 0) [(cl a == 3, true), lU a, (cl b == 3, false), lU b, (cl a == 3, true), lU a, lp2, (cl b == 5, false), lU b, (decide (cl b > 3), false), lU b, lp1, (cl a == 5, false), lU a, (decide (cl a > 3), false), lU a, lp0] := ⟨by kernel_rfl, by kernel_rfl, by kernel_rfl, by kernel_rfl⟩
theorem ad_ib (a b m : Int) : Fits (reckon (tabOf Try.prog extY conA0 true) 300 29 [.int .u64 a, .int .u64 b, .int .i64 m] [cmp true, cmp false, cmp false, cmp true, cmp false, cmp false, cmp false, cmp false, cmp false, cmp true]) (rdT b 0) [(cl b == 3, true), lU b, (cl a == 3, false), lU a, (cl a == 3, false), lU a, lp2, (cl b == 5, false), lU b, (decide (cl b > 3), false), lU b, lp1, (cl a == 5, false), lU a, (decide (cl a > 3), false), lU a, lp0] := ⟨by kernel_rfl, by kernel_rfl, by kernel_rfl, by kernel_rfl⟩
theorem ad_fin (a b m : Int) : Fits (reckon (tabOf Try.prog extY conA0 true) 300 29 [.int .u64 a, .int .u64 b, .int .i64 m] [cmp true, cmp false, cmp false, cmp true, cmp false, cmp false, cmp false, cmp false, cmp false, cmp false, cmp true, cmp true]) (rdV m (xuN m (sgn a) (xp a) (wSg a).nat (sgn b) (xp b) (wSg b).nat) (tw (ofN (xuQ (sgn a) (xp a) (wSg a).nat (sgn b) (xp b) (wSg b).nat)) (xuB (sgn a) (xp a) (wSg a).nat (sgn b) (xp b) (wSg b).nat)) (clp (unN (xp a) (wSg a).nat (xp b) (wSg b).nat) - 1)) [(decide (ofN (xuQ (sgn a) (xp a) (wSg a).nat (sgn b) (xp b) (wSg b).nat)).ok, true), (okEx (xp a) (wSg a) false (xp b) (wSg b) false, true), lU b, (decide (cl b ≤ 2), true), lU b, lU a, (decide (cl a ≤ 2), true), lU a, (cl b == 3, false), lU b, (cl a == 3, false), lU a, (cl a == 3, false), lU a, lp2, (cl b == 5, false), lU b, (decide (cl b > 3), false), lU b, lp1, (cl a == 5, false), lU a, (decide (cl a > 3), false), lU a, lp0] := ⟨by kernel_rfl, by kernel_rfl, by kernel_rfl, by kernel_rfl⟩
/-! ### its numbers -/
theorem wSg_ok (p : Int) : (wSg p).ok := by
  have h := sg_lt p
  exact ⟨⟨h.1, by unfold wSg; dsimp only; omega⟩, ⟨by unfold wSg; dsimp only; omega, by unfold wSg; dsimp only; omega⟩, ⟨by unfold wSg; dsimp only; omega, by unfold wSg; dsimp only; omega⟩, ⟨by unfold wSg; dsimp only; omega, by unfold wSg; dsimp only; omega⟩⟩
theorem wSg_nat (p : Int) : (wSg p).nat = (sg p).toNat := by
  unfold W4.nat W4.val wSg
  simp only [Int.mul_zero, Int.add_zero]
theorem fin_ex {p : Int} (h : cl p ≤ 2) : ex p ≠ 2047 := by
  rcases cl_cases p with ⟨h1, _⟩ | ⟨_, h2⟩ | ⟨_, h2, _⟩ <;> omega
theorem tw_of {q : Nat} (h : q < 2 ^ 256) (b : Bool) : tw (ofN q) b = 2 * q + bN b := by
  unfold tw
  rw [ofN_nat h]
  cases b <;> rfl
/-- the unit may be far away -/
theorem clp_round (k : Int) (n : Bool) {x : W4} (hx : x.ok) (b : Bool) (u : Int) : rnP k n (tw x b) (clp u - 1) = rnP k n (tw x b) (u - 1) ∧ rnF k n (tw x b) (clp u - 1) = rnF k n (tw x b) (u - 1) := by
  have h1 := same_round (m := k) (neg := n) hx b (C := clp u) (D := u) (by unfold clp; split <;> (try split) <;> omega)
  have h2 := same_round (m := k) (neg := n) hx b (C := u) (D := u) (.inl rfl)
  exact ⟨by rw [h1.1, h2.1], by rw [h1.2, h2.2]⟩
/-- what Exact answers is rounded as the exact sum -/
theorem xu_rd (k m : Int) {G Ex Ey : Int} {X Y : Nat} (hX : May Ex X) (hY : May Ey Y) (hx : G ≤ Ex) (hy : G ≤ Ey) (nx ny : Bool) :
    rdV k (xuN m nx Ex X ny Ey Y) (tw (ofN (xuQ nx Ex X ny Ey Y)) (xuB nx Ex X ny Ey Y)) (clp (unN Ex X Ey Y) - 1) = rdV k (sgS m nx ny (smI G nx Ex X ny Ey Y)) (smI G nx Ex X ny Ey Y).natAbs G := by
  have hq := xuQ_lt nx Ex X ny Ey Y
  have e : (2 : Nat) ^ 256 = 2 * 2 ^ 255 := rfl
  obtain ⟨c1, c2⟩ := clp_round k (xuN m nx Ex X ny Ey Y) (ofN_ok (xuQ nx Ex X ny Ey Y)) (xuB nx Ex X ny Ey Y) (unN Ex X Ey Y)
  obtain ⟨p, q, r⟩ := xu_round hX hY hx hy k m (xuN m nx Ex X ny Ey Y) nx ny
  unfold rdV
  rw [c1, c2, tw_of (by omega), p, q, r]
/-- what Add answers -/
def suP (m a b : Int) : Int := if 3 < cl a ∨ 3 < cl b then 9221120237041090560 else if cl a = 3 then (if cl b = 3 ∧ a ≠ b then 9221120237041090560 else a) else if cl b = 3 then b else sS (adN m a b) (adP m a b)
def suF (m a b : Int) : Int := if 3 < cl a ∨ 3 < cl b then (if cl a = 5 ∨ cl b = 5 then 1 else 0) else if cl a = 3 then (if cl b = 3 ∧ a ≠ b then 1 else 0) else if cl b = 3 then 0 else adF m a b
def suV (m a b : Int) : Value := rdT (suP m a b) (suF m a b)
theorem beq_t {x y : Int} (h : x = y) : (x == y) = true := by simpa using h
theorem beq_f {x y : Int} (h : x ≠ y) : (x == y) = false := by simpa using h
theorem bne_t {x y : Int} (h : x ≠ y) : (x != y) = true := by simpa using h
theorem bne_f {x y : Int} (h : x = y) : (x != y) = false := by simpa using h
theorem cl_bd (p : Int) : 0 ≤ cl p ∧ cl p ≤ 5 := by
  unfold cl
  split
  · split <;> omega
  · split
    · split
      · omega
      · split <;> omega
    · omega
theorem sadd_calls (a b m : Int) (ha : U a) (hb : U b) (w : World) : Calls Try.prog 29 #[.int .u64 a, .int .u64 b, .int .i64 m] w fun r w' => r = .returned (suV m a b) ∧ Tidy w w' := by
  have hv : ([.int .u64 a, .int .u64 b, .int .i64 m].all (lt 0)) = true := rfl
  have ka : decide (U a) = true := decide_eq_true ha
  have kb : decide (U b) = true := decide_eq_true hb
  have k0 : lp0.1 = lp0.2 := by decide
  have k1 : lp1.1 = lp1.2 := by decide
  have k2 : lp2.1 = lp2.2 := by decide
  have ba := cl_bd a
  have bb := cl_bd b
  unfold suV suP suF
  by_cases hna : 3 < cl a
  · have g1 : decide (cl a > 3) = true := decide_eq_true hna
    rw [if_pos (.inl hna), if_pos (.inl hna)]
    have mk : ∀ {d e : Bool}, (cl a == 5) = d → (cl b == 5) = e → okLog [lp2, (cl b == 5, e), lU b, lp1, (cl a == 5, d), lU a, (decide (cl a > 3), true), lU a, lp0] := fun h1 h2 =>
      okCons k2 (okCons h2 (okCons kb (okCons k1 (okCons h1 (okCons ka (okCons g1 (okCons ka (okL1 k0))))))))
    by_cases ca : cl a = 5 <;> by_cases cb : cl b = 5
    · rw [if_pos (.inl ca)]; exact fits_calls (tabY_ok conA0_ok) (ad_nTT a b m) (mk (beq_t ca) (beq_t cb)) hv (by rfl) w
    · rw [if_pos (.inl ca)]; exact fits_calls (tabY_ok conA0_ok) (ad_nTF a b m) (mk (beq_t ca) (beq_f cb)) hv (by rfl) w
    · rw [if_pos (.inr cb)]; exact fits_calls (tabY_ok conA0_ok) (ad_nFT a b m) (mk (beq_f ca) (beq_t cb)) hv (by rfl) w
    · rw [if_neg (by omega)]; exact fits_calls (tabY_ok conA0_ok) (ad_nFF a b m) (mk (beq_f ca) (beq_f cb)) hv (by rfl) w
  · have g1 : decide (cl a > 3) = false := decide_eq_false hna
    have ca : (cl a == 5) = false := beq_f (by omega)
    by_cases hnb : 3 < cl b
    · have g2 : decide (cl b > 3) = true := decide_eq_true hnb
      rw [if_pos (.inr hnb), if_pos (.inr hnb)]
      by_cases cb : cl b = 5
      · rw [if_pos (.inr cb)]
        exact fits_calls (tabY_ok conA0_ok) (ad_mT a b m) (okCons k2 (okCons (beq_t cb) (okCons kb (okCons g2 (okCons kb (okCons k1 (okCons ca (okCons ka (okCons g1 (okCons ka (okL1 k0))))))))))) hv (by rfl) w
      · rw [if_neg (by omega)]
        exact fits_calls (tabY_ok conA0_ok) (ad_mF a b m) (okCons k2 (okCons (beq_f cb) (okCons kb (okCons g2 (okCons kb (okCons k1 (okCons ca (okCons ka (okCons g1 (okCons ka (okL1 k0))))))))))) hv (by rfl) w
    · have g2 : decide (cl b > 3) = false := decide_eq_false hnb
      have cb : (cl b == 5) = false := beq_f (by omega)
      have lN : okLog [lp2, (cl b == 5, false), lU b, (decide (cl b > 3), false), lU b, lp1, (cl a == 5, false), lU a, (decide (cl a > 3), false), lU a, lp0] :=
        okCons k2 (okCons cb (okCons kb (okCons g2 (okCons kb (okCons k1 (okCons ca (okCons ka (okCons g1 (okCons ka (okL1 k0))))))))))
      have hno : ¬ (3 < cl a ∨ 3 < cl b) := by omega
      rw [if_neg hno, if_neg hno]
      by_cases ea : cl a = 3
      · rw [if_pos ea, if_pos ea]
        by_cases eb : cl b = 3
        · by_cases hab : a = b
          · rw [if_neg (fun h => h.2 hab), if_neg (fun h => h.2 hab)]
            exact fits_calls (tabY_ok conA0_ok) (ad_is a b m) (okCons (beq_t ea) (okCons ka (okCons (bne_f hab) (okCons (beq_t eb) (okCons kb (okCons (beq_t ea) (okCons ka lN))))))) hv (by rfl) w
          · rw [if_pos ⟨eb, hab⟩, if_pos ⟨eb, hab⟩]
            exact fits_calls (tabY_ok conA0_ok) (ad_ii a b m) (okCons (bne_t hab) (okCons (beq_t eb) (okCons kb (okCons (beq_t ea) (okCons ka lN))))) hv (by rfl) w
        · rw [if_neg (fun h => eb h.1), if_neg (fun h => eb h.1)]
          exact fits_calls (tabY_ok conA0_ok) (ad_ia a b m) (okCons (beq_t ea) (okCons ka (okCons (beq_f eb) (okCons kb (okCons (beq_t ea) (okCons ka lN)))))) hv (by rfl) w
      · rw [if_neg ea, if_neg ea]
        by_cases eb : cl b = 3
        · rw [if_pos eb, if_pos eb]
          exact fits_calls (tabY_ok conA0_ok) (ad_ib a b m) (okCons (beq_t eb) (okCons kb (okCons (beq_f ea) (okCons ka (okCons (beq_f ea) (okCons ka lN)))))) hv (by rfl) w
        · rw [if_neg eb, if_neg eb]
          have mA : May (xp a) (wSg a).nat := by rw [wSg_nat]; exact may_pat a
          have mB : May (xp b) (wSg b).nat := by rw [wSg_nat]; exact may_pat b
          have kE : okEx (xp a) (wSg a) false (xp b) (wSg b) false = true := decide_eq_true ⟨wSg_ok a, wSg_ok b, rfl, rfl, (may_iff (wSg_ok a)).2 mA, (may_iff (wSg_ok b)).2 mB⟩
          have fa : decide (cl a ≤ 2) = true := decide_eq_true (by omega)
          have fb : decide (cl b ≤ 2) = true := decide_eq_true (by omega)
          have hf := ad_fin a b m
          rw [xu_rd m m mA mB (xp_bd a).1 (xp_bd b).1, wSg_nat, wSg_nat] at hf
          exact fits_calls (tabY_ok conA0_ok) hf (okCons (decide_eq_true (ofN_ok _)) (okCons kE (okCons kb (okCons fb (okCons kb (okCons ka (okCons fa (okCons ka (okCons (beq_f eb) (okCons kb (okCons (beq_f ea) (okCons ka (okCons (beq_f ea) (okCons ka lN)))))))))))))) hv (by rfl) w
def gSA : Ans := fun vals s =>
  match vals with
  | [.int .u64 a, .int .u64 b, .int .i64 m] => some (suV m a b, s, [(decide (U a ∧ U b), true)])
  | _ => none
theorem gSA_ok : AnsOk 29 gSA := by
  intro vals s v s' lg h hl w
  unfold gSA at h
  split at h
  · cases h
    obtain ⟨h1, h2⟩ := of_decide_eq_true (hl _ (List.mem_singleton.2 rfl))
    exact sadd_calls _ _ _ h1 h2 w
  · cases h
end Go.Proofs.Ytecaahiajbkioaa

/-
  The document's Pattern (tillerref04), as a contract.
-/
namespace Go.Proofs.Ytecaahiajbkioaa
open Go.KRun Go.Nt Go.Wd Go.Rn Go.Pt
set_option maxRecDepth 100000
set_option linter.unusedVariables false

def conPt : Con := alt 46 (gU vT) conN
theorem conPt_ok : ConOk conPt := alt_ok Try.func46 rfl ref_ok conN_ok
theorem pt_body : Try.f33.body = some (cBody Try.f33) := by kernel_rfl
theorem pt_go (p : Int) : GoesT (evC (tabH Try.prog extY conPt hcW) 200 false (cBody Try.f33) ([.int .u64 p] ++ List.replicate 13 undef, ⟨0, []⟩, []) ⟨[], [], []⟩) 3 11 (some none) [.int .u64 p, undef, .pointer (some ⟨0, 0, none⟩)] ⟨3, [(wU (d16 (sg p).toNat), tU), ([.bool (sgn p), .int .i64 (cl p), .int .i64 (xp p), .int .u64 (sg p)], 77), bOf (sgn p) (xp p) (sOf 2 (sg p).toNat)]⟩ [(decide (0 ≤ sg p ∧ sg p < 18446744073709551616), true), (decide (U p), true)] := ⟨by kernel_rfl, by kernel_rfl, by kernel_rfl⟩
def gPt : AnsH := fun vals h s =>
  match vals with
  | [.int .u64 p] => some (vRN (sgn p) (xp p) (sOf h.n (sg p).toNat), h.push (wU (d16 (sg p).toNat)) tU, s, [(decide (U p), true)])
  | _ => none
theorem gPt_ok : AnsHOk 33 gPt := by
  intro vals h s v h' s' lg hg hl m B w E hv
  unfold gPt at hg
  split at hg
  · rename_i p
    cases hg
    have q := hl _ (List.mem_singleton.2 rfl)
    have hs := sg_lt p
    have hr : RunsW (tabH Try.prog extY conPt hcW) (cBody Try.f33) ([.int .u64 p] ++ List.replicate 13 undef, ⟨0, []⟩, []) fun e z => (e = none ∨ e = some none) ∧ ∃ k, resS Try.prog Try.f33 z.1 z.2.1 = some (vRN (sgn p) (xp p) (sOf k (sg p).toNat)) ∧ ∃ r, z.2.1.blk? k = some (wU (d16 (sg p).toNat) ++ r, tU) := by
      refine (goesT_runsW (tabH_ok conPt_ok hcW_ok) (pt_go p) (okCons (decide_eq_true ⟨hs.1, by omega⟩) (okL1 q))).mono fun e z he => ?_
      obtain ⟨rfl, ⟨g, e1⟩, e2⟩ := he
      exact ⟨.inr rfl, 2, by rw [e1, e2]; rfl, [], by rw [e2, List.append_nil]; rfl⟩
    have := row_calls2 (T := tabH Try.prog extY conPt hcW) Try.func33 pt_body (h0 := ⟨0, []⟩) ⟨rfl, fun b x hx => by have : b < 0 := Hp.blk_lt hx; omega⟩ (vals := [.int .u64 p]) (fun v hv => by rw [List.mem_singleton.1 hv]; rfl) (v := fun k => vRN (sgn p) (xp p) (sOf k (sg p).toNat)) (wU_lt _) (by kernel_rfl) hr (fun k => by simp [oc, oc2, oc1, sOf, sl, vRN]) E (s := fun i => i) (fun i x hx _ => by have : i < 0 := Hp.blk_lt hx; omega) (fun k => by simp [rn, rn2, rn1, sOf, sl, vRN])
    exact this
  · cases hg
def hcS : Hc := altH 32 gSm (altH 33 gPt (altH 27 gRr hcN))
theorem hcS_ok : HcOk hcS := altH_ok Try.func32 rfl gSm_ok (altH_ok Try.func33 rfl gPt_ok (altH_ok Try.func27 rfl gRr_ok hcN_ok))
end Go.Proofs.Ytecaahiajbkioaa
