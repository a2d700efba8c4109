/-
  SiB, RowN
-/
import Derived.Test.YtgefjidphfdhdabGreatDoorG24
import Derived.Lib.LaidTab
import Derived.ChangeSame
import Derived.RowKit
namespace Go.Proofs.YtgefjidphfdhdabGreatDoor
open Go.KRun Go.Nt Go.Rd Go.Pt
set_option maxRecDepth 100000
/-! ### the number's digits -/
def dgD : List UInt8 := [48, 49, 50, 51, 52, 53, 54, 55, 56, 57]
theorem dg_part14 {d : Nat} (h : d < 10) : (dgD.drop d).take 1 = [chD d] := by
  have : ∀ k : Fin 10, (dgD.drop k.val).take 1 = [chD k.val] := by decide
  exact this ⟨d, h⟩
theorem exp_small : ∀ i : Fin 16, expL (i.val : Nat) = if 10 ≤ i.val then 49 :: (dgD.drop (i.val % 10)).take 1 else (dgD.drop (i.val % 10)).take 1 := by decide +kernel
theorem dcL_bd {N : Nat} (h0 : N ≠ 0) (h : N < 18446744073709551616) : 1 ≤ (dcL N).length ∧ 10 ^ ((dcL N).length - 1) ≤ N ∧ N < 10 ^ (dcL N).length ∧ dcL N = decF (dcL N).length N := by
  obtain ⟨l1, l2, l3⟩ := decS_len14 h0
  have e := decS_dcL h
  have d := decS_decF h0
  rw [e] at l1 l2 l3 d
  exact ⟨l1, l2, l3, d⟩
theorem wo_pat {N : Nat} (h0 : N ≠ 0) (h : N < 9007199254740992) : ∃ p : Int, opP 0 N = p ∧ (0 ≤ p ∧ p ≤ 4845873199050653696) ∧ p ≠ 0 ∧ opF 0 N = 0 ∧ (sg p).toNat * 2 ^ (xp p).toNat = N * 2 ^ (-(xp p)).toNat := by
  obtain ⟨s1, s2, s3, _, s5⟩ := small_pat 0 h
  have eo : opP 0 N = Go.Rn.rnP 0 false N 0 := by unfold opP sS; rw [if_neg (by decide), Int.toNat_natCast]
  refine ⟨Go.Rn.rnP 0 false N 0, eo, ⟨s2, s3⟩, fun c => h0 (s5.1 c), by unfold opF; rw [Int.toNat_natCast]; exact s1, ?_⟩
  obtain ⟨J, hJ⟩ : ∃ J : Nat, J = 1074 := ⟨_, rfl⟩
  have e1 : xp 4845873199050653696 = 1 := by decide
  have e2 : (sg 4845873199050653696).toNat = 4503599627370496 := by decide
  have hle : N * 2 ^ (0 + 1074 : Int).toNat ≤ Go.Rn.uV 4845873199050653696 := by
    unfold Go.Rn.uV Go.Rn.szF
    rw [e1, e2, show (0 + 1074 : Int).toNat = J by omega, show (1 - -1074 : Int).toNat = J + 1 by omega, Nat.pow_succ]
    have := Nat.mul_le_mul_right (2 ^ J) (show N ≤ 9007199254740992 by omega)
    omega
  obtain ⟨_, _, _, _, a5⟩ := Go.Rn.few_exact (D := N) (E := 0) (by omega) h (b := 4845873199050653696) (by decide) hle 0 false
  rw [show (0 + 1074 : Int).toNat = J by omega] at a5
  obtain ⟨p, hp⟩ : ∃ p, p = Go.Rn.rnP 0 false N 0 := ⟨_, rfl⟩
  rw [← hp] at a5 ⊢
  have xb := Go.Rn.xp_bd p
  unfold Go.Rn.uV Go.Rn.szF at a5
  rcases Int.lt_or_le (xp p) 0 with c | c
  · rw [show (xp p).toNat = 0 by omega, Nat.pow_zero, Nat.mul_one]
    have e : J = (xp p - -1074).toNat + (-(xp p)).toNat := by omega
    rw [e, Nat.pow_add, Nat.mul_comm (2 ^ (xp p - -1074).toNat), ← Nat.mul_assoc] at a5
    exact Nat.eq_of_mul_eq_mul_right (Nat.pow_pos (by omega)) a5
  · rw [show (-(xp p)).toNat = 0 by omega, Nat.pow_zero, Nat.mul_one]
    rw [show (xp p - -1074).toNat = (xp p).toNat + J by omega, Nat.pow_add, ← Nat.mul_assoc] at a5
    exact Nat.eq_of_mul_eq_mul_right (Nat.pow_pos (by omega)) a5
/-- the text of all its digits -/
theorem wo_text {N : Nat} (h : N < 9007199254740992) : U (opP 0 N) ∧ opF 0 N = 0 ∧ (1 ≤ (dcL N).length ∧ (dcL N).length ≤ 16) ∧ dgT14 (opP 0 N) (dcL N).length 2 = txL false (dcL N) (((dcL N).length : Nat) - 1 : Int) := by
  by_cases h0 : N = 0
  · subst h0
    exact ⟨by decide, by decide, by decide, by decide +kernel⟩
  · obtain ⟨p, hp, ⟨b0, b1⟩, b2, b3, b4⟩ := wo_pat h0 h
    obtain ⟨l1, l2, l3, l4⟩ := dcL_bd h0 (by omega)
    have l16 : (dcL N).length ≤ 16 := by
      rcases Nat.lt_or_ge 16 (dcL N).length with c | c
      · have := Nat.pow_le_pow_right (n := 10) (by omega) (show 16 ≤ (dcL N).length - 1 by omega)
        have e16 : (10 : Nat) ^ 16 = 10000000000000000 := rfl
        omega
      · exact c
    refine ⟨by rw [hp]; unfold U; omega, b3, ⟨l1, l16⟩, ?_⟩
    have hl : ex p ≠ 2047 := by unfold ex; omega
    have hc2 : cl p ≤ 2 := by
      unfold cl
      rw [if_neg hl]
      split
      · split <;> omega
      · omega
    have hc0 : cl p ≠ 0 := fun c => by
      apply b2
      have x : ex p = 0 ∧ fr p = 0 := by
        unfold cl at c
        split at c
        · rename_i a
          split at c
          · rename_i b; exact ⟨a, b⟩
          · omega
        · exact absurd c (by decide)
      unfold ex fr at x
      omega
    have hf := fin14_B (fin_of hc2 hc0)
    obtain ⟨w1, w2, w3⟩ := whole_digits hf b4 l1 l2 l3
    rw [hp]
    unfold dgT14
    rw [if_neg (fun c => c (fin_sp hc2)), if_neg hc0]
    unfold dgS14
    rw [w2, w1, decide_eq_false (show ¬ (9223372036854775808 : Int) ≤ p by omega)]
    rw [if_neg (by unfold upD14; rw [if_neg (by decide), if_pos rfl]; decide), ← l4]
/-! ### the loop -/
def conWo : Con := alt 4 gOp conN
theorem conWo_ok : ConOk conWo := alt_ok Tryz.func4 rfl gOp_ok conN_ok
theorem tabWo : TabOk (tabH Tryz.prog extY conWo hcLw) := tabH_ok conWo_ok hcLw_ok
def woF (n k : Int) (S : List UInt8) : List Value := [.int .u64 n, undef, .bool false, .int .u64 k, bR S]
def woG (n k : Int) (S : List UInt8) (x : Int) : List Value := [.int .u64 n, undef, .bool false, .int .u64 k, bR S, .int .u64 x]
def woI (F : Func) : Code := cFst (sP F 3)
def woL (F : Func) : Code := cIn (cIn (cSnd (sP F 3)))
theorem wo_body : Tryz.f3.body = some (seqs [sP Tryz.f3 0, sP Tryz.f3 1, sP Tryz.f3 2] (.seq (.seq (woI Tryz.f3) (.block 0 (.loop (woL Tryz.f3)))) (sK Tryz.f3 4))) := by kernel_rfl
theorem wo_pre (n : Int) : GoesT (evL (tabH Tryz.prog extY conWo hcLw) 200 [sP Tryz.f3 0, sP Tryz.f3 1, sP Tryz.f3 2] ([.int .u64 n] ++ List.replicate 87 undef, hT0, [cmp false]) ⟨[], [], []⟩) 5 83 none (woF n (n.tmod 9007199254740992) []) hT0 [(decide ((9007199254740992 : Int) = 0), false)] := ⟨by kernel_rfl, by kernel_rfl, by kernel_rfl⟩
theorem wo_i (n k : Int) (S : List UInt8) (g : Nat → Value) : GoesT (evC (tabH Tryz.prog extY conWo hcLw) 200 false (woI Tryz.f3) (woF n k S ++ tl 83 g, hT0, []) ⟨[], [], []⟩) 6 82 none (woG n k S k) hT0 [] := ⟨by kernel_rfl, by kernel_rfl, by kernel_rfl⟩
def dgX (x : Int) : List UInt8 := (dgD.drop (x.tmod 10).toNat).take ((IntKind.u64.wrap (x.tmod 10 + 1)).toNat - (x.tmod 10).toNat)
def lDg (x : Int) (H : List UInt8) (l : Log) : Log := (decide ((dgX x).length + H.length ≤ 9223372036854775807), true) :: (decide (0 ≤ x.tmod 10 ∧ x.tmod 10 ≤ IntKind.u64.wrap (x.tmod 10 + 1) ∧ IntKind.u64.wrap (x.tmod 10 + 1) ≤ ((10 : Nat) : Int)), true) :: (decide ((10 : Int) = 0), false) :: (decide ((10 : Int) = 0), false) :: l
theorem wo_1 (n k : Int) (H : List UInt8) (x : Int) (g : Nat → Value) : GoesT (evC (tabH Tryz.prog extY conWo hcLw) 200 false (woL Tryz.f3) (woG n k H x ++ tl 82 g, hT0, [cmp true, cmp false, cmp false, sam true, sam true]) ⟨[], [], []⟩) 6 82 none (woG n k (dgX x ++ H) (IntKind.u64.wrap (x.tdiv 10))) hT0 (lDg x H [(decide (x > 0), true)]) := ⟨by kernel_rfl, by kernel_rfl, by kernel_rfl⟩
theorem wo_0 (n k : Int) (H : List UInt8) (x : Int) (g : Nat → Value) : GoesT (evC (tabH Tryz.prog extY conWo hcLw) 200 false (woL Tryz.f3) (woG n k H x ++ tl 82 g, hT0, [cmp false, sam true, cmp false, cmp false, sam true, sam true]) ⟨[], [], []⟩) 6 82 none (woG n k (dgX x ++ H) (IntKind.u64.wrap (x.tdiv 10))) hT0 (lDg x H [lEqB H [] true, (decide (x > 0), false)]) := ⟨by kernel_rfl, by kernel_rfl, by kernel_rfl⟩
theorem wo_x (n k : Int) (H : List UInt8) (x : Int) (g : Nat → Value) : GoesT (evC (tabH Tryz.prog extY conWo hcLw) 200 false (woL Tryz.f3) (woG n k H x ++ tl 82 g, hT0, [cmp false, sam false]) ⟨[], [], []⟩) 6 82 (some (some 0)) (woG n k H x) hT0 [lEqB H [] false, (decide (x > 0), false)] := ⟨by kernel_rfl, by kernel_rfl, by kernel_rfl⟩
/-- behind some digits: x is left -/
def woS (n : Int) (N : Nat) (x : Nat) (s : List UInt8) (y : Lf) : Prop := ∃ (f : Nat) (g : Nat → Value), x < 10 ^ f ∧ x < 18446744073709551616 ∧ s.length + f ≤ 20 ∧ (s = [] → 1 ≤ f) ∧ dcL N = (if x = 0 ∧ s ≠ [] then [] else decF f x) ++ s ∧ y.1 = woG n (N : Nat) s x ++ tl 82 g ∧ y.2.1 = hT0
theorem wo_round {n : Int} {N : Nat} (r : Nat) (y : Lf) (h : ∃ x s, r = 2 * x + (if s = [] then 1 else 0) ∧ woS n N x s y) :
    Runs (tabH Tryz.prog extY conWo hcLw) (woL Tryz.f3) y fun e z => match e with | none => ∃ r', r' < r ∧ ∃ x s, r' = 2 * x + (if s = [] then 1 else 0) ∧ woS n N x s z | some none => False | some (some id') => id' = 0 ∧ ∃ g : Nat → Value, z.1 = woG n (N : Nat) (dcL N) 0 ++ tl 82 g ∧ z.2.1 = hT0 := by
  obtain ⟨x, s, hr, f, g, hc, hu, hf, hf2, hS, ht, hh⟩ := h
  obtain ⟨t, h', sc⟩ := y
  simp only at ht hh
  subst ht hh
  by_cases hx : x = 0 ∧ s ≠ []
  · have es : dcL N = s := by rw [hS, if_pos hx]; rfl
    refine (goesT_runs (s0 := sc) tabWo (wo_x n (N : Nat) s (x : Nat) g) (okCons (ok_lEqB (decide_eq_false hx.2)) (okL1 (decide_eq_false (by omega))))).mono fun e z he => ?_
    obtain ⟨rfl, ⟨g', z1⟩, z2⟩ := he
    rw [hx.1, ← es] at z1
    exact ⟨rfl, g', z1, z2⟩
  · rw [if_neg hx] at hS
    have et : ((x : Nat) : Int).tmod 10 = ((x % 10 : Nat) : Int) := by rw [Int.tmod_eq_emod_of_nonneg (by omega)]; omega
    have ed : IntKind.u64.wrap (((x : Nat) : Int).tdiv 10) = ((x / 10 : Nat) : Int) := by
      rw [Int.tdiv_eq_ediv_of_nonneg (by omega)]
      simp [IntKind.wrap, IntKind.bits, IntKind.signed]
      omega
    have ew : IntKind.u64.wrap (((x % 10 : Nat) : Int) + 1) = ((x % 10 + 1 : Nat) : Int) := by
      simp [IntKind.wrap, IntKind.bits, IntKind.signed]
      omega
    have hm : x % 10 < 10 := Nat.mod_lt _ (by omega)
    have ep : dgX ((x : Nat) : Int) = [chD (x % 10)] := by
      unfold dgX
      rw [et, ew, Int.toNat_natCast, Int.toNat_natCast, show x % 10 + 1 - x % 10 = 1 by omega]
      exact dg_part14 hm
    obtain ⟨f', rfl⟩ : ∃ f', f = f' + 1 := by
      cases f with
      | zero =>
        exfalso
        have h0 : x = 0 := by simpa using hc
        exact hx ⟨h0, fun h => by have := hf2 h; omega⟩
      | succ f => exact ⟨f, rfl⟩
    have lk : ∀ l, okLog l → okLog (lDg ((x : Nat) : Int) s l) := fun l hl => by
      unfold lDg
      rw [ep, et, ew]
      exact okCons (decide_eq_true (by rw [List.length_singleton]; omega)) (okCons (decide_eq_true ⟨by omega, by omega, by omega⟩) (okCons (by decide) (okCons (by decide) hl)))
    have fin : ∀ z : Lf, ((∃ g' : Nat → Value, z.1 = woG n (N : Nat) ([chD (x % 10)] ++ s) ((x / 10 : Nat) : Int) ++ tl 82 g') ∧ z.2.1 = hT0) → ∃ r', r' < r ∧ ∃ x s, r' = 2 * x + (if s = [] then 1 else 0) ∧ woS n N x s z := fun z hz => by
      obtain ⟨⟨g', z1⟩, z2⟩ := hz
      refine ⟨2 * (x / 10), ?_, x / 10, chD (x % 10) :: s, by rw [if_neg (by simp), Nat.add_zero], f', g', by rw [Nat.pow_succ] at hc; omega, by omega, by rw [List.length_cons]; omega, fun h => by simp at h, ?_, z1, z2⟩
      · rw [hr]
        by_cases h0 : x = 0
        · have : s = [] := Decidable.of_not_not fun h => hx ⟨h0, h⟩
          rw [if_pos this]
          omega
        · omega
      · rw [hS, decF]
        by_cases h1 : x < 10
        · rw [if_pos h1, if_pos ⟨by omega, by simp⟩, Nat.mod_eq_of_lt h1]
          rfl
        · rw [if_neg h1, if_neg (fun h => by have := h.1; omega)]
          simp
    by_cases h0 : 0 < x
    · have hg := wo_1 n (N : Nat) s (x : Nat) g
      rw [ed] at hg
      refine (goesT_runs (s0 := sc) tabWo hg (lk _ (okL1 (decide_eq_true (by omega))))).mono fun e z he => ?_
      obtain ⟨rfl, he⟩ := he
      rw [ep] at he
      exact fin z he
    · have hs0 : s = [] := Decidable.of_not_not fun h => hx ⟨by omega, h⟩
      have hg := wo_0 n (N : Nat) s (x : Nat) g
      rw [ed] at hg
      refine (goesT_runs (s0 := sc) tabWo hg (lk _ (okCons (ok_lEqB (decide_eq_true hs0)) (okL1 (decide_eq_false (by omega)))))).mono fun e z he => ?_
      obtain ⟨rfl, he⟩ := he
      rw [ep] at he
      exact fin z he
/-! ### the end -/
def ls10 (S : List UInt8) : Int := (IntKind.i64.wrap (((S.length : Nat) : Int) - 1)).tmod 10
def ls11 (S : List UInt8) : Int := IntKind.i64.wrap (ls10 S + 1)
def lsL (S : List UInt8) : List UInt8 := (dgD.drop (ls10 S).toNat).take ((ls11 S).toNat - (ls10 S).toNat)
def woW (S : List UInt8) : List UInt8 := (S.take 1 ++ [46]) ++ S.drop 1
def lWo (k : Int) (S : List UInt8) : Log := [(decide ((0 : Int) ≤ 1 ∧ (1 : Int) ≤ ((S.length : Nat) : Int)), true), (decide (((S.length : Nat) : Int) < 1), false), (opF 0 k != 0, false), (decide (1 ≤ ((S.length : Nat) : Int) ∧ ((S.length : Nat) : Int) ≤ 1000), true), (decide (U (opP 0 k)), true), (decide (U k), true)]
def lSl (S : List UInt8) (l : Log) : Log := (decide (0 ≤ ls10 S ∧ ls10 S ≤ ls11 S ∧ ls11 S ≤ ((10 : Nat) : Int)), true) :: (decide ((10 : Int) = 0), false) :: (decide ((10 : Int) = 0), false) :: l
theorem wo_e1 (n k x : Int) (S : List UInt8) (g : Nat → Value) : GoesT (evC (tabH Tryz.prog extY conWo hcLw) 200 false (sK Tryz.f3 4) (woG n k S x ++ tl 82 g, hT0, [cmp true, cmp false, cmp false, sam true, cmp false, cmp false, cmp false, sam true, cmp false, sam true, sam true, sam true]) ⟨[], [], []⟩) 3 85 (some none) [.int .u64 n, undef, .bool true] hT0 (lEqB (dgT14 (opP 0 k) (((S.length : Nat) : Int)).toNat 2) ((S.take 1 ++ [101]) ++ lsL S) true :: (decide ((S.take 1 ++ [101]).length + (lsL S).length ≤ 9223372036854775807), true) :: (decide ((S.take 1).length + ([101] : List UInt8).length ≤ 9223372036854775807), true) :: (decide (((S.length : Nat) : Int) > 10), false) :: lSl S ((decide (((S.length : Nat) : Int) > 1), false) :: lWo k S)) := ⟨by kernel_rfl, by kernel_rfl, by kernel_rfl⟩
theorem wo_e2 (n k x : Int) (S : List UInt8) (g : Nat → Value) : GoesT (evC (tabH Tryz.prog extY conWo hcLw) 200 false (sK Tryz.f3 4) (woG n k S x ++ tl 82 g, hT0, [cmp true, cmp false, cmp false, sam true, cmp true, sam true, sam true, sam true, cmp false, cmp false, sam true, cmp false, sam true, sam true, sam true]) ⟨[], [], []⟩) 3 85 (some none) [.int .u64 n, undef, .bool true] hT0 (lEqB (dgT14 (opP 0 k) (((S.length : Nat) : Int)).toNat 2) ((woW S ++ [101]) ++ lsL S) true :: (decide ((woW S ++ [101]).length + (lsL S).length ≤ 9223372036854775807), true) :: (decide ((woW S).length + ([101] : List UInt8).length ≤ 9223372036854775807), true) :: (decide (((S.length : Nat) : Int) > 10), false) :: lSl S ((decide ((S.take 1 ++ [46]).length + (S.drop 1).length ≤ 9223372036854775807), true) :: (decide ((0 : Int) ≤ 1 ∧ (1 : Int) ≤ ((S.length : Nat) : Int)), true) :: (decide ((S.take 1).length + ([46] : List UInt8).length ≤ 9223372036854775807), true) :: (decide (((S.length : Nat) : Int) > 1), true) :: lWo k S)) := ⟨by kernel_rfl, by kernel_rfl, by kernel_rfl⟩
theorem wo_e3 (n k x : Int) (S : List UInt8) (g : Nat → Value) : GoesT (evC (tabH Tryz.prog extY conWo hcLw) 200 false (sK Tryz.f3 4) (woG n k S x ++ tl 82 g, hT0, [cmp true, cmp false, cmp false, sam true, cmp true, sam true, sam true, sam true, cmp false, cmp false, sam true, cmp true, sam true, sam true, sam true, sam true]) ⟨[], [], []⟩) 3 85 (some none) [.int .u64 n, undef, .bool true] hT0 (lEqB (dgT14 (opP 0 k) (((S.length : Nat) : Int)).toNat 2) ((woW S ++ [101]) ++ ([49] ++ lsL S)) true :: (decide ((woW S ++ [101]).length + (([49] ++ lsL S)).length ≤ 9223372036854775807), true) :: (decide ((woW S).length + ([101] : List UInt8).length ≤ 9223372036854775807), true) :: (decide (([49] : List UInt8).length + (lsL S).length ≤ 9223372036854775807), true) :: (decide (((S.length : Nat) : Int) > 10), true) :: lSl S ((decide ((S.take 1 ++ [46]).length + (S.drop 1).length ≤ 9223372036854775807), true) :: (decide ((0 : Int) ≤ 1 ∧ (1 : Int) ≤ ((S.length : Nat) : Int)), true) :: (decide ((S.take 1).length + ([46] : List UInt8).length ≤ 9223372036854775807), true) :: (decide (((S.length : Nat) : Int) > 1), true) :: lWo k S)) := ⟨by kernel_rfl, by kernel_rfl, by kernel_rfl⟩
theorem ls_is {S : List UInt8} (h1 : 1 ≤ S.length) (h2 : S.length ≤ 16) : ls10 S = (((S.length - 1) % 10 : Nat) : Int) ∧ ls11 S = (((S.length - 1) % 10 + 1 : Nat) : Int) ∧ lsL S = (dgD.drop ((S.length - 1) % 10)).take 1 := by
  have a : ls10 S = (((S.length - 1) % 10 : Nat) : Int) := by
    unfold ls10
    rw [wrapI (by omega) (by omega), Int.tmod_eq_emod_of_nonneg (by omega)]
    omega
  have b : ls11 S = (((S.length - 1) % 10 + 1 : Nat) : Int) := by
    unfold ls11
    rw [a, wrapI (by omega) (by omega)]
    omega
  refine ⟨a, b, ?_⟩
  unfold lsL
  rw [a, b, Int.toNat_natCast, Int.toNat_natCast, show (S.length - 1) % 10 + 1 - (S.length - 1) % 10 = 1 by omega]
theorem wo_last {S : List UInt8} (h1 : 1 ≤ S.length) (h2 : S.length ≤ 16) : expL ((S.length : Nat) - 1 : Int) = if 10 < S.length then [49] ++ lsL S else lsL S := by
  obtain ⟨_, _, c⟩ := ls_is h1 h2
  have e := exp_small ⟨S.length - 1, by omega⟩
  rw [c]
  rw [show ((S.length : Nat) - 1 : Int) = ((S.length - 1 : Nat) : Int) by omega]
  refine e.trans ?_
  by_cases h : 10 < S.length
  · rw [if_pos h, if_pos (show 10 ≤ S.length - 1 by omega)]; rfl
  · rw [if_neg h, if_neg (show ¬ 10 ≤ S.length - 1 by omega)]
theorem wo_tx {S : List UInt8} (h1 : 1 ≤ S.length) (e : Int) : txL false S e = ((if 1 < S.length then woW S else S.take 1) ++ [101]) ++ expL e := by
  unfold txL woW
  match S, h1 with
  | [c], _ => rfl
  | c :: d :: r, _ => simp
theorem whoL_calls (n : Int) (hp : 0 ≤ n ∧ n < 18446744073709551616) (w : World) (hk : knT w) : Calls Tryz.prog 3 #[.int .u64 n] w fun e w' => e = .returned (.bool true) ∧ Tidy w w' := by
  have ev : ∀ m : Mp, [Value.int .u64 n].map (mv m) = [Value.int .u64 n] := fun m => (List.map_congr_left fun y hy => mv_still (by rw [List.mem_singleton.1 hy]; rfl)).trans (List.map_id' _)
  have main := calls_of_start (T := tabH Tryz.prog extY conWo hcLw) Tryz.func3 wo_body (h0 := hT0) (vals := [.int .u64 n]) (fun v hv => by rw [List.mem_singleton.1 hv]; rfl) (v := .bool true) (by rfl) (m := fun b => (b, 0)) (w := w) ?_ (startT hk)
  · rw [ev] at main
    exact main
  obtain ⟨N, hN⟩ : ∃ N : Nat, n.tmod 9007199254740992 = (N : Nat) := ⟨(n.tmod 9007199254740992).toNat, by rw [Int.tmod_eq_emod_of_nonneg hp.1]; omega⟩
  have hlt : N < 9007199254740992 := by rw [Int.tmod_eq_emod_of_nonneg hp.1] at hN; omega
  have hpre := wo_pre n
  rw [hN] at hpre
  refine goesT_list tabWo hpre (okL1 (by decide)) fun g => ?_
  refine Runs.seq (P1 := fun e y => e = none ∧ ∃ g : Nat → Value, y.1 = woG n (N : Nat) (dcL N) 0 ++ tl 82 g ∧ y.2.1 = hT0) ?_ ?_ (fun e y he => by cases he.1)
  · refine Runs.seq (P1 := fun e y => e = none ∧ woS n N N [] y) ?_ ?_ (fun e y he => by cases he.1)
    · refine (goesT_runs tabWo (wo_i n (N : Nat) [] g) okN9R).mono fun e z he => ?_
      obtain ⟨rfl, ⟨g', z1⟩, z2⟩ := he
      exact ⟨rfl, 20, g', dcL_lt (by omega), by omega, by simp, fun _ => by omega, by rw [if_neg (fun c => c.2 rfl), List.append_nil]; rfl, z1, z2⟩
    · rintro y ⟨_, hy⟩
      refine (Runs.forLoop (R := fun _ => False) (P := fun y => ∃ g : Nat → Value, y.1 = woG n (N : Nat) (dcL N) 0 ++ tl 82 g ∧ y.2.1 = hT0) (fun r y => ∃ x s, r = 2 * x + (if s = [] then 1 else 0) ∧ woS n N x s y) wo_round (n := 2 * N + 1) ⟨N, [], rfl, hy⟩).mono fun e z hz => ?_
      match e, hz with
      | none, hz => exact ⟨rfl, hz⟩
  rintro ⟨t, hh, sc⟩ ⟨_, g1, e1, e2⟩
  simp only at e1 e2
  subst e1 e2
  obtain ⟨u1, f0, ⟨l1, l2⟩, tx⟩ := wo_text hlt
  obtain ⟨a, b, c⟩ := ls_is l1 l2
  have le := wo_last l1 l2
  have lw : (woW (dcL N)).length ≤ 100 := by
    unfold woW
    rw [List.length_append, List.length_append, List.length_take, List.length_drop]
    have : ([46] : List UInt8).length = 1 := rfl
    omega
  have lt1 : ((dcL N).take 1).length ≤ 1 := by rw [List.length_take]; omega
  have lt2 : ((dcL N).drop 1).length ≤ 16 := by rw [List.length_drop]; omega
  have ll : (lsL (dcL N)).length ≤ 1 := by rw [c, List.length_take]; omega
  have k1 : ([101] : List UInt8).length = 1 := rfl
  have k2 : ([46] : List UInt8).length = 1 := rfl
  have k3 : ([49] : List UInt8).length = 1 := rfl
  have lWo_ok : okLog (lWo (N : Nat) (dcL N)) := okCons (decide_eq_true (by omega)) (okCons (decide_eq_false (by omega)) (okCons (by rw [f0]; rfl) (okCons (decide_eq_true (by omega)) (okCons (decide_eq_true u1) (okL1 (decide_eq_true (by unfold U; omega)))))))
  have lSl_ok : ∀ l, okLog l → okLog (lSl (dcL N) l) := fun l hl => okCons (decide_eq_true (by rw [a, b]; omega)) (okCons (by decide) (okCons (by decide) hl))
  have j13 : 1 < (dcL N).length → okLog ((decide (((dcL N).take 1 ++ [46]).length + ((dcL N).drop 1).length ≤ 9223372036854775807), true) :: (decide ((0 : Int) ≤ 1 ∧ (1 : Int) ≤ (((dcL N).length : Nat) : Int)), true) :: (decide (((dcL N).take 1).length + ([46] : List UInt8).length ≤ 9223372036854775807), true) :: (decide ((((dcL N).length : Nat) : Int) > 1), true) :: lWo (N : Nat) (dcL N)) := fun h => okCons (decide_eq_true (by rw [List.length_append]; omega)) (okCons (decide_eq_true (by omega)) (okCons (decide_eq_true (by omega)) (okCons (decide_eq_true (by omega)) lWo_ok)))
  have val : dgT14 (opP 0 (N : Nat)) ((((dcL N).length : Nat) : Int)).toNat 2 = ((if 1 < (dcL N).length then woW (dcL N) else (dcL N).take 1) ++ [101]) ++ (if 10 < (dcL N).length then [49] ++ lsL (dcL N) else lsL (dcL N)) := by rw [Int.toNat_natCast, tx, wo_tx l1, le]
  by_cases h10 : 10 < (dcL N).length
  · rw [if_pos h10, if_pos (show 1 < (dcL N).length by omega)] at val
    refine (goesT_runs (s0 := sc) tabWo (wo_e3 n (N : Nat) 0 (dcL N) g1) (okCons (ok_lEqB (decide_eq_true val)) (okCons (decide_eq_true (by rw [List.length_append, List.length_append]; omega)) (okCons (decide_eq_true (by omega)) (okCons (decide_eq_true (by omega)) (okCons (decide_eq_true (by omega)) (lSl_ok _ (j13 (by omega))))))))).mono fun e z he => ?_
    obtain ⟨rfl, ⟨g', z1⟩, z2⟩ := he
    exact ⟨.inr rfl, by rw [z1, z2]; rfl⟩
  · rw [if_neg h10] at val
    by_cases h1 : 1 < (dcL N).length
    · rw [if_pos h1] at val
      refine (goesT_runs (s0 := sc) tabWo (wo_e2 n (N : Nat) 0 (dcL N) g1) (okCons (ok_lEqB (decide_eq_true val)) (okCons (decide_eq_true (by rw [List.length_append]; omega)) (okCons (decide_eq_true (by omega)) (okCons (decide_eq_false (by omega)) (lSl_ok _ (j13 h1))))))).mono fun e z he => ?_
      obtain ⟨rfl, ⟨g', z1⟩, z2⟩ := he
      exact ⟨.inr rfl, by rw [z1, z2]; rfl⟩
    · rw [if_neg h1] at val
      refine (goesT_runs (s0 := sc) tabWo (wo_e1 n (N : Nat) 0 (dcL N) g1) (okCons (ok_lEqB (decide_eq_true val)) (okCons (decide_eq_true (by rw [List.length_append]; omega)) (okCons (decide_eq_true (by omega)) (okCons (decide_eq_false (by omega)) (lSl_ok _ (okCons (decide_eq_false (by omega)) lWo_ok))))))).mono fun e z he => ?_
      obtain ⟨rfl, ⟨g', z1⟩, z2⟩ := he
      exact ⟨.inr rfl, by rw [z1, z2]; rfl⟩
end Go.Proofs.YtgefjidphfdhdabGreatDoor
namespace Go.Proofs.YtgefjidphfdhdabGreatDoor
open Go.KRun Go.RowKit Go.ChangeShapes
set_option maxRecDepth 100000
theorem post_none {H : Type} {enc : TypeId × Value → H} {P : Program} {f : Func} {s : ChangeSpec} {apart fresh handsOn again : Bool} {W W' : World} {args : Array Value} {v : Value} {ds gs : List (DataW H)}
    (hW : DataW.Whole enc P f.params.toList s.vars apart W args.toList ds gs [])
    (hres : ∀ (b : Nat) (sp : Nat → Bool) (hd : Bool), DataW.TrodAll enc P W' b sp hd f.resultTypes.toList (v.resultList f.resultTypes.size) (s.fn H (ds ++ gs)).results [])
    (hargs : ∀ sp : Nat → Bool, DataW.TrodAll enc P W' 0 sp true f.params.toList args.toList (s.fn H (ds ++ gs)).args [])
    (hvars : ∀ sp : Nat → Bool, DataW.TrodVars enc P W' sp s.vars (s.fn H (ds ++ gs)).vars [])
    (hk : W.keptBut W' (· ∈ ([] : List MemPlace)))
    (hok : ∀ (j : Nat) (t : TypeId) (r : Value), f.resultTypes[j]? = some t → (v.resultList f.resultTypes.size)[j]? = some r → Value.okWide P W' .any 0 t r) :
    s.post enc P f apart fresh handsOn again W args v W' := by
  refine ⟨ds, gs, [], [], [], [], hW, hres _ _ _, hargs _, hvars _, World.keptBut_mono (fun p hp => absurd hp List.not_mem_nil) hk, fun _ => ?_⟩
  obtain ⟨_, _, _, _, _, _, hn⟩ := hW
  refine ⟨hok, _, _, ([] ++ []) ++ [], ⟨[] ++ [], [], trodAll_append (hargs _) (hres _ _ _), hvars _, rfl, ?_, ?_⟩, ?_⟩
  · intro b off hp
    exact absurd hp List.not_mem_nil
  · intro ha
    exact hn ha
  · intro p hp _
    exact absurd hp List.not_mem_nil
theorem laidV {P : Program} {w : World} : ∀ {l : List (String × DataW Unit)} {ps : List MemPlace}, DataW.LaidVars P w l ps → ∀ {n : String} {d : DataW Unit}, (n, d) ∈ l → ∃ g t cs fuel p, P.globalNamed n = some g ∧ (P.globals[g]?).map (·.type) = some t ∧ w.var? P n = some cs ∧ DataW.trod (fun _ => ()) P w 0 (fun _ => true) false fuel t cs.toList = some (d, p)
  | [], _, _, _, _, hm => absurd hm List.not_mem_nil
  | (n', d') :: r, ps, h, n, d, hm => by
    obtain ⟨g, t, cs, fuel, p, q, h1, h2, h3, h4, h5, _⟩ := h
    rcases List.mem_cons.1 hm with e | e
    · cases e
      exact ⟨g, t, cs, fuel, p, h1, h2, h3, h4⟩
    · exact laidV h5 e
theorem knT_laid {l : List (String × DataW Unit)} {W : World} (h : laidMet Tryz.prog l W) {n : String} {d : DataW Unit} (hm : (n, d) ∈ l) (hn : Tryz.prog.globalNamed n = some 1) (hd : d = Lib.tabData .u64 Lib.pow10Tab) : knT W := by
  obtain ⟨ps, hl, _⟩ := h
  obtain ⟨g, t, cs, fuel, p, h1, h2, h3, h4⟩ := laidV hl hm
  obtain rfl := Option.some.inj (hn.symm.trans h1)
  have ht : (Tryz.prog.globals[1]?).map (·.type) = some 156 := by kernel_rfl
  obtain rfl := Option.some.inj (ht.symm.trans h2)
  rw [hd] at h4
  have hc := Lib.cells_of_tab Tryz.underlying156 Tryz.underlying22 (by kernel_rfl) (by kernel_rfl) h4
  unfold World.var? at h3
  rw [hn] at h3
  simp only [Option.bind_some] at h3
  split at h3
  · rename_i c e z hb
    cases h3
    refine ⟨e, z, ?_⟩
    rw [hb]
    congr 2
    apply Array.toList_inj.1
    rw [hc]
    rfl
  · cases h3
end Go.Proofs.YtgefjidphfdhdabGreatDoor
