/-
  PlN
-/
import Derived.Test.YtlmccannfocniaaDoorG14
namespace Go.Proofs.YtlmccannfocniaaDoor
open Go.KRun Go.RowKit Go.Pl
set_option maxRecDepth 100000
theorem RunsW.refold19 {T : Tab} {c : Code} {P : Ex → Lf → Prop} {front J : List Value} {n : Nat} {h : Hp} {s : List Dec} (hJ : J.length = n) (hr : ∀ g, RunsW T c (front ++ tl n g, h, s) P) : RunsW T c (front ++ J, h, s) P := by
  obtain ⟨g, e⟩ := tl_of hJ
  rw [e]
  exact hr g
/-! ### numbers -/
/-- the product as the document goes: nothing where a radix is none, or where it was too great already -/
def dcG : Int → List Int → Option Int
  | k, [] => some k
  | k, r :: l => if isR r = true then (if k > 16777216 then none else dcG (k * r) l) else none
theorem dcG_prG {N : Int} (hN : 1 ≤ N ∧ N ≤ 16777216) : ∀ (L : List Int) (k : Int), 1 ≤ k → k ≤ 16777216 → (dcG k L = some N ↔ prG k L = N)
  | [], k, _, _ => by
    show some k = some N ↔ k = N
    exact ⟨fun h => Option.some.inj h, fun h => by rw [h]⟩
  | r :: l, k, h0, h1 => by
    show (if isR r = true then (if k > 16777216 then none else dcG (k * r) l) else none) = some N ↔ (if isR r = true then (if k > Int.tdiv 16777216 r then 0 else prG (k * r) l) else 0) = N
    by_cases hr : isR r = true
    · rw [if_pos hr, if_pos hr, if_neg (by omega)]
      have hr2 : 2 ≤ r := by rcases isR_is hr with rfl | rfl | rfl | rfl | rfl | rfl | rfl <;> decide
      by_cases c : k > Int.tdiv 16777216 r
      · rw [if_pos c]
        have big : k * r > 16777216 := by
          have e : Int.tdiv 16777216 r = 16777216 / r := Int.tdiv_eq_ediv_of_nonneg (by decide)
          rw [e] at c
          exact Int.lt_mul_of_ediv_lt (by omega) c
        refine ⟨fun h => ?_, fun h => by omega⟩
        cases l with
        | nil =>
          have : k * r = N := Option.some.inj h
          omega
        | cons a l =>
          have : (if isR a = true then (if k * r > 16777216 then none else dcG (k * r * a) l) else none) = some N := h
          rw [if_pos big] at this
          split at this <;> cases this
      · rw [if_neg c]
        obtain ⟨q1, q2⟩ := tdiv_R hr
        obtain ⟨w1, w2, w3⟩ := q2 k (by omega) (by omega)
        exact dcG_prG hN l (k * r) (by omega) w2
    · rw [if_neg hr, if_neg hr]
      exact ⟨fun h => (by cases h), fun h => (by omega)⟩
/-- the least power of two that is no less, to 2^26 -/
def ppN : Nat → Nat → Int → Nat | 0, w, _ => w | f + 1, w, P => if (w : Int) < P ∧ w < 67108864 then ppN f (2 * w) P else w
def ppK (P : Int) : Nat := ppN 26 1 P
theorem ppN_pow : ∀ (f j : Nat) (P : Int), j + f = 26 → ∃ i, ppN f (2 ^ j) P = 2 ^ i ∧ i ≤ 26
  | 0, j, P, h => ⟨j, rfl, by omega⟩
  | f + 1, j, P, h => by
    show ∃ i, (if ((2 ^ j : Nat) : Int) < P ∧ 2 ^ j < 67108864 then ppN f (2 * 2 ^ j) P else 2 ^ j) = 2 ^ i ∧ i ≤ 26
    split
    · rw [show 2 * 2 ^ j = 2 ^ (j + 1) from by rw [Nat.pow_succ, Nat.mul_comm]]
      exact ppN_pow f (j + 1) P (by omega)
    · exact ⟨j, rfl, by omega⟩
theorem ppN_is : ∀ (f j k : Nat), j ≤ k → k ≤ j + f → k ≤ 26 → ppN f (2 ^ j) ((2 ^ k : Nat) : Int) = 2 ^ k
  | 0, j, k, h1, h2, _ => by
    have : j = k := by omega
    subst this
    rfl
  | f + 1, j, k, h1, h2, h3 => by
    show (if ((2 ^ j : Nat) : Int) < ((2 ^ k : Nat) : Int) ∧ 2 ^ j < 67108864 then ppN f (2 * 2 ^ j) _ else 2 ^ j) = 2 ^ k
    by_cases c : j = k
    · subst c
      rw [if_neg (fun h => by omega)]
    · have h4 : 2 ^ j < 2 ^ k := Nat.pow_lt_pow_right (by decide) (by omega)
      have h5 : 2 ^ k ≤ 2 ^ 26 := Nat.pow_le_pow_right (by decide) h3
      rw [if_pos ⟨by omega, by omega⟩, show 2 * 2 ^ j = 2 ^ (j + 1) from by rw [Nat.pow_succ, Nat.mul_comm]]
      exact ppN_is f (j + 1) k (by omega) (by omega) h3
theorem pwB_nat {p : Nat} (h0 : 1 ≤ p) (h1 : p ≤ 67108864) : pwB (p : Int) = ((p &&& (p - 1) : Nat) : Int) := by
  have e1 : IntKind.i64.wrap ((p : Int) - 1) = ((p - 1 : Nat) : Int) := by rw [wrapI (by omega) (by omega)]; omega
  unfold pwB
  rw [e1, BitVec.ofInt_natCast, BitVec.ofInt_natCast, BitVec.toNat_and, BitVec.toNat_ofNat, BitVec.toNat_ofNat, Nat.mod_eq_of_lt (show p < 2 ^ 64 by omega), Nat.mod_eq_of_lt (show p - 1 < 2 ^ 64 by omega)]
  have := Nat.and_le_left (n := p) (m := p - 1)
  exact wrapI (by omega) (by omega)
theorem pp_iff {P : Int} (h : 1 ≤ P) : (((ppK P : Nat) : Int) = P) ↔ ((pwB P == 0) = true ∧ P ≤ 67108864) := by
  obtain ⟨p, rfl⟩ : ∃ p : Nat, P = (p : Int) := ⟨P.toNat, by omega⟩
  constructor
  · intro e
    obtain ⟨i, h1, h2⟩ := ppN_pow 26 0 (p : Int) rfl
    have e' : p = 2 ^ i := by
      have : ppK (p : Int) = 2 ^ i := h1
      omega
    have h5 : 2 ^ i ≤ 2 ^ 26 := Nat.pow_le_pow_right (by decide) h2
    exact ⟨pw_of ⟨i, e'⟩ (by omega), by omega⟩
  · rintro ⟨h1, h2⟩
    rw [pwB_nat (by omega) (by omega)] at h1
    have h3 : p &&& p - 1 = 0 := by
      have := eq_of_beq h1
      omega
    obtain ⟨k, hk⟩ := (Nat.and_sub_one_eq_zero_iff_isPowerOfTwo (by omega)).1 h3
    have hk26 : k ≤ 26 := by
      have : k < 27 := (Nat.pow_lt_pow_iff_right (by decide : 1 < 2)).1 (show 2 ^ k < 2 ^ 27 by omega)
      omega
    have := ppN_is 26 0 k (by omega) (by omega) hk26
    rw [hk]
    show ((ppN 26 1 _ : Nat) : Int) = _
    rw [show (1 : Nat) = 2 ^ 0 from rfl, this]
/-! ### the run -/
abbrev hD (N P : Int) (p : Option Addr) (n c : Nat) : List Value × TypeId := ([.int .i64 N, .slice p n c, .int .i64 P], 29)
abbrev hC3 (N P : Int) (p : Option Addr) (n c : Nat) (x : List Value × TypeId) : Hp := ⟨3, [hD N P p n c, x, (rdV, rdT)]⟩
def dk3 (F : Func) : Code := cSnd (cSnd (cBody F))
def dkA (F : Func) : Code := cThn (cSnd (cFst (dk3 F)))
def dk10 (F : Func) : Code := cSnd (dk3 F)
def dkL1 (F : Func) : Code := cIn (cIn (cFst (cSnd (dkA F))))
def dkL2 (F : Func) : Code := cIn (cIn (cSnd (cFst (cSnd (dk10 F)))))
def dkAA (F : Func) : Code := .seq (cFst (dkA F)) (.seq (.block 0 (.loop (dkL1 F))) (cSnd (cSnd (dkA F))))
def dkBB (F : Func) : Code := .seq (cFst (dk10 F)) (.seq (.seq (cFst (cFst (cSnd (dk10 F)))) (.block 2 (.loop (dkL2 F)))) (cSnd (cSnd (dk10 F))))
def dkAll (F : Func) : Code := .seq (cFst (cBody F)) (.seq (cFst (cSnd (cBody F))) (.seq (.seq (cFst (cFst (dk3 F))) (.cond (.tmp 17) (dkAA F) .skip)) (dkBB F)))
theorem dk_body : Tryd.f18.body = some (dkAll Tryd.f18) := by kernel_rfl
theorem dk_body0 : Tryd.f18.body = some (cBody Tryd.f18) := by kernel_rfl
theorem dk_a (x : List Value × TypeId) (p : Option Addr) (n c : Nat) (N P : Int) : GoesT (evC (tabH Tryd.prog extY conN hcN) 100 false (cBody Tryd.f18) ([plnV N p n c P] ++ List.replicate 95 undef, hTR x, [cmp true]) ⟨[], [], []⟩) 3 93 (some none) ([plnV N p n c P, .pointer (some ⟨2, 0, none⟩), .int .i64 10]) (hC3 N P p n c x) [(decide (N < 1), true)] := ⟨by kernel_rfl, by kernel_rfl, by kernel_rfl⟩
theorem dk_b (x : List Value × TypeId) (p : Option Addr) (n c : Nat) (N P : Int) : GoesT (evC (tabH Tryd.prog extY conN hcN) 100 false (cBody Tryd.f18) ([plnV N p n c P] ++ List.replicate 95 undef, hTR x, [cmp false, cmp true]) ⟨[], [], []⟩) 3 93 (some none) ([plnV N p n c P, .pointer (some ⟨2, 0, none⟩), .int .i64 10]) (hC3 N P p n c x) [(decide (N > 16777216), true), (decide (N < 1), false)] := ⟨by kernel_rfl, by kernel_rfl, by kernel_rfl⟩
theorem dk_0 (x : List Value × TypeId) (p : Option Addr) (n c : Nat) (N P : Int) : GoesT (evC (tabH Tryd.prog extY conN hcN) 100 false (cFst (cBody Tryd.f18)) ([plnV N p n c P] ++ List.replicate 95 undef, hTR x, []) ⟨[], [], []⟩) 3 93 none ([plnV N p n c P, .pointer (some ⟨2, 0, none⟩), .int .i64 0]) (hC3 N P p n c x) [] := ⟨by kernel_rfl, by kernel_rfl, by kernel_rfl⟩
theorem dk_1 (x : List Value × TypeId) (p : Option Addr) (n c : Nat) (N P : Int) (g : Nat → Value) : GoesT (evC (tabH Tryd.prog extY conN hcN) 100 false (cFst (cSnd (cBody Tryd.f18))) ([plnV N p n c P, .pointer (some ⟨2, 0, none⟩), .int .i64 0] ++ tl 93 g, hC3 N P p n c x, [cmp false, cmp false]) ⟨[], [], []⟩) 3 93 none ([plnV N p n c P, .pointer (some ⟨2, 0, none⟩), .int .i64 0]) (hC3 N P p n c x) [(decide (N > 16777216), false), (decide (N < 1), false)] := ⟨by kernel_rfl, by kernel_rfl, by kernel_rfl⟩
theorem dk_3f (x : List Value × TypeId) (p : Option Addr) (n c : Nat) (N P : Int) (g : Nat → Value) : GoesT (evC (tabH Tryd.prog extY conN hcN) 100 false (.seq (cFst (cFst (dk3 Tryd.f18))) (.cond (.tmp 17) (dkAA Tryd.f18) .skip)) ([plnV N p n c P, .pointer (some ⟨2, 0, none⟩), .int .i64 0] ++ tl 93 g, hC3 N P p n c x, [cmp false]) ⟨[], [], []⟩) 3 93 none ([plnV N p n c P, .pointer (some ⟨2, 0, none⟩), .int .i64 0]) (hC3 N P p n c x) [(P != 0, false)] := ⟨by kernel_rfl, by kernel_rfl, by kernel_rfl⟩
theorem dk_3t (x : List Value × TypeId) (p : Option Addr) (n c : Nat) (N P : Int) (g : Nat → Value) : GoesT (evC (tabH Tryd.prog extY conN hcN) 100 false (cFst (cFst (dk3 Tryd.f18))) ([plnV N p n c P, .pointer (some ⟨2, 0, none⟩), .int .i64 0] ++ tl 93 g, hC3 N P p n c x, [cmp true]) ⟨[], [], []⟩) 18 78 none ([plnV N p n c P, .pointer (some ⟨2, 0, none⟩), .int .i64 0] ++ [g 0, g 1, g 2, g 3, g 4, g 5, g 6, g 7, g 8, g 9, g 10, g 11, .pointer (some ⟨2, 2, none⟩), .int .i64 P, .bool true]) (hC3 N P p n c x) [(P != 0, true)] := ⟨by kernel_rfl, by kernel_rfl, by kernel_rfl⟩
theorem dk_4 (x : List Value × TypeId) (p : Option Addr) (n c : Nat) (N P : Int) (g : Nat → Value) : GoesT (evC (tabH Tryd.prog extY conN hcN) 100 false (cFst (dkA Tryd.f18)) ([plnV N p n c P, .pointer (some ⟨2, 0, none⟩), .int .i64 0] ++ tl 93 g, hC3 N P p n c x, []) ⟨[], [], []⟩) 4 92 none ([plnV N p n c P, .pointer (some ⟨2, 0, none⟩), .int .i64 0, .int .i64 1]) (hC3 N P p n c x) [] := ⟨by kernel_rfl, by kernel_rfl, by kernel_rfl⟩
theorem dk_go (x : List Value × TypeId) (p : Option Addr) (n c : Nat) (N P : Int) (w : Int) (g : Nat → Value) : GoesT (evC (tabH Tryd.prog extY conN hcN) 100 false (dkL1 Tryd.f18) ([plnV N p n c P, .pointer (some ⟨2, 0, none⟩), .int .i64 0, .int .i64 w] ++ tl 92 g, hC3 N P p n c x, [cmp true, cmp true]) ⟨[], [], []⟩) 4 92 none ([plnV N p n c P, .pointer (some ⟨2, 0, none⟩), .int .i64 0, .int .i64 (IntKind.i64.wrap (2 * w))]) (hC3 N P p n c x) [(decide (w < 67108864), true), (decide (w < P), true)] := ⟨by kernel_rfl, by kernel_rfl, by kernel_rfl⟩
theorem dk_o1 (x : List Value × TypeId) (p : Option Addr) (n c : Nat) (N P : Int) (w : Int) (g : Nat → Value) : GoesT (evC (tabH Tryd.prog extY conN hcN) 100 false (dkL1 Tryd.f18) ([plnV N p n c P, .pointer (some ⟨2, 0, none⟩), .int .i64 0, .int .i64 w] ++ tl 92 g, hC3 N P p n c x, [cmp false]) ⟨[], [], []⟩) 4 92 (some (some 0)) ([plnV N p n c P, .pointer (some ⟨2, 0, none⟩), .int .i64 0, .int .i64 w]) (hC3 N P p n c x) [(decide (w < P), false)] := ⟨by kernel_rfl, by kernel_rfl, by kernel_rfl⟩
theorem dk_o2 (x : List Value × TypeId) (p : Option Addr) (n c : Nat) (N P : Int) (w : Int) (g : Nat → Value) : GoesT (evC (tabH Tryd.prog extY conN hcN) 100 false (dkL1 Tryd.f18) ([plnV N p n c P, .pointer (some ⟨2, 0, none⟩), .int .i64 0, .int .i64 w] ++ tl 92 g, hC3 N P p n c x, [cmp true, cmp false]) ⟨[], [], []⟩) 4 92 (some (some 0)) ([plnV N p n c P, .pointer (some ⟨2, 0, none⟩), .int .i64 0, .int .i64 w]) (hC3 N P p n c x) [(decide (w < 67108864), false), (decide (w < P), true)] := ⟨by kernel_rfl, by kernel_rfl, by kernel_rfl⟩
theorem dk_71 (x : List Value × TypeId) (p : Option Addr) (n c : Nat) (N P : Int) (w : Int) (g : Nat → Value) : GoesT (evC (tabH Tryd.prog extY conN hcN) 100 false (cSnd (cSnd (dkA Tryd.f18))) ([plnV N p n c P, .pointer (some ⟨2, 0, none⟩), .int .i64 0, .int .i64 w] ++ tl 92 g, hC3 N P p n c x, [cmp true]) ⟨[], [], []⟩) 3 93 (some none) ([plnV N p n c P, .pointer (some ⟨2, 0, none⟩), .int .i64 10]) (hC3 N P p n c x) [(decide ((n : Int) > 0), true)] := ⟨by kernel_rfl, by kernel_rfl, by kernel_rfl⟩
theorem dk_72 (x : List Value × TypeId) (p : Option Addr) (n c : Nat) (N P : Int) (w : Int) (g : Nat → Value) : GoesT (evC (tabH Tryd.prog extY conN hcN) 100 false (cSnd (cSnd (dkA Tryd.f18))) ([plnV N p n c P, .pointer (some ⟨2, 0, none⟩), .int .i64 0, .int .i64 w] ++ tl 92 g, hC3 N P p n c x, [cmp false, cmp true]) ⟨[], [], []⟩) 3 93 (some none) ([plnV N p n c P, .pointer (some ⟨2, 0, none⟩), .int .i64 10]) (hC3 N P p n c x) [(w != P, true), (decide ((n : Int) > 0), false)] := ⟨by kernel_rfl, by kernel_rfl, by kernel_rfl⟩
theorem dk_73 (x : List Value × TypeId) (p : Option Addr) (n c : Nat) (N P : Int) (w : Int) (g : Nat → Value) : GoesT (evC (tabH Tryd.prog extY conN hcN) 100 false (cSnd (cSnd (dkA Tryd.f18))) ([plnV N p n c P, .pointer (some ⟨2, 0, none⟩), .int .i64 0, .int .i64 w] ++ tl 92 g, hC3 N P p n c x, [cmp false, cmp false, cmp true]) ⟨[], [], []⟩) 3 93 (some none) ([plnV N p n c P, .pointer (some ⟨2, 0, none⟩), .int .i64 10]) (hC3 N P p n c x) [(decide (P < IntKind.i64.wrap (IntKind.i64.wrap (2 * N) - 1)), true), (w != P, false), (decide ((n : Int) > 0), false)] := ⟨by kernel_rfl, by kernel_rfl, by kernel_rfl⟩
theorem dk_74 (x : List Value × TypeId) (p : Option Addr) (n c : Nat) (N P : Int) (w : Int) (g : Nat → Value) : GoesT (evC (tabH Tryd.prog extY conN hcN) 100 false (cSnd (cSnd (dkA Tryd.f18))) ([plnV N p n c P, .pointer (some ⟨2, 0, none⟩), .int .i64 0, .int .i64 w] ++ tl 92 g, hC3 N P p n c x, [cmp false, cmp false, cmp false]) ⟨[], [], []⟩) 3 93 (some none) ([plnV N p n c P, .pointer (some ⟨2, 0, none⟩), .int .i64 0]) (hC3 N P p n c x) [(decide (P < IntKind.i64.wrap (IntKind.i64.wrap (2 * N) - 1)), false), (w != P, false), (decide ((n : Int) > 0), false)] := ⟨by kernel_rfl, by kernel_rfl, by kernel_rfl⟩
theorem dk_10 (x : List Value × TypeId) (p : Option Addr) (n c : Nat) (N P : Int) (g : Nat → Value) : GoesT (evC (tabH Tryd.prog extY conN hcN) 100 false (cFst (dk10 Tryd.f18)) ([plnV N p n c P, .pointer (some ⟨2, 0, none⟩), .int .i64 0] ++ tl 93 g, hC3 N P p n c x, []) ⟨[], [], []⟩) 5 91 none [plnV N p n c P, .pointer (some ⟨2, 0, none⟩), .int .i64 0, g 0, .int .i64 1] (hC3 N P p n c x) [] := ⟨by kernel_rfl, by kernel_rfl, by kernel_rfl⟩
theorem dk_11 (x : List Value × TypeId) (p : Option Addr) (n c : Nat) (N P : Int) (j3 : Value) (g : Nat → Value) : GoesT (evC (tabH Tryd.prog extY conN hcN) 100 false (cFst (cFst (cSnd (dk10 Tryd.f18)))) ([plnV N p n c P, .pointer (some ⟨2, 0, none⟩), .int .i64 0, j3, .int .i64 1] ++ tl 91 g, hC3 N P p n c x, []) ⟨[], [], []⟩) 7 89 none ([plnV N p n c P, .pointer (some ⟨2, 0, none⟩), .int .i64 0, j3, .int .i64 1, .int .i64 0, (g 1)]) (hC3 N P p n c x) [] := ⟨by kernel_rfl, by kernel_rfl, by kernel_rfl⟩
theorem dk_ro (x : List Value × TypeId) (p : Option Addr) (n c : Nat) (N P k i : Int) (j3 j6 : Value) (g : Nat → Value) : GoesT (evC (tabH Tryd.prog extY conN hcN) 100 false (dkL2 Tryd.f18) ([plnV N p n c P, .pointer (some ⟨2, 0, none⟩), .int .i64 0, j3, .int .i64 k, .int .i64 i, j6] ++ tl 89 g, hC3 N P p n c x, [cmp false]) ⟨[], [], []⟩) 7 89 (some (some 2)) ([plnV N p n c P, .pointer (some ⟨2, 0, none⟩), .int .i64 0, j3, .int .i64 k, .int .i64 i, j6]) (hC3 N P p n c x) [(decide (i < n), false)] := ⟨by kernel_rfl, by kernel_rfl, by kernel_rfl⟩
theorem dk_ret (x : List Value × TypeId) (p : Option Addr) (n c : Nat) (N P k i : Int) (j3 j6 : Value) (g : Nat → Value) : GoesT (evC (tabH Tryd.prog extY conN hcN) 100 false (cSnd (cSnd (dk10 Tryd.f18))) ([plnV N p n c P, .pointer (some ⟨2, 0, none⟩), .int .i64 0, j3, .int .i64 k, .int .i64 i, j6] ++ tl 89 g, hC3 N P p n c x, [cmp true]) ⟨[], [], []⟩) 3 93 (some none) ([plnV N p n c P, .pointer (some ⟨2, 0, none⟩), .int .i64 10]) (hC3 N P p n c x) [(k != N, true)] := ⟨by kernel_rfl, by kernel_rfl, by kernel_rfl⟩
theorem dk_ref (x : List Value × TypeId) (p : Option Addr) (n c : Nat) (N P k i : Int) (j3 j6 : Value) (g : Nat → Value) : GoesT (evC (tabH Tryd.prog extY conN hcN) 100 false (cSnd (cSnd (dk10 Tryd.f18))) ([plnV N p n c P, .pointer (some ⟨2, 0, none⟩), .int .i64 0, j3, .int .i64 k, .int .i64 i, j6] ++ tl 89 g, hC3 N P p n c x, [cmp false]) ⟨[], [], []⟩) 3 93 (some none) ([plnV N p n c P, .pointer (some ⟨2, 0, none⟩), .int .i64 0]) (hC3 N P p n c x) [(k != N, false)] := ⟨by kernel_rfl, by kernel_rfl, by kernel_rfl⟩
theorem dk_g2 (o n c : Nat) (N P k i r : Int) (l : List Value) (j3 j6 : Value) (g : Nat → Value) : GoesT (evC (tabH Tryd.prog extY conN hcN) 100 false (dkL2 Tryd.f18) ([plnV N (some ⟨1, o, none⟩) n c P, .pointer (some ⟨2, 0, none⟩), .int .i64 0, j3, .int .i64 k, .int .i64 i, j6] ++ tl 89 g, hC3 N P (some ⟨1, o, none⟩) n c (l, tIR), [cmp true, at_, val (.int .i64 r), cmp false, cmp false]) ⟨[], [], []⟩) 7 89 none ([plnV N (some ⟨1, o, none⟩) n c P, .pointer (some ⟨2, 0, none⟩), .int .i64 0, j3, .int .i64 (IntKind.i64.wrap (k * r)), .int .i64 (IntKind.i64.wrap (i + 1)), (.int .i64 r)]) (hC3 N P (some ⟨1, o, none⟩) n c (l, tIR)) [(decide (k > 16777216), false), (r != 2, false), (cellIs (l[o + i.toNat * 1]?) (.int .i64 r), true), (decide (0 ≤ i ∧ i < n), true), (decide (i < n), true)] := ⟨by kernel_rfl, by kernel_rfl, by kernel_rfl⟩
theorem dk_h2 (o n c : Nat) (N P k i r : Int) (l : List Value) (j3 j6 : Value) (g : Nat → Value) : GoesT (evC (tabH Tryd.prog extY conN hcN) 100 false (dkL2 Tryd.f18) ([plnV N (some ⟨1, o, none⟩) n c P, .pointer (some ⟨2, 0, none⟩), .int .i64 0, j3, .int .i64 k, .int .i64 i, j6] ++ tl 89 g, hC3 N P (some ⟨1, o, none⟩) n c (l, tIR), [cmp true, at_, val (.int .i64 r), cmp false, cmp true]) ⟨[], [], []⟩) 3 93 (some none) ([plnV N (some ⟨1, o, none⟩) n c P, .pointer (some ⟨2, 0, none⟩), .int .i64 10]) (hC3 N P (some ⟨1, o, none⟩) n c (l, tIR)) [(decide (k > 16777216), true), (r != 2, false), (cellIs (l[o + i.toNat * 1]?) (.int .i64 r), true), (decide (0 ≤ i ∧ i < n), true), (decide (i < n), true)] := ⟨by kernel_rfl, by kernel_rfl, by kernel_rfl⟩
theorem dk_g3 (o n c : Nat) (N P k i r : Int) (l : List Value) (j3 j6 : Value) (g : Nat → Value) : GoesT (evC (tabH Tryd.prog extY conN hcN) 100 false (dkL2 Tryd.f18) ([plnV N (some ⟨1, o, none⟩) n c P, .pointer (some ⟨2, 0, none⟩), .int .i64 0, j3, .int .i64 k, .int .i64 i, j6] ++ tl 89 g, hC3 N P (some ⟨1, o, none⟩) n c (l, tIR), [cmp true, at_, val (.int .i64 r), cmp true, cmp false, cmp false]) ⟨[], [], []⟩) 7 89 none ([plnV N (some ⟨1, o, none⟩) n c P, .pointer (some ⟨2, 0, none⟩), .int .i64 0, j3, .int .i64 (IntKind.i64.wrap (k * r)), .int .i64 (IntKind.i64.wrap (i + 1)), (.int .i64 r)]) (hC3 N P (some ⟨1, o, none⟩) n c (l, tIR)) [(decide (k > 16777216), false), (r != 3, false), (r != 2, true), (cellIs (l[o + i.toNat * 1]?) (.int .i64 r), true), (decide (0 ≤ i ∧ i < n), true), (decide (i < n), true)] := ⟨by kernel_rfl, by kernel_rfl, by kernel_rfl⟩
theorem dk_h3 (o n c : Nat) (N P k i r : Int) (l : List Value) (j3 j6 : Value) (g : Nat → Value) : GoesT (evC (tabH Tryd.prog extY conN hcN) 100 false (dkL2 Tryd.f18) ([plnV N (some ⟨1, o, none⟩) n c P, .pointer (some ⟨2, 0, none⟩), .int .i64 0, j3, .int .i64 k, .int .i64 i, j6] ++ tl 89 g, hC3 N P (some ⟨1, o, none⟩) n c (l, tIR), [cmp true, at_, val (.int .i64 r), cmp true, cmp false, cmp true]) ⟨[], [], []⟩) 3 93 (some none) ([plnV N (some ⟨1, o, none⟩) n c P, .pointer (some ⟨2, 0, none⟩), .int .i64 10]) (hC3 N P (some ⟨1, o, none⟩) n c (l, tIR)) [(decide (k > 16777216), true), (r != 3, false), (r != 2, true), (cellIs (l[o + i.toNat * 1]?) (.int .i64 r), true), (decide (0 ≤ i ∧ i < n), true), (decide (i < n), true)] := ⟨by kernel_rfl, by kernel_rfl, by kernel_rfl⟩
theorem dk_g4 (o n c : Nat) (N P k i r : Int) (l : List Value) (j3 j6 : Value) (g : Nat → Value) : GoesT (evC (tabH Tryd.prog extY conN hcN) 100 false (dkL2 Tryd.f18) ([plnV N (some ⟨1, o, none⟩) n c P, .pointer (some ⟨2, 0, none⟩), .int .i64 0, j3, .int .i64 k, .int .i64 i, j6] ++ tl 89 g, hC3 N P (some ⟨1, o, none⟩) n c (l, tIR), [cmp true, at_, val (.int .i64 r), cmp true, cmp true, cmp false, cmp false]) ⟨[], [], []⟩) 7 89 none ([plnV N (some ⟨1, o, none⟩) n c P, .pointer (some ⟨2, 0, none⟩), .int .i64 0, j3, .int .i64 (IntKind.i64.wrap (k * r)), .int .i64 (IntKind.i64.wrap (i + 1)), (.int .i64 r)]) (hC3 N P (some ⟨1, o, none⟩) n c (l, tIR)) [(decide (k > 16777216), false), (r != 4, false), (r != 3, true), (r != 2, true), (cellIs (l[o + i.toNat * 1]?) (.int .i64 r), true), (decide (0 ≤ i ∧ i < n), true), (decide (i < n), true)] := ⟨by kernel_rfl, by kernel_rfl, by kernel_rfl⟩
theorem dk_h4 (o n c : Nat) (N P k i r : Int) (l : List Value) (j3 j6 : Value) (g : Nat → Value) : GoesT (evC (tabH Tryd.prog extY conN hcN) 100 false (dkL2 Tryd.f18) ([plnV N (some ⟨1, o, none⟩) n c P, .pointer (some ⟨2, 0, none⟩), .int .i64 0, j3, .int .i64 k, .int .i64 i, j6] ++ tl 89 g, hC3 N P (some ⟨1, o, none⟩) n c (l, tIR), [cmp true, at_, val (.int .i64 r), cmp true, cmp true, cmp false, cmp true]) ⟨[], [], []⟩) 3 93 (some none) ([plnV N (some ⟨1, o, none⟩) n c P, .pointer (some ⟨2, 0, none⟩), .int .i64 10]) (hC3 N P (some ⟨1, o, none⟩) n c (l, tIR)) [(decide (k > 16777216), true), (r != 4, false), (r != 3, true), (r != 2, true), (cellIs (l[o + i.toNat * 1]?) (.int .i64 r), true), (decide (0 ≤ i ∧ i < n), true), (decide (i < n), true)] := ⟨by kernel_rfl, by kernel_rfl, by kernel_rfl⟩
theorem dk_g5 (o n c : Nat) (N P k i r : Int) (l : List Value) (j3 j6 : Value) (g : Nat → Value) : GoesT (evC (tabH Tryd.prog extY conN hcN) 100 false (dkL2 Tryd.f18) ([plnV N (some ⟨1, o, none⟩) n c P, .pointer (some ⟨2, 0, none⟩), .int .i64 0, j3, .int .i64 k, .int .i64 i, j6] ++ tl 89 g, hC3 N P (some ⟨1, o, none⟩) n c (l, tIR), [cmp true, at_, val (.int .i64 r), cmp true, cmp true, cmp true, cmp false, cmp false]) ⟨[], [], []⟩) 7 89 none ([plnV N (some ⟨1, o, none⟩) n c P, .pointer (some ⟨2, 0, none⟩), .int .i64 0, j3, .int .i64 (IntKind.i64.wrap (k * r)), .int .i64 (IntKind.i64.wrap (i + 1)), (.int .i64 r)]) (hC3 N P (some ⟨1, o, none⟩) n c (l, tIR)) [(decide (k > 16777216), false), (r != 5, false), (r != 4, true), (r != 3, true), (r != 2, true), (cellIs (l[o + i.toNat * 1]?) (.int .i64 r), true), (decide (0 ≤ i ∧ i < n), true), (decide (i < n), true)] := ⟨by kernel_rfl, by kernel_rfl, by kernel_rfl⟩
theorem dk_h5 (o n c : Nat) (N P k i r : Int) (l : List Value) (j3 j6 : Value) (g : Nat → Value) : GoesT (evC (tabH Tryd.prog extY conN hcN) 100 false (dkL2 Tryd.f18) ([plnV N (some ⟨1, o, none⟩) n c P, .pointer (some ⟨2, 0, none⟩), .int .i64 0, j3, .int .i64 k, .int .i64 i, j6] ++ tl 89 g, hC3 N P (some ⟨1, o, none⟩) n c (l, tIR), [cmp true, at_, val (.int .i64 r), cmp true, cmp true, cmp true, cmp false, cmp true]) ⟨[], [], []⟩) 3 93 (some none) ([plnV N (some ⟨1, o, none⟩) n c P, .pointer (some ⟨2, 0, none⟩), .int .i64 10]) (hC3 N P (some ⟨1, o, none⟩) n c (l, tIR)) [(decide (k > 16777216), true), (r != 5, false), (r != 4, true), (r != 3, true), (r != 2, true), (cellIs (l[o + i.toNat * 1]?) (.int .i64 r), true), (decide (0 ≤ i ∧ i < n), true), (decide (i < n), true)] := ⟨by kernel_rfl, by kernel_rfl, by kernel_rfl⟩
theorem dk_g7 (o n c : Nat) (N P k i r : Int) (l : List Value) (j3 j6 : Value) (g : Nat → Value) : GoesT (evC (tabH Tryd.prog extY conN hcN) 100 false (dkL2 Tryd.f18) ([plnV N (some ⟨1, o, none⟩) n c P, .pointer (some ⟨2, 0, none⟩), .int .i64 0, j3, .int .i64 k, .int .i64 i, j6] ++ tl 89 g, hC3 N P (some ⟨1, o, none⟩) n c (l, tIR), [cmp true, at_, val (.int .i64 r), cmp true, cmp true, cmp true, cmp true, cmp false, cmp false]) ⟨[], [], []⟩) 7 89 none ([plnV N (some ⟨1, o, none⟩) n c P, .pointer (some ⟨2, 0, none⟩), .int .i64 0, j3, .int .i64 (IntKind.i64.wrap (k * r)), .int .i64 (IntKind.i64.wrap (i + 1)), (.int .i64 r)]) (hC3 N P (some ⟨1, o, none⟩) n c (l, tIR)) [(decide (k > 16777216), false), (r != 7, false), (r != 5, true), (r != 4, true), (r != 3, true), (r != 2, true), (cellIs (l[o + i.toNat * 1]?) (.int .i64 r), true), (decide (0 ≤ i ∧ i < n), true), (decide (i < n), true)] := ⟨by kernel_rfl, by kernel_rfl, by kernel_rfl⟩
theorem dk_h7 (o n c : Nat) (N P k i r : Int) (l : List Value) (j3 j6 : Value) (g : Nat → Value) : GoesT (evC (tabH Tryd.prog extY conN hcN) 100 false (dkL2 Tryd.f18) ([plnV N (some ⟨1, o, none⟩) n c P, .pointer (some ⟨2, 0, none⟩), .int .i64 0, j3, .int .i64 k, .int .i64 i, j6] ++ tl 89 g, hC3 N P (some ⟨1, o, none⟩) n c (l, tIR), [cmp true, at_, val (.int .i64 r), cmp true, cmp true, cmp true, cmp true, cmp false, cmp true]) ⟨[], [], []⟩) 3 93 (some none) ([plnV N (some ⟨1, o, none⟩) n c P, .pointer (some ⟨2, 0, none⟩), .int .i64 10]) (hC3 N P (some ⟨1, o, none⟩) n c (l, tIR)) [(decide (k > 16777216), true), (r != 7, false), (r != 5, true), (r != 4, true), (r != 3, true), (r != 2, true), (cellIs (l[o + i.toNat * 1]?) (.int .i64 r), true), (decide (0 ≤ i ∧ i < n), true), (decide (i < n), true)] := ⟨by kernel_rfl, by kernel_rfl, by kernel_rfl⟩
theorem dk_g11 (o n c : Nat) (N P k i r : Int) (l : List Value) (j3 j6 : Value) (g : Nat → Value) : GoesT (evC (tabH Tryd.prog extY conN hcN) 100 false (dkL2 Tryd.f18) ([plnV N (some ⟨1, o, none⟩) n c P, .pointer (some ⟨2, 0, none⟩), .int .i64 0, j3, .int .i64 k, .int .i64 i, j6] ++ tl 89 g, hC3 N P (some ⟨1, o, none⟩) n c (l, tIR), [cmp true, at_, val (.int .i64 r), cmp true, cmp true, cmp true, cmp true, cmp true, cmp false, cmp false]) ⟨[], [], []⟩) 7 89 none ([plnV N (some ⟨1, o, none⟩) n c P, .pointer (some ⟨2, 0, none⟩), .int .i64 0, j3, .int .i64 (IntKind.i64.wrap (k * r)), .int .i64 (IntKind.i64.wrap (i + 1)), (.int .i64 r)]) (hC3 N P (some ⟨1, o, none⟩) n c (l, tIR)) [(decide (k > 16777216), false), (r != 11, false), (r != 7, true), (r != 5, true), (r != 4, true), (r != 3, true), (r != 2, true), (cellIs (l[o + i.toNat * 1]?) (.int .i64 r), true), (decide (0 ≤ i ∧ i < n), true), (decide (i < n), true)] := ⟨by kernel_rfl, by kernel_rfl, by kernel_rfl⟩
theorem dk_h11 (o n c : Nat) (N P k i r : Int) (l : List Value) (j3 j6 : Value) (g : Nat → Value) : GoesT (evC (tabH Tryd.prog extY conN hcN) 100 false (dkL2 Tryd.f18) ([plnV N (some ⟨1, o, none⟩) n c P, .pointer (some ⟨2, 0, none⟩), .int .i64 0, j3, .int .i64 k, .int .i64 i, j6] ++ tl 89 g, hC3 N P (some ⟨1, o, none⟩) n c (l, tIR), [cmp true, at_, val (.int .i64 r), cmp true, cmp true, cmp true, cmp true, cmp true, cmp false, cmp true]) ⟨[], [], []⟩) 3 93 (some none) ([plnV N (some ⟨1, o, none⟩) n c P, .pointer (some ⟨2, 0, none⟩), .int .i64 10]) (hC3 N P (some ⟨1, o, none⟩) n c (l, tIR)) [(decide (k > 16777216), true), (r != 11, false), (r != 7, true), (r != 5, true), (r != 4, true), (r != 3, true), (r != 2, true), (cellIs (l[o + i.toNat * 1]?) (.int .i64 r), true), (decide (0 ≤ i ∧ i < n), true), (decide (i < n), true)] := ⟨by kernel_rfl, by kernel_rfl, by kernel_rfl⟩
theorem dk_g13 (o n c : Nat) (N P k i r : Int) (l : List Value) (j3 j6 : Value) (g : Nat → Value) : GoesT (evC (tabH Tryd.prog extY conN hcN) 100 false (dkL2 Tryd.f18) ([plnV N (some ⟨1, o, none⟩) n c P, .pointer (some ⟨2, 0, none⟩), .int .i64 0, j3, .int .i64 k, .int .i64 i, j6] ++ tl 89 g, hC3 N P (some ⟨1, o, none⟩) n c (l, tIR), [cmp true, at_, val (.int .i64 r), cmp true, cmp true, cmp true, cmp true, cmp true, cmp true, cmp false, cmp false]) ⟨[], [], []⟩) 7 89 none ([plnV N (some ⟨1, o, none⟩) n c P, .pointer (some ⟨2, 0, none⟩), .int .i64 0, j3, .int .i64 (IntKind.i64.wrap (k * r)), .int .i64 (IntKind.i64.wrap (i + 1)), (.int .i64 r)]) (hC3 N P (some ⟨1, o, none⟩) n c (l, tIR)) [(decide (k > 16777216), false), (r != 13, false), (r != 11, true), (r != 7, true), (r != 5, true), (r != 4, true), (r != 3, true), (r != 2, true), (cellIs (l[o + i.toNat * 1]?) (.int .i64 r), true), (decide (0 ≤ i ∧ i < n), true), (decide (i < n), true)] := ⟨by kernel_rfl, by kernel_rfl, by kernel_rfl⟩
theorem dk_h13 (o n c : Nat) (N P k i r : Int) (l : List Value) (j3 j6 : Value) (g : Nat → Value) : GoesT (evC (tabH Tryd.prog extY conN hcN) 100 false (dkL2 Tryd.f18) ([plnV N (some ⟨1, o, none⟩) n c P, .pointer (some ⟨2, 0, none⟩), .int .i64 0, j3, .int .i64 k, .int .i64 i, j6] ++ tl 89 g, hC3 N P (some ⟨1, o, none⟩) n c (l, tIR), [cmp true, at_, val (.int .i64 r), cmp true, cmp true, cmp true, cmp true, cmp true, cmp true, cmp false, cmp true]) ⟨[], [], []⟩) 3 93 (some none) ([plnV N (some ⟨1, o, none⟩) n c P, .pointer (some ⟨2, 0, none⟩), .int .i64 10]) (hC3 N P (some ⟨1, o, none⟩) n c (l, tIR)) [(decide (k > 16777216), true), (r != 13, false), (r != 11, true), (r != 7, true), (r != 5, true), (r != 4, true), (r != 3, true), (r != 2, true), (cellIs (l[o + i.toNat * 1]?) (.int .i64 r), true), (decide (0 ≤ i ∧ i < n), true), (decide (i < n), true)] := ⟨by kernel_rfl, by kernel_rfl, by kernel_rfl⟩
theorem dk_rn (o n c : Nat) (N P k i r : Int) (l : List Value) (j3 j6 : Value) (g : Nat → Value) : GoesT (evC (tabH Tryd.prog extY conN hcN) 100 false (dkL2 Tryd.f18) ([plnV N (some ⟨1, o, none⟩) n c P, .pointer (some ⟨2, 0, none⟩), .int .i64 0, j3, .int .i64 k, .int .i64 i, j6] ++ tl 89 g, hC3 N P (some ⟨1, o, none⟩) n c (l, tIR), [cmp true, at_, val (.int .i64 r), cmp true, cmp true, cmp true, cmp true, cmp true, cmp true, cmp true]) ⟨[], [], []⟩) 3 93 (some none) ([plnV N (some ⟨1, o, none⟩) n c P, .pointer (some ⟨2, 0, none⟩), .int .i64 10]) (hC3 N P (some ⟨1, o, none⟩) n c (l, tIR)) [(r != 13, true), (r != 11, true), (r != 7, true), (r != 5, true), (r != 4, true), (r != 3, true), (r != 2, true), (cellIs (l[o + i.toNat * 1]?) (.int .i64 r), true), (decide (0 ≤ i ∧ i < n), true), (decide (i < n), true)] := ⟨by kernel_rfl, by kernel_rfl, by kernel_rfl⟩
/-- what it ends in -/
def dkY (d : Bool) : Lf → Prop := fun y => resS Tryd.prog Tryd.f18 y.1 y.2.1 = some (.int .i64 (if d = true then 0 else 10))
theorem dk_go19 {r : Int} (hr : isR r = true) (o n c : Nat) (N P k i : Int) (l : List Value) (hc : cellIs (l[o + i.toNat * 1]?) (.int .i64 r) = true) (hi : 0 ≤ i ∧ i < n) (hk : ¬ k > 16777216) (j3 j6 : Value) (s : List Dec) (g : Nat → Value) :
    RunsW (tabH Tryd.prog extY conN hcN) (dkL2 Tryd.f18) ([plnV N (some ⟨1, o, none⟩) n c P, .pointer (some ⟨2, 0, none⟩), .int .i64 0, j3, .int .i64 k, .int .i64 i, j6] ++ tl 89 g, hC3 N P (some ⟨1, o, none⟩) n c (l, tIR), s) fun e y => e = none ∧ (∃ g, y.1 = [plnV N (some ⟨1, o, none⟩) n c P, .pointer (some ⟨2, 0, none⟩), .int .i64 0, j3, .int .i64 (IntKind.i64.wrap (k * r)), .int .i64 (IntKind.i64.wrap (i + 1)), (.int .i64 r)] ++ tl 89 g) ∧ y.2.1 = (hC3 N P (some ⟨1, o, none⟩) n c (l, tIR)) := by
  have a1 : decide (k > 16777216) = false := decide_eq_false hk
  have a2 : decide (0 ≤ i ∧ i < (n : Int)) = true := decide_eq_true hi
  have a3 : decide (i < (n : Int)) = true := decide_eq_true hi.2
  rcases isR_is hr with rfl | rfl | rfl | rfl | rfl | rfl | rfl
  · exact goesT_runsW T0_ok (dk_g4 o n c N P k i 4 l j3 j6 g) (okTwo a1 (okTwo (by decide) (okTwo (by decide) (okTwo (by decide) (okTwo hc (okTwo a2 (okOne a3)))))))
  · exact goesT_runsW T0_ok (dk_g2 o n c N P k i 2 l j3 j6 g) (okTwo a1 (okTwo (by decide) (okTwo hc (okTwo a2 (okOne a3)))))
  · exact goesT_runsW T0_ok (dk_g3 o n c N P k i 3 l j3 j6 g) (okTwo a1 (okTwo (by decide) (okTwo (by decide) (okTwo hc (okTwo a2 (okOne a3))))))
  · exact goesT_runsW T0_ok (dk_g5 o n c N P k i 5 l j3 j6 g) (okTwo a1 (okTwo (by decide) (okTwo (by decide) (okTwo (by decide) (okTwo (by decide) (okTwo hc (okTwo a2 (okOne a3))))))))
  · exact goesT_runsW T0_ok (dk_g7 o n c N P k i 7 l j3 j6 g) (okTwo a1 (okTwo (by decide) (okTwo (by decide) (okTwo (by decide) (okTwo (by decide) (okTwo (by decide) (okTwo hc (okTwo a2 (okOne a3)))))))))
  · exact goesT_runsW T0_ok (dk_g11 o n c N P k i 11 l j3 j6 g) (okTwo a1 (okTwo (by decide) (okTwo (by decide) (okTwo (by decide) (okTwo (by decide) (okTwo (by decide) (okTwo (by decide) (okTwo hc (okTwo a2 (okOne a3))))))))))
  · exact goesT_runsW T0_ok (dk_g13 o n c N P k i 13 l j3 j6 g) (okTwo a1 (okTwo (by decide) (okTwo (by decide) (okTwo (by decide) (okTwo (by decide) (okTwo (by decide) (okTwo (by decide) (okTwo (by decide) (okTwo hc (okTwo a2 (okOne a3)))))))))))
theorem dk_big {r : Int} (hr : isR r = true) (o n c : Nat) (N P k i : Int) (l : List Value) (hc : cellIs (l[o + i.toNat * 1]?) (.int .i64 r) = true) (hi : 0 ≤ i ∧ i < n) (hk : k > 16777216) (j3 j6 : Value) (s : List Dec) (g : Nat → Value) :
    RunsW (tabH Tryd.prog extY conN hcN) (dkL2 Tryd.f18) ([plnV N (some ⟨1, o, none⟩) n c P, .pointer (some ⟨2, 0, none⟩), .int .i64 0, j3, .int .i64 k, .int .i64 i, j6] ++ tl 89 g, hC3 N P (some ⟨1, o, none⟩) n c (l, tIR), s) fun e y => e = some none ∧ dkY false y := by
  have a1 : decide (k > 16777216) = true := decide_eq_true hk
  have a2 : decide (0 ≤ i ∧ i < (n : Int)) = true := decide_eq_true hi
  have a3 : decide (i < (n : Int)) = true := decide_eq_true hi.2
  rcases isR_is hr with rfl | rfl | rfl | rfl | rfl | rfl | rfl
  · exact RunsW.ends T0_ok (dk_h4 o n c N P k i 4 l j3 j6 g) (okTwo a1 (okTwo (by decide) (okTwo (by decide) (okTwo (by decide) (okTwo hc (okTwo a2 (okOne a3))))))) fun g s => ⟨rfl, rfl⟩
  · exact RunsW.ends T0_ok (dk_h2 o n c N P k i 2 l j3 j6 g) (okTwo a1 (okTwo (by decide) (okTwo hc (okTwo a2 (okOne a3))))) fun g s => ⟨rfl, rfl⟩
  · exact RunsW.ends T0_ok (dk_h3 o n c N P k i 3 l j3 j6 g) (okTwo a1 (okTwo (by decide) (okTwo (by decide) (okTwo hc (okTwo a2 (okOne a3)))))) fun g s => ⟨rfl, rfl⟩
  · exact RunsW.ends T0_ok (dk_h5 o n c N P k i 5 l j3 j6 g) (okTwo a1 (okTwo (by decide) (okTwo (by decide) (okTwo (by decide) (okTwo (by decide) (okTwo hc (okTwo a2 (okOne a3)))))))) fun g s => ⟨rfl, rfl⟩
  · exact RunsW.ends T0_ok (dk_h7 o n c N P k i 7 l j3 j6 g) (okTwo a1 (okTwo (by decide) (okTwo (by decide) (okTwo (by decide) (okTwo (by decide) (okTwo (by decide) (okTwo hc (okTwo a2 (okOne a3))))))))) fun g s => ⟨rfl, rfl⟩
  · exact RunsW.ends T0_ok (dk_h11 o n c N P k i 11 l j3 j6 g) (okTwo a1 (okTwo (by decide) (okTwo (by decide) (okTwo (by decide) (okTwo (by decide) (okTwo (by decide) (okTwo (by decide) (okTwo hc (okTwo a2 (okOne a3)))))))))) fun g s => ⟨rfl, rfl⟩
  · exact RunsW.ends T0_ok (dk_h13 o n c N P k i 13 l j3 j6 g) (okTwo a1 (okTwo (by decide) (okTwo (by decide) (okTwo (by decide) (okTwo (by decide) (okTwo (by decide) (okTwo (by decide) (okTwo (by decide) (okTwo hc (okTwo a2 (okOne a3))))))))))) fun g s => ⟨rfl, rfl⟩
theorem dk_none {r : Int} (hr : isR r = false) (o n c : Nat) (N P k i : Int) (l : List Value) (hc : cellIs (l[o + i.toNat * 1]?) (.int .i64 r) = true) (hi : 0 ≤ i ∧ i < n) (j3 j6 : Value) (s : List Dec) (g : Nat → Value) :
    RunsW (tabH Tryd.prog extY conN hcN) (dkL2 Tryd.f18) ([plnV N (some ⟨1, o, none⟩) n c P, .pointer (some ⟨2, 0, none⟩), .int .i64 0, j3, .int .i64 k, .int .i64 i, j6] ++ tl 89 g, hC3 N P (some ⟨1, o, none⟩) n c (l, tIR), s) fun e y => e = some none ∧ dkY false y := by
  have a2 : decide (0 ≤ i ∧ i < (n : Int)) = true := decide_eq_true hi
  have a3 : decide (i < (n : Int)) = true := decide_eq_true hi.2
  have h := of_decide_eq_false hr
  exact RunsW.ends T0_ok (dk_rn o n c N P k i r l j3 j6 g) (okTwo (bne_iff_ne.2 (by omega)) (okTwo (bne_iff_ne.2 (by omega)) (okTwo (bne_iff_ne.2 (by omega)) (okTwo (bne_iff_ne.2 (by omega)) (okTwo (bne_iff_ne.2 (by omega)) (okTwo (bne_iff_ne.2 (by omega)) (okTwo (bne_iff_ne.2 (by omega)) (okTwo hc (okTwo a2 (okOne a3)))))))))) fun g s => ⟨rfl, rfl⟩
theorem dk_parts {x : List Value × TypeId} {p : Option Addr} {n : Nat} {L : List Int} (hR : RowAt 1 x p n L) (c : Nat) {N : Int} (hN : 1 ≤ N ∧ N ≤ 16777216) (P : Int) (g : Nat → Value) :
    RunsW (tabH Tryd.prog extY conN hcN) (dkBB Tryd.f18) ([plnV N p n c P, .pointer (some ⟨2, 0, none⟩), .int .i64 0] ++ tl 93 g, hC3 N P p n c x, []) fun e y => e = some none ∧ dkY (prG 1 L == N) y := by
  obtain ⟨l, ty⟩ := x
  have hlen := hR.len
  have hbig := hR.big
  have fin : ∀ k : Option Int, dcG 1 L = k → (prG 1 L == N) = decide (k = some N) := fun k hk => by
    have := dcG_prG hN L 1 (by decide) (by decide)
    rw [hk] at this
    by_cases c : k = some N
    · rw [decide_eq_true c, this.1 c]; exact beq_self_eq_true N
    · rw [decide_eq_false c]; exact beq_eq_false_iff_ne.2 fun h => c (this.2 h)
  refine RunsW.goes T0_ok (dk_10 (l, ty) p n c N P g) ok19 fun g => ?_
  refine RunsW.seq (RunsW.goes T0_ok (dk_11 (l, ty) p n c N P _ g) ok19 fun g => RunsW.forLoop (P := fun y => ∃ k, dcG 1 L = some k ∧ (∃ j3 j6 i g, y.1 = [plnV N p n c P, .pointer (some ⟨2, 0, none⟩), .int .i64 0, j3, .int .i64 k, .int .i64 i, j6] ++ tl 89 g) ∧ y.2.1 = hC3 N P p n c (l, ty)) (R := fun y => dkY (prG 1 L == N) y) (fun z y => ∃ (i : Nat) (k : Int), z = n - i ∧ i ≤ n ∧ 0 < k ∧ k ≤ 218103808 ∧ dcG k (L.drop i) = dcG 1 L ∧ (∃ j3 j6 g, y.1 = [plnV N p n c P, .pointer (some ⟨2, 0, none⟩), .int .i64 0, j3, .int .i64 k, .int .i64 (i : Nat), j6] ++ tl 89 g) ∧ y.2.1 = hC3 N P p n c (l, ty)) ?_ (n := n) ⟨0, 1, rfl, Nat.zero_le _, by decide, by decide, rfl, ⟨_, _, g, rfl⟩, rfl⟩) ?_ ?_
  · rintro z ⟨t, h', s⟩ ⟨i, k, rfl, hi, hk0, hk1, hp, ⟨j3, j6, g, ht⟩, hh⟩
    simp only at ht hh
    subst ht hh
    by_cases hin : i = n
    · refine RunsW.ends T0_ok (dk_ro (l, ty) p n c N P k i j3 j6 g) (okOne (decide_eq_false (by omega))) fun g' s' => ⟨rfl, k, ?_, ⟨j3, j6, i, g', rfl⟩, rfl⟩
      have : L.drop i = [] := List.drop_eq_nil_of_le (by omega)
      rw [this] at hp
      rw [← hp]
      rfl
    · have hlt : i < n := by omega
      rcases hR.pos with ⟨_, h0⟩ | ⟨o, rfl, hty, hcell⟩
      · omega
      simp only at hty hcell
      subst hty
      have hc := cellIs_of (hcell i hlt)
      rw [drop_cons (L := L) (i := i) (by omega)] at hp
      generalize L.getD i 0 = r at *
      have hdi : 0 ≤ (i : Int) ∧ (i : Int) < (n : Int) := by omega
      have hwi : IntKind.i64.wrap ((i : Int) + 1) = ((i + 1 : Nat) : Int) := by rw [wrapI (by omega) (by omega)]; omega
      have ep : dcG k (r :: L.drop (i + 1)) = if isR r = true then (if k > 16777216 then none else dcG (k * r) (L.drop (i + 1))) else none := rfl
      rw [ep] at hp
      by_cases hr : isR r = true
      · rw [if_pos hr] at hp
        by_cases hb : k > 16777216
        · rw [if_pos hb] at hp
          refine (dk_big hr o n c N P k i l hc hdi hb j3 j6 s g).mono fun e y hy => ?_
          obtain ⟨rfl, hy⟩ := hy
          show dkY _ y
          rw [fin none hp.symm]
          exact hy
        · rw [if_neg hb] at hp
          have hr2 : 2 ≤ r ∧ r ≤ 13 := by rcases isR_is hr with rfl | rfl | rfl | rfl | rfl | rfl | rfl <;> decide
          have m1 : 0 < k * r := Int.mul_pos hk0 (by omega)
          have m2 : k * r ≤ 16777216 * 13 := Int.mul_le_mul (by omega) hr2.2 (by omega) (by decide)
          have hb := dk_go19 hr o n c N P k i l hc hdi hb j3 j6 s g
          rw [wrapI (n := k * r) (by omega) (by omega), hwi] at hb
          refine hb.mono fun e y hy => ?_
          obtain ⟨rfl, ⟨g', y1⟩, y2⟩ := hy
          exact ⟨n - (i + 1), by omega, i + 1, k * r, rfl, by omega, m1, by omega, hp, ⟨j3, _, g', y1⟩, y2⟩
      · have hr' : isR r = false := by simpa using hr
        rw [if_neg hr] at hp
        refine (dk_none hr' o n c N P k i l hc hdi j3 j6 s g).mono fun e y hy => ?_
        obtain ⟨rfl, hy⟩ := hy
        show dkY _ y
        rw [fin none hp.symm]
        exact hy
  · rintro ⟨t, h', s⟩ ⟨k, hk, ⟨j3, j6, i, g, ht⟩, hh⟩
    simp only at ht hh
    subst ht hh
    rw [fin _ hk]
    by_cases e : k = N
    · rw [decide_eq_true (by rw [e])]
      exact RunsW.ends T0_ok (dk_ref (l, ty) p n c N P k i j3 j6 g) (okOne (by simpa using e)) fun g s' => ⟨rfl, rfl⟩
    · rw [decide_eq_false (fun h => e (Option.some.inj h))]
      exact RunsW.ends T0_ok (dk_ret (l, ty) p n c N P k i j3 j6 g) (okOne (bne_iff_ne.2 e)) fun g s' => ⟨rfl, rfl⟩
  · intro e y he
    match e, he with
    | none, he => exact ⟨rfl, he⟩
theorem dk_padded (x : List Value × TypeId) (p : Option Addr) (n c : Nat) {N : Int} (hN : 1 ≤ N ∧ N ≤ 16777216) (P : Int) (g : Nat → Value) :
    RunsW (tabH Tryd.prog extY conN hcN) (dkAA Tryd.f18) ([plnV N p n c P, .pointer (some ⟨2, 0, none⟩), .int .i64 0] ++ tl 93 g, hC3 N P p n c x, []) fun e y => e = some none ∧ dkY (gpB N P n) y := by
  have w2 : IntKind.i64.wrap (IntKind.i64.wrap (2 * N) - 1) = 2 * N - 1 := by rw [wrapI (n := 2 * N) (by omega) (by omega), wrapI (by omega) (by omega)]
  refine RunsW.goes T0_ok (dk_4 x p n c N P g) ok19 fun g => ?_
  refine RunsW.seq (P1 := fun e y => match e with | none => (∃ g, y.1 = [plnV N p n c P, .pointer (some ⟨2, 0, none⟩), .int .i64 0, .int .i64 (ppK P : Nat)] ++ tl 92 g) ∧ y.2.1 = hC3 N P p n c x | some none => False | some (some _) => False)
    (RunsW.forLoop (P := fun y => (∃ g, y.1 = [plnV N p n c P, .pointer (some ⟨2, 0, none⟩), .int .i64 0, .int .i64 (ppK P : Nat)] ++ tl 92 g) ∧ y.2.1 = hC3 N P p n c x) (R := fun _ => False) (fun z y => ∃ j q : Nat, q = 2 ^ j ∧ j + z = 26 ∧ ppN z q P = ppK P ∧ (∃ g, y.1 = [plnV N p n c P, .pointer (some ⟨2, 0, none⟩), .int .i64 0, .int .i64 (q : Nat)] ++ tl 92 g) ∧ y.2.1 = hC3 N P p n c x) ?_ (n := 26) ⟨0, 1, rfl, rfl, rfl, ⟨g, rfl⟩, rfl⟩) ?_ ?_
  · rintro z ⟨t, h', s⟩ ⟨j, q, hq, hj, he, ⟨g, h1⟩, h2⟩
    simp only at h1 h2
    subst h1 h2
    have hq26 : q ≤ 67108864 := by
      have : 2 ^ j ≤ 2 ^ 26 := Nat.pow_le_pow_right (by decide) (by omega)
      rw [hq]
      exact this
    have stay : ¬ ((q : Int) < P ∧ q < 67108864) → ppN z q P = q := fun h => by
      cases z with
      | zero => rfl
      | succ z => show (if (q : Int) < P ∧ q < 67108864 then ppN z (2 * q) P else q) = q; rw [if_neg h]
    by_cases c1 : (q : Int) < P
    · by_cases c2 : q < 67108864
      · cases z with
        | zero =>
          have : j = 26 := by omega
          subst this
          rw [hq] at c2
          exact absurd c2 (by decide)
        | succ z =>
          have e : ppN (z + 1) q P = ppN z (2 * q) P := by
            show (if (q : Int) < P ∧ q < 67108864 then ppN z (2 * q) P else q) = _
            rw [if_pos ⟨c1, c2⟩]
          rw [e] at he
          have hG := dk_go x p n c N P (q : Nat) g
          rw [show IntKind.i64.wrap (2 * (q : Int)) = ((2 * q : Nat) : Int) from by rw [wrapI (by omega) (by omega)]; omega] at hG
          have c3 : decide ((q : Int) < 67108864) = true := decide_eq_true (Int.ofNat_lt.2 c2)
          have hlog : okLog [(decide ((q : Int) < 67108864), true), (decide ((q : Int) < P), true)] := by
            rw [c3, decide_eq_true c1]
            exact okTwo rfl (okOne rfl)
          exact RunsW.ends T0_ok hG hlog fun g s' => ⟨z, by omega, j + 1, 2 * q, by rw [hq, Nat.pow_succ, Nat.mul_comm], by omega, he, ⟨g, rfl⟩, rfl⟩
      · have e := stay (fun h => c2 h.2)
        rw [e] at he
        have c3 : decide ((q : Int) < 67108864) = false := decide_eq_false (fun h => c2 (Int.ofNat_lt.1 h))
        have hlog : okLog [(decide ((q : Int) < 67108864), false), (decide ((q : Int) < P), true)] := by
          rw [c3, decide_eq_true c1]
          exact okTwo rfl (okOne rfl)
        exact RunsW.ends T0_ok (dk_o2 x p n c N P (q : Nat) g) hlog fun g s' => ⟨rfl, ⟨g, by rw [← he]⟩, rfl⟩
    · have e := stay (fun h => c1 h.1)
      rw [e] at he
      exact RunsW.ends T0_ok (dk_o1 x p n c N P (q : Nat) g) (okOne (decide_eq_false c1)) fun g s' => ⟨rfl, ⟨g, by rw [← he]⟩, rfl⟩
  · rintro ⟨t, h', s⟩ ⟨⟨g, h1⟩, h2⟩
    simp only at h1 h2
    subst h1 h2
    have gp : gpB N P n = ((pwB P == 0) && (((n : Int) == 0) && (decide (P ≥ 2 * N - 1) && decide (P ≤ 67108864)))) := by unfold gpB; rw [w2]
    rw [gp]
    by_cases c1 : n = 0
    · have d1 : decide ((n : Int) > 0) = false := decide_eq_false (by omega)
      have n0 : ((n : Int) == 0) = true := by rw [c1]; rfl
      rw [n0, Bool.true_and]
      by_cases c3 : P < 2 * N - 1
      · have e3 : decide (P ≥ 2 * N - 1) = false := decide_eq_false (by omega)
        rw [e3, Bool.false_and, Bool.and_false]
        by_cases c2 : ((ppK P : Nat) : Int) = P
        · exact RunsW.ends T0_ok (dk_73 x p n c N P (ppK P : Nat) g) (okTwo (by rw [w2]; exact decide_eq_true c3) (okTwo (by simpa using c2) (okOne d1))) fun g s' => ⟨rfl, rfl⟩
        · exact RunsW.ends T0_ok (dk_72 x p n c N P (ppK P : Nat) g) (okTwo (bne_iff_ne.2 c2) (okOne d1)) fun g s' => ⟨rfl, rfl⟩
      · have e3 : decide (P ≥ 2 * N - 1) = true := decide_eq_true (by omega)
        have hif := pp_iff (P := P) (by omega)
        rw [e3, Bool.true_and]
        by_cases c2 : ((ppK P : Nat) : Int) = P
        · obtain ⟨k1, k2⟩ := hif.1 c2
          rw [k1, decide_eq_true k2]
          exact RunsW.ends T0_ok (dk_74 x p n c N P (ppK P : Nat) g) (okTwo (by rw [w2]; exact decide_eq_false c3) (okTwo (by simpa using c2) (okOne d1))) fun g s' => ⟨rfl, rfl⟩
        · have : ((pwB P == 0) && decide (P ≤ 67108864)) = false := by
            cases h1 : (pwB P == 0) with
            | false => rfl
            | true =>
              rw [Bool.true_and]
              exact decide_eq_false fun h2 => c2 (hif.2 ⟨h1, h2⟩)
          rw [this]
          exact RunsW.ends T0_ok (dk_72 x p n c N P (ppK P : Nat) g) (okTwo (bne_iff_ne.2 c2) (okOne d1)) fun g s' => ⟨rfl, rfl⟩
    · have n0 : ((n : Int) == 0) = false := beq_eq_false_iff_ne.2 (by omega)
      rw [n0, Bool.false_and, Bool.and_false]
      exact RunsW.ends T0_ok (dk_71 x p n c N P (ppK P : Nat) g) (okOne (decide_eq_true (by omega))) fun g s' => ⟨rfl, rfl⟩
  · intro e y he
    match e, he with
    | none, he => exact absurd he (by simp)
theorem dk_runs {x : List Value × TypeId} {p : Option Addr} {n : Nat} {L : List Int} (hR : RowAt 1 x p n L) (c : Nat) {N : Int} (hN : 1 ≤ N ∧ N ≤ 16777216) (P : Int) :
    RunsW (tabH Tryd.prog extY conN hcN) (dkAll Tryd.f18) ([plnV N p n c P] ++ List.replicate (Tryd.f18.ntmps - [plnV N p n c P].length) undef, hTR x, []) fun e y => (e = none ∨ e = some none) ∧ dkY (ckB N P L) y := by
  have e1 : decide (N < 1) = false := decide_eq_false (by omega)
  have e2 : decide (N > 16777216) = false := decide_eq_false (by omega)
  have w2 : IntKind.i64.wrap (IntKind.i64.wrap (2 * N) - 1) = 2 * N - 1 := by rw [wrapI (n := 2 * N) (by omega) (by omega), wrapI (by omega) (by omega)]
  refine RunsW.goes T0_ok (dk_0 x p n c N P) ok19 fun g => RunsW.goes T0_ok (dk_1 x p n c N P g) (okTwo e2 (okOne e1)) fun g => ?_
  have ck : ckB N P L = (gbB N P L || gpB N P n) := by unfold ckB; rw [e1, e2, hR.len]; rfl
  rw [ck]
  by_cases hP : P = 0
  · subst hP
    have : gpB N 0 n = false := by
      unfold gpB
      rw [w2, decide_eq_false (show ¬ ((0 : Int) ≥ 2 * N - 1) by omega)]
      simp
    rw [this, Bool.or_false]
    refine RunsW.goes T0_ok (dk_3f x p n c N 0 g) (okOne rfl) fun g => ?_
    exact (dk_parts hR c hN 0 g).mono fun e y hy => ⟨.inr hy.1, hy.2⟩
  · have : gbB N P L = false := by
      unfold gbB
      rw [beq_eq_false_iff_ne.2 hP, Bool.false_and]
    rw [this, Bool.false_or]
    refine RunsW.seq (P1 := fun e y => e = some none ∧ dkY (gpB N P n) y) ?_ (fun y hy => by cases hy.1) (fun e y hy => ⟨.inr hy.1, hy.2⟩)
    refine RunsW.goes T0_ok (dk_3t x p n c N P g) (okOne (bne_iff_ne.2 hP)) fun g2 => ?_
    have h3 : RunsW (tabH Tryd.prog extY conN hcN) (dkAA Tryd.f18) ((([plnV N p n c P, .pointer (some ⟨2, 0, none⟩), .int .i64 0] ++ [g 0, g 1, g 2, g 3, g 4, g 5, g 6, g 7, g 8, g 9, g 10, g 11, .pointer (some ⟨2, 2, none⟩), .int .i64 P, .bool true]) ++ tl 78 g2), hC3 N P p n c x, []) fun e y => e = some none ∧ dkY (gpB N P n) y := by
      rw [List.append_assoc]
      exact RunsW.refold19 (by simp [tl_len]) fun g3 => dk_padded x p n c hN P g3
    exact RunsW.cond true (by rfl) (by rfl) h3
/-- whether a plan may be, told ahead -/
def gDk : AnsH := fun vals h s => match vals, s with
  | [.agg ⟨[.int .i64 N, .slice p n _, .int .i64 P]⟩], .inr (.inr (.inr (.inl d))) :: s' => match hasRd h with
    | true => some (.int .i64 (if d = true then 0 else 10), h, s', [(ckB N P (rowO h p n), d), (rowIP h p n, true)])
    | false => none
  | _, _ => none
theorem gDk_ok : AnsHOk 18 gDk := by
  intro vals h s v h' s' lg hg hl m B w E hv
  unfold gDk at hg
  split at hg
  · rename_i N p n c P d s2
    split at hg
    · rename_i ht
      cases hg
      obtain ⟨x, p', f, E0, hR, hf⟩ := row_in E (hl (rowIP h p n, true) (by simp)) ht
      have hd : ckB N P (rowO h p n) = d := hl _ (List.mem_cons_self ..)
      have hv := plnV_lt c N P hR
      have fin : ∀ {co : Code}, Tryd.f18.body = some co → RunsW (tabH Tryd.prog extY conN hcN) co ([plnV N p' n c P] ++ List.replicate (Tryd.f18.ntmps - [plnV N p' n c P].length) undef, hTR x, []) (fun e y => (e = none ∨ e = some none) ∧ dkY d y) → Calls Tryd.prog 18 ([plnV N p n c P].map (mv m)).toArray w fun e w' => ∃ m', e = .returned (mv m' (.int .i64 (if d = true then 0 else 10))) ∧ Came m B h w (.int .i64 (if d = true then 0 else 10)) h m' w' := fun hco hr => by
        have := row_calls0E (T := (tabH Tryd.prog extY conN hcN)) Tryd.func18 hco (vals := [plnV N p' n c P]) hv (v := .int .i64 (if d = true then 0 else 10)) (by rfl) hr E E0
        simp only [List.map_cons, List.map_nil, plnV_rn (hf c)] at this
        exact this
      by_cases h1 : N < 1
      · have e1 : decide (N < 1) = true := decide_eq_true h1
        have : d = false := by rw [← hd]; unfold ckB; rw [e1]; rfl
        subst this
        exact fin dk_body0 (RunsW.ends T0_ok (dk_a x p' n c N P) (okOne e1) fun g s' => ⟨.inr rfl, rfl⟩)
      · have e1 : decide (N < 1) = false := decide_eq_false h1
        by_cases h2 : N > 16777216
        · have e2 : decide (N > 16777216) = true := decide_eq_true h2
          have : d = false := by rw [← hd]; unfold ckB; rw [e1, e2]; rfl
          subst this
          exact fin dk_body0 (RunsW.ends T0_ok (dk_b x p' n c N P) (okTwo e2 (okOne e1)) fun g s' => ⟨.inr rfl, rfl⟩)
        · have := dk_runs hR c (N := N) ⟨by omega, by omega⟩ P
          rw [hd] at this
          exact fin dk_body this
    · cases hg
  · cases hg
end Go.Proofs.YtlmccannfocniaaDoor
