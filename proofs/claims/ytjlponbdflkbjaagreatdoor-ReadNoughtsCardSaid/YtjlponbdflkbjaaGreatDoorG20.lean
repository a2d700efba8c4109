/-
  Con2, RpD, Con3, RnA
-/
import Derived.Test.YtjlponbdflkbjaaGreatDoorG19
import Derived.Test.YtjlponbdflkbjaaGreatDoorG16
import Derived.Test.YtjlponbdflkbjaaGreatDoorG06
import Derived.Test.YtjlponbdflkbjaaGreatDoorG18
import Derived.Laws.MathBits
namespace Go.Proofs.YtjlponbdflkbjaaGreatDoor
open Go.KRun Go.Wd
/-- of a number and an int -/
def g1n (k : W4 → Int → List Dec → Option (Value × List Dec × Log)) : Ans := fun vals s =>
  match vals with
  | [x, .int .i64 n] =>
    match w4 x with
    | some a =>
      match k a n s with
      | some r => some (r.1, r.2.1, (decide (a.ok ∧ -9223372036854775808 ≤ n ∧ n ≤ 9223372036854775807), true) :: r.2.2)
      | none => none
    | none => none
  | _ => none
theorem g1n_ok {f : Nat} {k : W4 → Int → List Dec → Option (Value × List Dec × Log)}
    (hk : ∀ (x : W4) (n : Int), x.ok → -9223372036854775808 ≤ n → n ≤ 9223372036854775807 → ∀ s v s' lg, k x n s = some (v, s', lg) → okLog lg → ∀ w, Calls Tryz.prog f #[vW x, .int .i64 n] w fun e w' => e = .returned v ∧ Tidy w w') : AnsOk f (g1n k) := by
  intro vals s v s' lg h hl w
  unfold g1n at h
  split at h
  · split at h
    · rename_i a ha
      split at h
      · rename_i r hr
        cases h
        have h1 := hl _ (List.mem_cons_self)
        simp only [decide_eq_true_eq] at h1
        rw [w4_spec ha]
        exact hk a _ h1.1 h1.2.1 h1.2.2 s r.1 r.2.1 r.2.2 hr (fun p hp => hl p (List.mem_cons_of_mem _ hp)) w
      · cases h
    · cases h
  · cases h
def plain1n (k : W4 → Int → Value) : W4 → Int → List Dec → Option (Value × List Dec × Log) := fun x n s => some (k x n, s, [])
theorem plain1n_ok {f : Nat} {k : W4 → Int → Value} (hk : ∀ (x : W4) (n : Int), x.ok → -9223372036854775808 ≤ n → n ≤ 9223372036854775807 → ∀ w, Calls Tryz.prog f #[vW x, .int .i64 n] w fun e w' => e = .returned (k x n) ∧ Tidy w w') : AnsOk f (g1n (plain1n k)) :=
  g1n_ok fun x n hx h0 h1 s v s' lg h _ w => by
    unfold plain1n at h
    cases h
    exact hk x n hx h0 h1 w
theorem okP1 {p : Bool × Bool} (h : p.1 = p.2) : okLog [p] := fun x hx => by rw [List.mem_singleton.1 hx]; exact h
theorem okPC {p : Bool × Bool} {l : Log} (h : p.1 = p.2) (hl : okLog l) : okLog (p :: l) := fun x hx => by
  rcases List.mem_cons.1 hx with rfl | hx
  · exact h
  · exact hl x hx
/-! ### Shl -/
def lu (n : Int) : Bool × Bool := (decide (prt n < 0), false)
def ld (n : Int) : Bool × Bool := (decide (rem n < 0), false)
def lq (n k : Int) : Log := [(decide ((64 : Int) = 0), false), (decide (IntKind.i64.wrap (n.tdiv 64) = k), true), (decide (n ≥ 256), false), (decide (n < 1), false)]
theorem shl_low (x : W4) (n : Int) : Fits (reckon (tabOf Tryz.prog extY conN true) 3000 74 [vW x, .int .i64 n] [tst true]) (vW x) [(decide (n < 1), true)] := ⟨by kernel_rfl, by kernel_rfl, by kernel_rfl, by kernel_rfl⟩
theorem shl_high (x : W4) (n : Int) : Fits (reckon (tabOf Tryz.prog extY conN true) 3000 74 [vW x, .int .i64 n] [tst false, tst true]) (vW ⟨0, 0, 0, 0⟩) [(decide (n ≥ 256), true), (decide (n < 1), false)] := ⟨by kernel_rfl, by kernel_rfl, by kernel_rfl, by kernel_rfl⟩
theorem shl_0 (x : W4) (n : Int) : Fits (reckon (tabOf Tryz.prog extY conN true) 3000 74 [vW x, .int .i64 n] [tst false, tst false, num 0]) (vW (shl0 x n)) (ld n :: lu n :: ld n :: lu n :: ld n :: lu n :: lu n :: lq n 0) := ⟨by kernel_rfl, by kernel_rfl, by kernel_rfl, by kernel_rfl⟩
theorem shl_1 (x : W4) (n : Int) : Fits (reckon (tabOf Tryz.prog extY conN true) 3000 74 [vW x, .int .i64 n] [tst false, tst false, num 1]) (vW (shl1 x n)) (ld n :: lu n :: ld n :: lu n :: lu n :: lq n 1) := ⟨by kernel_rfl, by kernel_rfl, by kernel_rfl, by kernel_rfl⟩
theorem shl_2 (x : W4) (n : Int) : Fits (reckon (tabOf Tryz.prog extY conN true) 3000 74 [vW x, .int .i64 n] [tst false, tst false, num 2]) (vW (shl2 x n)) (ld n :: lu n :: lu n :: lq n 2) := ⟨by kernel_rfl, by kernel_rfl, by kernel_rfl, by kernel_rfl⟩
theorem shl_3 (x : W4) (n : Int) : Fits (reckon (tabOf Tryz.prog extY conN true) 3000 74 [vW x, .int .i64 n] [tst false, tst false, num 3]) (vW (shl3 x n)) (lu n :: lq n 3) := ⟨by kernel_rfl, by kernel_rfl, by kernel_rfl, by kernel_rfl⟩
def shlW (x : W4) (n : Int) : W4 := if n < 1 then x else if 256 ≤ n then ⟨0, 0, 0, 0⟩ else W4.of (x.val * 2 ^ n.toNat)
def shlV4 (x : W4) (n : Int) : Value := vW (shlW x n)
theorem lu_ok {n : Int} (h : 0 ≤ n) : (lu n).1 = (lu n).2 := by
  have := prt_eq h
  exact decide_eq_false (by omega)
theorem ld_ok {n : Int} (h : 0 ≤ n) : (ld n).1 = (ld n).2 := by
  have := rem_eq h
  exact decide_eq_false (by omega)
theorem lq_ok {n k : Int} (h1 : ¬ n < 1) (h2 : ¬ 256 ≤ n) (h3 : n / 64 = k) : okLog (lq n k) := by
  refine okPC (by rfl) (okPC (decide_eq_true ?_) (okPC (decide_eq_false h2) (okP1 (decide_eq_false h1))))
  rw [Int.tdiv_eq_ediv_of_nonneg (by omega), wrap_i64' (by omega) (by omega)]
  exact h3
theorem shl_calls (x : W4) (n : Int) (hx : x.ok) (_h0 : -9223372036854775808 ≤ n) (_h9 : n ≤ 9223372036854775807) (w : World) : Calls Tryz.prog 74 #[vW x, .int .i64 n] w fun e w' => e = .returned (shlV4 x n) ∧ Tidy w w' := by
  unfold shlV4 shlW
  by_cases h1 : n < 1
  · rw [if_pos h1]
    exact fits_calls (tabY_ok conN_ok) (shl_low x n) (okP1 (decide_eq_true h1)) (by rfl) (by rfl) w
  · rw [if_neg h1]
    by_cases h2 : 256 ≤ n
    · rw [if_pos h2]
      exact fits_calls (tabY_ok conN_ok) (shl_high x n) (okPC (decide_eq_true h2) (okP1 (decide_eq_false h1))) (by rfl) (by rfl) w
    · rw [if_neg h2]
      have hn : 0 ≤ n := by omega
      have u := lu_ok hn
      have d := ld_ok hn
      have hj : n / 64 = 0 ∨ n / 64 = 1 ∨ n / 64 = 2 ∨ n / 64 = 3 := by omega
      rcases hj with hj | hj | hj | hj
      · rw [← shl0_eq hx hn hj]
        exact fits_calls (tabY_ok conN_ok) (shl_0 x n) (okPC d (okPC u (okPC d (okPC u (okPC d (okPC u (okPC u (lq_ok h1 h2 hj)))))))) (by rfl) (by rfl) w
      · rw [← shl1_eq hx hn hj]
        exact fits_calls (tabY_ok conN_ok) (shl_1 x n) (okPC d (okPC u (okPC d (okPC u (okPC u (lq_ok h1 h2 hj)))))) (by rfl) (by rfl) w
      · rw [← shl2_eq hx hn hj]
        exact fits_calls (tabY_ok conN_ok) (shl_2 x n) (okPC d (okPC u (okPC u (lq_ok h1 h2 hj)))) (by rfl) (by rfl) w
      · rw [← shl3_eq hx hn hj]
        exact fits_calls (tabY_ok conN_ok) (shl_3 x n) (okPC u (lq_ok h1 h2 hj)) (by rfl) (by rfl) w
/-! ### Shr -/
def conSh : Con := alt 74 (g1n (plain1n shlV4)) conN
theorem conSh_ok : ConOk conSh := alt_ok Tryz.func74 rfl (plain1n_ok shl_calls) conN_ok
def lk (x : W4) (n : Int) : Bool × Bool := (decide (x.ok ∧ -9223372036854775808 ≤ n ∧ n ≤ 9223372036854775807), true)
def shrR (m x : W4) (n : Int) : Value := .tuple #[vW m, .bool (!(eqW (shlW m n) x))]
theorem shr_low (x : W4) (n : Int) : Fits (reckon (tabOf Tryz.prog extY conSh true) 3000 125 [vW x, .int .i64 n] [tst true]) (.tuple #[vW x, .bool false]) [(decide (n < 1), true)] := ⟨by kernel_rfl, by kernel_rfl, by kernel_rfl, by kernel_rfl⟩
theorem shr_high (x : W4) (n : Int) : Fits (reckon (tabOf Tryz.prog extY conSh true) 3000 125 [vW x, .int .i64 n] [tst false, tst true]) (.tuple #[vW ⟨0, 0, 0, 0⟩, .bool (!(eqW x ⟨0, 0, 0, 0⟩))]) [(decide (n ≥ 256), true), (decide (n < 1), false)] := ⟨by kernel_rfl, by kernel_rfl, by kernel_rfl, by kernel_rfl⟩
theorem shr_0 (x : W4) (n : Int) : Fits (reckon (tabOf Tryz.prog extY conSh true) 3000 125 [vW x, .int .i64 n] [tst false, tst false, num 0]) (shrR (shr0 x n) x n) (lk (shr0 x n) n :: lu n :: ld n :: lu n :: ld n :: lu n :: ld n :: lu n :: lq n 0) := ⟨by kernel_rfl, by kernel_rfl, by kernel_rfl, by kernel_rfl⟩
theorem shr_1 (x : W4) (n : Int) : Fits (reckon (tabOf Tryz.prog extY conSh true) 3000 125 [vW x, .int .i64 n] [tst false, tst false, num 1]) (shrR (shr1 x n) x n) (lk (shr1 x n) n :: lu n :: ld n :: lu n :: ld n :: lu n :: lq n 1) := ⟨by kernel_rfl, by kernel_rfl, by kernel_rfl, by kernel_rfl⟩
theorem shr_2 (x : W4) (n : Int) : Fits (reckon (tabOf Tryz.prog extY conSh true) 3000 125 [vW x, .int .i64 n] [tst false, tst false, num 2]) (shrR (shr2 x n) x n) (lk (shr2 x n) n :: lu n :: ld n :: lu n :: lq n 2) := ⟨by kernel_rfl, by kernel_rfl, by kernel_rfl, by kernel_rfl⟩
theorem shr_3 (x : W4) (n : Int) : Fits (reckon (tabOf Tryz.prog extY conSh true) 3000 125 [vW x, .int .i64 n] [tst false, tst false, num 3]) (shrR (shr3 x n) x n) (lk (shr3 x n) n :: lu n :: lq n 3) := ⟨by kernel_rfl, by kernel_rfl, by kernel_rfl, by kernel_rfl⟩
def shrW (x : W4) (n : Int) : W4 := if n < 1 then x else if 256 ≤ n then ⟨0, 0, 0, 0⟩ else W4.of (x.val / 2 ^ n.toNat)
/-- whether a bit is lost -/
def shrL (x : W4) (n : Int) : Bool := if n < 1 then false else if 256 ≤ n then decide (x.val ≠ 0) else decide (x.val % 2 ^ n.toNat ≠ 0)
def shrV4 (x : W4) (n : Int) : Value := .tuple #[vW (shrW x n), .bool (shrL x n)]
theorem zero_iff {x : W4} (hx : x.ok) : (!(eqW x ⟨0, 0, 0, 0⟩)) = decide (x.val ≠ 0) := by
  rw [Bool.eq_iff_iff]
  simp only [Bool.not_eq_true', decide_eq_true_eq, ← Bool.not_eq_true, eqW_iff]
  constructor
  · intro h h0
    exact h (W4.val_inj hx ⟨z64, z64, z64, z64⟩ (h0.trans (by rfl)))
  · intro h h0
    exact h (by rw [h0]; rfl)
theorem lost_iff {x : W4} (hx : x.ok) {n : Int} (h1 : ¬ n < 1) (h2 : ¬ 256 ≤ n) : (!(eqW (shlW (W4.of (x.val / 2 ^ n.toNat)) n) x)) = decide (x.val % 2 ^ n.toNat ≠ 0) := by
  have hp : (0 : Int) < 2 ^ n.toNat := Int.pow_pos (by omega)
  have b := W4.val_bd hx
  have hm := Int.mul_ediv_add_emod x.val (2 ^ n.toNat)
  have h3 := Int.emod_nonneg x.val (Int.ne_of_gt hp)
  have h4 : 0 ≤ x.val / 2 ^ n.toNat := Int.ediv_nonneg b.1 (by omega)
  have h5 : x.val / 2 ^ n.toNat ≤ x.val := by
    have := mul_le_of 1 (2 ^ n.toNat) (x.val / 2 ^ n.toNat) h4 (by omega)
    rw [Int.mul_one, Int.mul_comm] at this
    omega
  have e : shlW (W4.of (x.val / 2 ^ n.toNat)) n = W4.of (x.val - x.val % 2 ^ n.toNat) := by
    unfold shlW
    rw [if_neg h1, if_neg h2, W4.val_of, Int.emod_eq_of_lt h4 (by omega), Int.mul_comm]
    congr 1
    omega
  rw [e, Bool.eq_iff_iff]
  simp only [Bool.not_eq_true', decide_eq_true_eq, ← Bool.not_eq_true, eqW_iff]
  generalize x.val % 2 ^ n.toNat = l at *
  have h6 : 0 ≤ 2 ^ n.toNat * (x.val / 2 ^ n.toNat) := Int.mul_nonneg (by omega) h4
  constructor
  · intro h h0
    apply h
    rw [h0, Int.sub_zero, W4.of_val hx]
  · intro h h0
    have h7 := congrArg W4.val h0
    rw [W4.val_of, Int.emod_eq_of_lt (by omega) (by omega)] at h7
    omega
theorem lk_ok {x : W4} {n : Int} (h : x.ok) (h0 : -9223372036854775808 ≤ n) (h9 : n ≤ 9223372036854775807) : (lk x n).1 = (lk x n).2 := by
  unfold lk
  exact decide_eq_true ⟨h, h0, h9⟩
set_option maxRecDepth 100000 in
theorem shr_calls (x : W4) (n : Int) (hx : x.ok) (h0 : -9223372036854775808 ≤ n) (h9 : n ≤ 9223372036854775807) (w : World) : Calls Tryz.prog 125 #[vW x, .int .i64 n] w fun e w' => e = .returned (shrV4 x n) ∧ Tidy w w' := by
  unfold shrV4 shrW shrL
  by_cases h1 : n < 1
  · rw [if_pos h1, if_pos h1]
    exact fits_calls (tabY_ok conSh_ok) (shr_low x n) (okP1 (decide_eq_true h1)) (by rfl) (by rfl) w
  · rw [if_neg h1, if_neg h1]
    by_cases h2 : 256 ≤ n
    · rw [if_pos h2, if_pos h2, ← zero_iff hx]
      exact fits_calls (tabY_ok conSh_ok) (shr_high x n) (okPC (decide_eq_true h2) (okP1 (decide_eq_false h1))) (by rfl) (by rfl) w
    · rw [if_neg h2, if_neg h2]
      have hn : 0 ≤ n := by omega
      have u := lu_ok hn
      have d := ld_ok hn
      have hl := lost_iff hx h1 h2
      have hj : n / 64 = 0 ∨ n / 64 = 1 ∨ n / 64 = 2 ∨ n / 64 = 3 := by omega
      rw [← hl]
      rcases hj with hj | hj | hj | hj
      · obtain ⟨e1, e2⟩ := shr0_eq hx hn hj
        rw [← e1]
        exact fits_calls (tabY_ok conSh_ok) (shr_0 x n) (okPC (lk_ok e2 h0 h9) (okPC u (okPC d (okPC u (okPC d (okPC u (okPC d (okPC u (lq_ok h1 h2 hj))))))))) (by rfl) (by rfl) w
      · obtain ⟨e1, e2⟩ := shr1_eq hx hn hj
        rw [← e1]
        exact fits_calls (tabY_ok conSh_ok) (shr_1 x n) (okPC (lk_ok e2 h0 h9) (okPC u (okPC d (okPC u (okPC d (okPC u (lq_ok h1 h2 hj))))))) (by rfl) (by rfl) w
      · obtain ⟨e1, e2⟩ := shr2_eq hx hn hj
        rw [← e1]
        exact fits_calls (tabY_ok conSh_ok) (shr_2 x n) (okPC (lk_ok e2 h0 h9) (okPC u (okPC d (okPC u (lq_ok h1 h2 hj))))) (by rfl) (by rfl) w
      · obtain ⟨e1, e2⟩ := shr3_eq hx hn hj
        rw [← e1]
        exact fits_calls (tabY_ok conSh_ok) (shr_3 x n) (okPC (lk_ok e2 h0 h9) (okPC u (lq_ok h1 h2 hj))) (by rfl) (by rfl) w
/-- a test that is decided ahead, by another word -/
def pickC (b : Bool) : List Dec → Bool × List Dec × Log
  | .inr (.inr (.inr (.inl d))) :: s => (d, s, [(b, d)])
  | s => (b, s, [])
theorem pickC_ok {b : Bool} {s : List Dec} (h : okLog (pickC b s).2.2) : (pickC b s).1 = b := by
  unfold pickC at *
  split at h
  · rename_i d s
    exact (h (b, d) (List.mem_singleton.2 rfl)).symm
  · rfl
/-- whether a bit is lost is decided ahead -/
def shrB : W4 → Int → List Dec → Option (Value × List Dec × Log) := fun x n s => some (.tuple #[vW (shrW x n), .bool (pickC (shrL x n) s).1], (pickC (shrL x n) s).2.1, (pickC (shrL x n) s).2.2)
theorem shrB_ok : AnsOk 125 (g1n shrB) := g1n_ok fun x n hx h0 h1 s v s' lg h hl w => by
  unfold shrB at h
  cases h
  rw [pickC_ok hl]
  exact shr_calls x n hx h0 h1 w
end Go.Proofs.YtjlponbdflkbjaaGreatDoor
namespace Go.Proofs.YtjlponbdflkbjaaGreatDoor
open Go.KRun Go.Nt Go.Rd Go.Wd
set_option maxRecDepth 100000
theorem sh1 (D : List UInt8) (k : Int) : Fits (reckon (tabOf Tryz.prog extY conN true) 100 33 [bR D, .int .i64 k] [cmp true]) (bR D) [(decide (((D.length : Nat) : Int) ≤ k), true)] := ⟨by kernel_rfl, by kernel_rfl, by kernel_rfl, by kernel_rfl⟩
theorem sh2 (D : List UInt8) (k : Int) : Fits (reckon (tabOf Tryz.prog extY conN true) 100 33 [bR D, .int .i64 k] [cmp false, sam true, sam true]) (bR (D.take k.toNat ++ [49])) [(decide ((D.take k.toNat).length + 1 ≤ 9223372036854775807), true), (decide (0 ≤ k ∧ k ≤ (D.length : Nat)), true), (decide (((D.length : Nat) : Int) ≤ k), false)] := ⟨by kernel_rfl, by kernel_rfl, by kernel_rfl, by kernel_rfl⟩
def gShR : Ans := fun vals s =>
  match vals with
  | [.string a, .int .i64 k] => some (bR (shR k.toNat a.data.toList), s, [(decide (0 ≤ k ∧ k ≤ 1000 ∧ a.data.toList.length ≤ 100000), true)])
  | _ => none
theorem gShR_ok : AnsOk 33 gShR := by
  intro vals s v s' lg h hl w
  unfold gShR at h
  split at h
  · rename_i a k
    cases h
    have q := of_decide_eq_true (hl _ (List.mem_singleton.2 rfl))
    have hT := tabY_ok conN_ok
    unfold shR
    by_cases h1 : ((a.data.toList.length : Nat) : Int) ≤ k
    · rw [if_pos (by omega)]
      exact fits_calls hT (sh1 a.data.toList k) (okL1 (decide_eq_true h1)) (by rfl) (by rfl) w
    · rw [if_neg (by omega)]
      exact fits_calls hT (sh2 a.data.toList k) (okCons (decide_eq_true (by rw [List.length_take]; omega)) (okCons (decide_eq_true (by omega)) (okL1 (decide_eq_false h1)))) (by rfl) (by rfl) w
  · cases h
def conSx : Con := alt 74 (g1n (plain1n shlV4)) (alt 73 (g2 (plain2 addV4)) (alt 69 gDvP conN))
theorem conSx_ok : ConOk conSx := alt_ok Tryz.func74 rfl (plain1n_ok shl_calls) (alt_ok Tryz.func73 rfl (plain2_ok add_calls) (alt_ok Tryz.func69 rfl gDvP_ok conN_ok))
def sxI (F : Func) : Code := cFst (sP F 2)
def sxL (F : Func) : Code := cIn (cIn (cSnd (sP F 2)))
theorem sx_body : Tryz.f34.body = some (seqs [sP Tryz.f34 0, sP Tryz.f34 1] (.seq (.seq (sxI Tryz.f34) (.block 0 (.loop (sxL Tryz.f34)))) (sK Tryz.f34 3))) := by kernel_rfl
def wB9 (x : W4) : List Value × TypeId := ([.int .u64 x.a, .int .u64 x.b, .int .u64 x.c, .int .u64 x.d], 51)
def sxM (x : W4) : Hp := ⟨2, [wB9 x, wB9 ⟨0, 0, 0, 0⟩]⟩
def sxF (D : List UInt8) (v4 : Value) (i : Int) : List Value := [bR D, undef, pO 0, pO 1, v4, bR D, .int .i64 (D.length : Nat), .int .i64 i]
theorem sx_pre (D : List UInt8) : GoesT (evL (tabOf Tryz.prog extY conSx true) 100 [sP Tryz.f34 0, sP Tryz.f34 1] ([bR D] ++ List.replicate 23 undef, ⟨0, []⟩, []) ⟨[], [], []⟩) 5 19 none [bR D, undef, pO 0, pO 1, undef] (sxM ⟨0, 0, 0, 0⟩) [] := ⟨by kernel_rfl, by kernel_rfl, by kernel_rfl⟩
theorem sx_i (D : List UInt8) (g : Nat → Value) : GoesT (evC (tabOf Tryz.prog extY conSx true) 100 false (sxI Tryz.f34) ([bR D, undef, pO 0, pO 1, undef] ++ tl 19 g, sxM ⟨0, 0, 0, 0⟩, []) ⟨[], [], []⟩) 8 16 none (sxF D undef 0) (sxM ⟨0, 0, 0, 0⟩) [] := ⟨by kernel_rfl, by kernel_rfl, by kernel_rfl⟩
theorem sx_x (D : List UInt8) (x : W4) (v4 : Value) (i : Int) (g : Nat → Value) : GoesT (evC (tabOf Tryz.prog extY conSx true) 100 false (sxL Tryz.f34) (sxF D v4 i ++ tl 16 g, sxM x, [cmp false]) ⟨[], [], []⟩) 8 16 (some (some 0)) (sxF D v4 i) (sxM x) [(decide (i < (D.length : Nat)), false)] := ⟨by kernel_rfl, by kernel_rfl, by kernel_rfl⟩
theorem sx_e (D : List UInt8) (x : W4) (v4 : Value) (i : Int) (g : Nat → Value) : GoesT (evC (tabOf Tryz.prog extY conSx true) 100 false (sK Tryz.f34 3) (sxF D v4 i ++ tl 16 g, sxM x, []) ⟨[], [], []⟩) 3 21 (some none) [bR D, undef, pO 0] ⟨2, [wB9 x, wB9 x]⟩ [] := ⟨by kernel_rfl, by kernel_rfl, by kernel_rfl⟩
def wD9 (d : Int) : W4 := ⟨IntKind.u64.wrap d, 0, 0, 0⟩
theorem sx_g (D : List UInt8) (x : W4) (v4 : Value) (i : Int) (g : Nat → Value) : GoesT (evC (tabOf Tryz.prog extY conSx true) 100 false (sxL Tryz.f34) (sxF D v4 i ++ tl 16 g, sxM x, [cmp true]) ⟨[], [], []⟩) 8 16 none (sxF D (.int .i64 i) (IntKind.i64.wrap (i + 1))) (sxM (W4.of ((shlW x 4).val + (wD9 (dvB (byR D i))).val))) [(decide ((shlW x 4).ok ∧ (wD9 (dvB (byR D i))).ok), true), (decide (0 ≤ byR D i ∧ byR D i < 256), true), (decide (x.ok ∧ (-9223372036854775808 : Int) ≤ 4 ∧ (4 : Int) ≤ 9223372036854775807), true), (decide (0 ≤ i ∧ i.toNat < D.length), true), (decide (i < (D.length : Nat)), true)] := ⟨by kernel_rfl, by kernel_rfl, by kernel_rfl⟩
theorem sx_num {X d : Nat} (hX : X * 16 + d < 2 ^ 256) (hd : d < 16) : (shlW (ofN X) 4).ok ∧ (wD9 (d : Nat)).ok ∧ W4.of ((shlW (ofN X) 4).val + (wD9 (d : Nat)).val) = ofN (X * 16 + d) := by
  have h2 : (2 : Nat) ^ 256 = 115792089237316195423570985008687907853269984665640564039457584007913129639936 := rfl
  have hX2 : X < 2 ^ 256 := by omega
  have hv : (ofN X).val = (X : Int) := by rw [W4.nat_val (ofN_ok X), ofN_nat hX2]
  have e1 : shlW (ofN X) 4 = W4.of (((X * 16 : Nat)) : Int) := by
    unfold shlW
    rw [if_neg (by decide), if_neg (by decide), hv]
    congr 1
  have ew : IntKind.u64.wrap ((d : Nat) : Int) = (d : Int) := by
    simp [IntKind.wrap, IntKind.bits, IntKind.signed]
    omega
  have o2 : (wD9 (d : Nat)).ok ∧ (wD9 (d : Nat)).val = (d : Int) := by
    unfold wD9
    rw [ew]
    refine ⟨⟨⟨by dsimp only; omega, by dsimp only; omega⟩, ⟨by dsimp only; omega, by dsimp only; omega⟩, ⟨by dsimp only; omega, by dsimp only; omega⟩, ⟨by dsimp only; omega, by dsimp only; omega⟩⟩, ?_⟩
    unfold W4.val
    simp only [Int.mul_zero, Int.add_zero]
  refine ⟨by rw [e1]; exact W4.ok_of _, o2.1, ?_⟩
  rw [e1, W4.val_of, o2.2, Int.emod_eq_of_lt (by omega) (by omega)]
  unfold ofN
  congr 1
def sxJ (D : List UInt8) (i : Nat) (y : Lf) : Prop := ∃ (v4 : Value) (g : Nat → Value), i ≤ D.length ∧ y.1 = sxF D v4 i ++ tl 16 g ∧ y.2.1 = sxM (ofN (nmB 16 (D.take i)))
theorem sx_round {D : List UInt8} (h2 : D.length ≤ 62) (ha : allB 16 D = true) (r : Nat) (y : Lf) (h : ∃ i, r = D.length - i ∧ sxJ D i y) :
    Runs (tabOf Tryz.prog extY conSx true) (sxL Tryz.f34) y fun e z => match e with | none => ∃ r', r' < r ∧ ∃ i, r' = D.length - i ∧ sxJ D i z | some none => False | some (some id') => id' = 0 ∧ sxJ D D.length z := by
  have hT := tabY_ok conSx_ok
  obtain ⟨i, hr, v4, g, hi, ht, hh⟩ := h
  obtain ⟨t, h', sc⟩ := y
  simp only at ht hh
  subst ht hh
  by_cases hc : i < D.length
  · have lA : decide (((i : Nat) : Int) < (D.length : Nat)) = true := decide_eq_true (by omega)
    have lI : decide ((0 : Int) ≤ (i : Nat) ∧ ((i : Nat) : Int).toNat < D.length) = true := decide_eq_true ⟨by omega, by rw [Int.toNat_natCast]; exact hc⟩
    have ew : IntKind.i64.wrap (((i : Nat) : Int) + 1) = ((i + 1 : Nat) : Int) := by rw [wrapI (by omega) (by omega)]; omega
    have eC : lq8 (D.getD i 0) = byR D (i : Nat) := by unfold lq8 byR; rw [Int.toNat_natCast]
    have hdg : 0 ≤ dgvR (lq8 (D.getD i 0)) 16 := by
      unfold allB at ha
      refine of_decide_eq_true (List.all_eq_true.1 ha _ ?_)
      rw [List.getD_eq_getElem?_getD, List.getElem?_eq_getElem hc, Option.getD_some]
      exact List.getElem_mem hc
    have hlt := (dgvR_bd (lq8 (D.getD i 0)) 16).2
    obtain ⟨d, hd⟩ : ∃ d : Nat, d = (dgvR (lq8 (D.getD i 0)) 16).toNat := ⟨_, rfl⟩
    have ed : dvB (byR D (i : Nat)) = (d : Nat) := by rw [← eC, ← dvB_eq hdg]; omega
    have ht := nmB_take 16 D hc
    rw [← hd] at ht
    have hb : nmB 16 (D.take i) * 16 + d < 2 ^ 256 := by
      have h3 : nmB 16 (D.take i) * 16 + d = nmB 16 (D.take (i + 1)) := ht.symm
      rw [h3]
      refine Nat.lt_of_lt_of_le (nm_bits (.inr rfl) _) (Nat.pow_le_pow_right (by omega) ?_)
      rw [List.length_take]; omega
    obtain ⟨n1, n2, n3⟩ := sx_num hb (by omega)
    have hg := sx_g D (ofN (nmB 16 (D.take i))) v4 (i : Nat) g
    rw [ew, ed, n3] at hg
    refine (goesT_runs (s0 := sc) hT hg (okCons (decide_eq_true ⟨n1, n2⟩) (okCons (byR_bd D _) (okCons (decide_eq_true ⟨ofN_ok _, by decide, by decide⟩) (okCons lI (okL1 lA)))))).mono fun e z he => ?_
    obtain ⟨rfl, ⟨g', z1⟩, z2⟩ := he
    refine ⟨D.length - (i + 1), by omega, i + 1, rfl, _, g', by omega, z1, ?_⟩
    rw [z2, show nmB 16 (D.take (i + 1)) = nmB 16 (D.take i) * 16 + d from ht]
  · have : i = D.length := by omega
    subst this
    refine (goesT_runs (s0 := sc) hT (sx_x D _ v4 (D.length : Nat) g) (okL1 (decide_eq_false (by omega)))).mono fun e z he => ?_
    obtain ⟨rfl, ⟨g', z1⟩, z2⟩ := he
    exact ⟨rfl, v4, g', hi, z1, z2⟩
theorem sx_calls (D : List UInt8) (hs : D.length ≤ 62) (ha : allB 16 D = true) (w : World) : Calls Tryz.prog 34 #[bR D] w fun r w' => r = .returned (vW (ofN (nmB 16 D))) ∧ Tidy w w' := by
  have hT := tabY_ok conSx_ok
  refine calls_of_runs (T := tabOf Tryz.prog extY conSx true) Tryz.func34 sx_body (by rfl) (by rfl) ?_ w
  refine goesT_list hT (sx_pre D) okN9R fun g => ?_
  refine Runs.seq (P1 := fun e y => match e with | none => sxJ D D.length y | some none => False | some (some _) => False) ?_ ?_ ?_
  · refine Runs.seq (P1 := fun e y => e = none ∧ ∃ g', y.1 = sxF D undef 0 ++ tl 16 g' ∧ y.2.1 = sxM ⟨0, 0, 0, 0⟩) ?_ ?_ (fun e y he => by cases he.1)
    · refine (goesT_runs hT (sx_i D g) okN9R).mono fun e z he => ?_
      obtain ⟨rfl, ⟨g', z1⟩, z2⟩ := he
      exact ⟨rfl, g', z1, z2⟩
    · rintro ⟨t, hh, sc⟩ ⟨_, g', e1, e2⟩
      simp only at e1 e2
      subst e1 e2
      exact Runs.forLoop (R := fun _ => False) (P := sxJ D D.length) (fun r y => ∃ i, r = D.length - i ∧ sxJ D i y) (sx_round hs ha) (n := D.length - 0) ⟨0, rfl, undef, g', Nat.zero_le _, rfl, by rw [show ofN (nmB 16 (D.take 0)) = ⟨0, 0, 0, 0⟩ from ofN_zero]⟩
  · rintro ⟨t, hh, sc⟩ ⟨v4, g', _, e1, e2⟩
    simp only at e1 e2
    subst e1 e2
    rw [List.take_length]
    refine (goesT_runs (s0 := sc) hT (sx_e D _ v4 _ g') okN9R).mono fun e z he => ?_
    obtain ⟨rfl, ⟨g2, z1⟩, z2⟩ := he
    exact ⟨.inr rfl, by rw [z1, z2]; rfl⟩
  · rintro e y he
    match e, he with
    | none, he => exact he.elim
def gSxR : Ans := fun vals s =>
  match vals with
  | [.string a] => some (vW (ofN (nmB 16 a.data.toList)), s, [(allB 16 a.data.toList, true), (decide (a.data.toList.length ≤ 62), true)])
  | _ => none
theorem gSxR_ok : AnsOk 34 gSxR := by
  intro vals s v s' lg h hl w
  unfold gSxR at h
  split at h
  · rename_i a
    cases h
    have h1 : allB 16 a.data.toList = true := hl _ List.mem_cons_self
    have h2 := of_decide_eq_true (hl _ (List.mem_cons_of_mem _ (List.mem_singleton.2 rfl)))
    exact sx_calls _ h2 h1 w
  · cases h
end Go.Proofs.YtjlponbdflkbjaaGreatDoor
namespace Go.Proofs.YtjlponbdflkbjaaGreatDoor
open Go.KRun Go.Wd
/-! ### Len64 -/
/-- the table of the library: how many bits a byte has -/
def lenTab : List UInt8 := (List.range 256).map fun i => UInt8.ofNat (bitLen i)
def byteLen (z : Int) : Int := ((lenTab.getD (IntKind.u8.wrap z).toNat 0).toNat : Int)
def lt8 (z : Int) : Bool × Bool := (decide (0 ≤ IntKind.u8.wrap z ∧ (IntKind.u8.wrap z).toNat < lenTab.length), true)
def sh (z : Int) (k : Nat) : Int := z.fdiv (2 ^ k)
def ge (z k : Int) (d : Bool) : Bool × Bool := (decide (z ≥ k), d)
def lenE (m z : Int) : Value := .int .i64 (IntKind.i64.wrap (m + IntKind.i64.wrap (byteLen z)))
def nz : Bool × Bool := (false, false)
theorem len_000 (u : Int) : Fits (reckon (tabOf Tryz.prog extY conN true) 3000 124 [.int .u64 u] [tst false, tst false, tst false]) (lenE 0 u) [lt8 u, ge u 256 false, ge u 65536 false, ge u 4294967296 false] := ⟨by kernel_rfl, by kernel_rfl, by kernel_rfl, by kernel_rfl⟩
theorem len_001 (u : Int) : Fits (reckon (tabOf Tryz.prog extY conN true) 3000 124 [.int .u64 u] [tst false, tst false, tst true]) (lenE 8 (sh u 8)) [lt8 (sh u 8), nz, ge u 256 true, ge u 65536 false, ge u 4294967296 false] := ⟨by kernel_rfl, by kernel_rfl, by kernel_rfl, by kernel_rfl⟩
theorem len_010 (u : Int) : Fits (reckon (tabOf Tryz.prog extY conN true) 3000 124 [.int .u64 u] [tst false, tst true, tst false]) (lenE 16 (sh u 16)) [lt8 (sh u 16), ge (sh u 16) 256 false, nz, ge u 65536 true, ge u 4294967296 false] := ⟨by kernel_rfl, by kernel_rfl, by kernel_rfl, by kernel_rfl⟩
theorem len_011 (u : Int) : Fits (reckon (tabOf Tryz.prog extY conN true) 3000 124 [.int .u64 u] [tst false, tst true, tst true]) (lenE 24 (sh (sh u 16) 8)) [lt8 (sh (sh u 16) 8), nz, ge (sh u 16) 256 true, nz, ge u 65536 true, ge u 4294967296 false] := ⟨by kernel_rfl, by kernel_rfl, by kernel_rfl, by kernel_rfl⟩
theorem len_100 (u : Int) : Fits (reckon (tabOf Tryz.prog extY conN true) 3000 124 [.int .u64 u] [tst true, tst false, tst false]) (lenE 32 (sh u 32)) [lt8 (sh u 32), ge (sh u 32) 256 false, ge (sh u 32) 65536 false, nz, ge u 4294967296 true] := ⟨by kernel_rfl, by kernel_rfl, by kernel_rfl, by kernel_rfl⟩
theorem len_101 (u : Int) : Fits (reckon (tabOf Tryz.prog extY conN true) 3000 124 [.int .u64 u] [tst true, tst false, tst true]) (lenE 40 (sh (sh u 32) 8)) [lt8 (sh (sh u 32) 8), nz, ge (sh u 32) 256 true, ge (sh u 32) 65536 false, nz, ge u 4294967296 true] := ⟨by kernel_rfl, by kernel_rfl, by kernel_rfl, by kernel_rfl⟩
theorem len_110 (u : Int) : Fits (reckon (tabOf Tryz.prog extY conN true) 3000 124 [.int .u64 u] [tst true, tst true, tst false]) (lenE 48 (sh (sh u 32) 16)) [lt8 (sh (sh u 32) 16), ge (sh (sh u 32) 16) 256 false, nz, ge (sh u 32) 65536 true, nz, ge u 4294967296 true] := ⟨by kernel_rfl, by kernel_rfl, by kernel_rfl, by kernel_rfl⟩
theorem len_111 (u : Int) : Fits (reckon (tabOf Tryz.prog extY conN true) 3000 124 [.int .u64 u] [tst true, tst true, tst true]) (lenE 56 (sh (sh (sh u 32) 16) 8)) [lt8 (sh (sh (sh u 32) 16) 8), nz, ge (sh (sh u 32) 16) 256 true, nz, ge (sh u 32) 65536 true, nz, ge u 4294967296 true] := ⟨by kernel_rfl, by kernel_rfl, by kernel_rfl, by kernel_rfl⟩
theorem lenTab_len : lenTab.length = 256 := by unfold lenTab; rw [List.length_map, List.length_range]
theorem lenTab_get (b : Nat) (h : b < 256) : (lenTab.getD b 0).toNat = bitLen b := by
  have h1 : lenTab.getD b 0 = UInt8.ofNat (bitLen b) := by
    unfold lenTab
    rw [List.getD, List.getElem?_map, List.getElem?_range h]
    rfl
  have h2 := bitLen_le8 b h
  rw [h1, UInt8.toNat_ofNat']
  omega
theorem u8_wrap {z : Int} (h0 : 0 ≤ z) (h1 : z < 256) : IntKind.u8.wrap z = z := by
  simp [IntKind.wrap, IntKind.bits, IntKind.signed]; omega
theorem lenE_eq {m : Int} {Z : Nat} (hm : 0 ≤ m) (hm' : m ≤ 56) (h1 : Z < 256) : lenE m (Z : Int) = .int .i64 (m + bitLen Z) ∧ (lt8 (Z : Int)).1 = (lt8 (Z : Int)).2 := by
  have hb := bitLen_le8 Z h1
  have e := u8_wrap (z := (Z : Int)) (by omega) (by omega)
  refine ⟨?_, ?_⟩
  · unfold lenE byteLen
    rw [e, Int.toNat_natCast, lenTab_get Z h1, wrap_i64' (n := ((bitLen Z : Nat) : Int)) (by omega) (by omega), wrap_i64' (by omega) (by omega)]
  · unfold lt8
    rw [e, Int.toNat_natCast]
    rw [lenTab_len]
    exact decide_eq_true (And.intro (by omega) h1)
theorem sh_eq (Z k : Nat) : sh (Z : Int) k = ((Z / 2 ^ k : Nat) : Int) := by
  unfold sh
  rw [Int.fdiv_eq_ediv_of_nonneg _ (Int.le_of_lt (Int.pow_pos (by omega)))]
  simp
theorem ge_t {z k : Int} (h : k ≤ z) : (ge z k true).1 = (ge z k true).2 := decide_eq_true h
theorem ge_f {z k : Int} (h : z < k) : (ge z k false).1 = (ge z k false).2 := decide_eq_false (by omega)
theorem nz_ok : nz.1 = nz.2 := rfl
theorem len_up (x b : Nat) (h : 2 ^ b ≤ x) : bitLen x = b + bitLen (x / 2 ^ b) := bitLen_shift x b (by
  have : 0 < x / 2 ^ b := Nat.div_pos h (Nat.two_pow_pos b)
  omega)
def len64V (u : Int) : Value := .int .i64 (bitLen u.toNat : Nat)
set_option maxRecDepth 100000 in
theorem len64_calls (u : Int) (h0 : 0 ≤ u) (h1 : u < 18446744073709551616) (w : World) : Calls Tryz.prog 124 #[.int .u64 u] w fun e w' => e = .returned (len64V u) ∧ Tidy w w' := by
  obtain ⟨U, rfl⟩ := Int.eq_ofNat_of_zero_le h0
  unfold len64V
  rw [Int.toNat_natCast]
  have p8 : (2 : Nat) ^ 8 = 256 := rfl
  have p16 : (2 : Nat) ^ 16 = 65536 := rfl
  have p32 : (2 : Nat) ^ 32 = 4294967296 := rfl
  have step : ∀ {v : Value} {m : Int} {Z : Nat} {s : List Dec} {cs : Log}, Fits (reckon (tabOf Tryz.prog extY conN true) 3000 124 [.int .u64 (U : Int)] s) v cs → okLog cs → v = .int .i64 (bitLen U : Nat) → Calls Tryz.prog 124 #[.int .u64 (U : Int)] w fun e w' => e = .returned (.int .i64 (bitLen U : Nat)) ∧ Tidy w w' :=
    fun {v m Z s cs} hf hc hv => by subst hv; exact fits_calls (tabY_ok conN_ok) hf hc (by rfl) (by rfl) w
  by_cases a : U < 4294967296
  · by_cases b : U < 65536
    · by_cases c : U < 256
      · obtain ⟨e1, e2⟩ := lenE_eq (m := 0) (by omega) (by omega) c
        exact step (m := 0) (Z := 0) (len_000 U) (okPC e2 (okPC (ge_f (by omega)) (okPC (ge_f (by omega)) (okP1 (ge_f (by omega)))))) (by rw [e1]; congr 1; omega)
      · have l := len_up U 8 (by omega)
        obtain ⟨e1, e2⟩ := lenE_eq (m := 8) (Z := U / 2 ^ 8) (by omega) (by omega) (by omega)
        rw [← sh_eq] at e1 e2
        exact step (m := 0) (Z := 0) (len_001 U) (okPC e2 (okPC nz_ok (okPC (ge_t (by omega)) (okPC (ge_f (by omega)) (okP1 (ge_f (by omega))))))) (by rw [e1]; congr 1; omega)
    · have l := len_up U 16 (by omega)
      by_cases c : U / 2 ^ 16 < 256
      · obtain ⟨e1, e2⟩ := lenE_eq (m := 16) (Z := U / 2 ^ 16) (by omega) (by omega) c
        rw [← sh_eq] at e1 e2
        exact step (m := 0) (Z := 0) (len_010 U) (okPC e2 (okPC (ge_f (by rw [sh_eq]; omega)) (okPC nz_ok (okPC (ge_t (by omega)) (okP1 (ge_f (by omega))))))) (by rw [e1]; congr 1; omega)
      · have l2 := len_up (U / 2 ^ 16) 8 (by omega)
        obtain ⟨e1, e2⟩ := lenE_eq (m := 24) (Z := U / 2 ^ 16 / 2 ^ 8) (by omega) (by omega) (by omega)
        rw [← sh_eq, ← sh_eq] at e1 e2
        exact step (m := 0) (Z := 0) (len_011 U) (okPC e2 (okPC nz_ok (okPC (ge_t (by rw [sh_eq]; omega)) (okPC nz_ok (okPC (ge_t (by omega)) (okP1 (ge_f (by omega)))))))) (by rw [e1]; congr 1; omega)
  · have l0 := len_up U 32 (by omega)
    have q : U / 2 ^ 32 < 4294967296 := by omega
    by_cases b : U / 2 ^ 32 < 65536
    · by_cases c : U / 2 ^ 32 < 256
      · obtain ⟨e1, e2⟩ := lenE_eq (m := 32) (Z := U / 2 ^ 32) (by omega) (by omega) c
        rw [← sh_eq] at e1 e2
        exact step (m := 0) (Z := 0) (len_100 U) (okPC e2 (okPC (ge_f (by rw [sh_eq]; omega)) (okPC (ge_f (by rw [sh_eq]; omega)) (okPC nz_ok (okP1 (ge_t (by omega))))))) (by rw [e1]; congr 1; omega)
      · have l := len_up (U / 2 ^ 32) 8 (by omega)
        obtain ⟨e1, e2⟩ := lenE_eq (m := 40) (Z := U / 2 ^ 32 / 2 ^ 8) (by omega) (by omega) (by omega)
        rw [← sh_eq, ← sh_eq] at e1 e2
        exact step (m := 0) (Z := 0) (len_101 U) (okPC e2 (okPC nz_ok (okPC (ge_t (by rw [sh_eq]; omega)) (okPC (ge_f (by rw [sh_eq]; omega)) (okPC nz_ok (okP1 (ge_t (by omega)))))))) (by rw [e1]; congr 1; omega)
    · have l := len_up (U / 2 ^ 32) 16 (by omega)
      by_cases c : U / 2 ^ 32 / 2 ^ 16 < 256
      · obtain ⟨e1, e2⟩ := lenE_eq (m := 48) (Z := U / 2 ^ 32 / 2 ^ 16) (by omega) (by omega) c
        rw [← sh_eq, ← sh_eq] at e1 e2
        exact step (m := 0) (Z := 0) (len_110 U) (okPC e2 (okPC (ge_f (by rw [sh_eq, sh_eq]; omega)) (okPC nz_ok (okPC (ge_t (by rw [sh_eq]; omega)) (okPC nz_ok (okP1 (ge_t (by omega)))))))) (by rw [e1]; congr 1; omega)
      · have l2 := len_up (U / 2 ^ 32 / 2 ^ 16) 8 (by omega)
        obtain ⟨e1, e2⟩ := lenE_eq (m := 56) (Z := U / 2 ^ 32 / 2 ^ 16 / 2 ^ 8) (by omega) (by omega) (by omega)
        rw [← sh_eq, ← sh_eq, ← sh_eq] at e1 e2
        exact step (m := 0) (Z := 0) (len_111 U) (okPC e2 (okPC nz_ok (okPC (ge_t (by rw [sh_eq, sh_eq]; omega)) (okPC nz_ok (okPC (ge_t (by rw [sh_eq]; omega)) (okPC nz_ok (okP1 (ge_t (by omega))))))))) (by rw [e1]; congr 1; omega)
/-! ### Len -/
/-- of a word -/
def gu (k : Int → Value) : Ans := fun vals s =>
  match vals with
  | [.int .u64 u] => some (k u, s, [(decide (0 ≤ u ∧ u < 18446744073709551616), true)])
  | _ => none
theorem gu_ok {f : Nat} {k : Int → Value} (hk : ∀ u, 0 ≤ u → u < 18446744073709551616 → ∀ w, Calls Tryz.prog f #[.int .u64 u] w fun e w' => e = .returned (k u) ∧ Tidy w w') : AnsOk f (gu k) := by
  intro vals s v s' lg h hl w
  unfold gu at h
  split at h
  · cases h
    have h1 := hl _ (List.mem_singleton.2 rfl)
    simp only [decide_eq_true_eq] at h1
    exact hk _ h1.1 h1.2 w
  · cases h
def conL : Con := alt 124 (gu len64V) conN
theorem conL_ok : ConOk conL := alt_ok Tryz.func124 rfl (gu_ok len64_calls) conN_ok
def ne0 (a : Int) (d : Bool) : Bool × Bool := (a != 0, d)
def yes : Bool × Bool := (true, true)
def no : Bool × Bool := (false, false)
def wd (u : Int) : Bool × Bool := (decide (0 ≤ u ∧ u < 18446744073709551616), true)
def lenB (m u : Int) : Value := .int .i64 (IntKind.i64.wrap (m + (bitLen u.toNat : Nat)))
theorem wlen_3 (x : W4) : Fits (reckon (tabOf Tryz.prog extY conL true) 3000 82 [vW x] [tst true, tst true]) (lenB 192 x.d) [wd x.d, ne0 x.d true, yes] := ⟨by kernel_rfl, by kernel_rfl, by kernel_rfl, by kernel_rfl⟩
theorem wlen_2 (x : W4) : Fits (reckon (tabOf Tryz.prog extY conL true) 3000 82 [vW x] [tst true, tst false, tst true, tst true]) (lenB 128 x.c) [wd x.c, ne0 x.c true, yes, ne0 x.d false, yes] := ⟨by kernel_rfl, by kernel_rfl, by kernel_rfl, by kernel_rfl⟩
theorem wlen_1 (x : W4) : Fits (reckon (tabOf Tryz.prog extY conL true) 3000 82 [vW x] [tst true, tst false, tst true, tst false, tst true, tst true]) (lenB 64 x.b) [wd x.b, ne0 x.b true, yes, ne0 x.c false, yes, ne0 x.d false, yes] := ⟨by kernel_rfl, by kernel_rfl, by kernel_rfl, by kernel_rfl⟩
theorem wlen_0 (x : W4) : Fits (reckon (tabOf Tryz.prog extY conL true) 3000 82 [vW x] [tst true, tst false, tst true, tst false, tst true, tst false, tst true, tst true]) (lenB 0 x.a) [wd x.a, ne0 x.a true, yes, ne0 x.b false, yes, ne0 x.c false, yes, ne0 x.d false, yes] := ⟨by kernel_rfl, by kernel_rfl, by kernel_rfl, by kernel_rfl⟩
theorem wlen_n (x : W4) : Fits (reckon (tabOf Tryz.prog extY conL true) 3000 82 [vW x] [tst true, tst false, tst true, tst false, tst true, tst false, tst true, tst false, tst false]) (.int .i64 0) [no, ne0 x.a false, yes, ne0 x.b false, yes, ne0 x.c false, yes, ne0 x.d false, yes] := ⟨by kernel_rfl, by kernel_rfl, by kernel_rfl, by kernel_rfl⟩
def lenI (x : W4) : Int := (bitLen x.val.toNat : Nat)
def lenV4 (x : W4) : Value := .int .i64 (lenI x)
theorem lenB_eq {m u : Int} (h0 : 0 ≤ m) (h1 : m ≤ 192) (hu : 0 ≤ u ∧ u < 18446744073709551616) : lenB m u = .int .i64 (m + (bitLen u.toNat : Nat)) := by
  have : bitLen u.toNat ≤ 64 := by
    unfold bitLen
    split
    · omega
    · rename_i h
      have := (Nat.log2_lt h).2 (show u.toNat < 2 ^ 64 by have : (2 : Nat) ^ 64 = 18446744073709551616 := rfl; omega)
      omega
  unfold lenB
  rw [wrap_i64' (by omega) (by omega)]
theorem ne_t {a : Int} (h : a ≠ 0) : (ne0 a true).1 = (ne0 a true).2 := bne_iff_ne.2 h
theorem ne_f {a : Int} (h : a = 0) : (ne0 a false).1 = (ne0 a false).2 := by subst h; rfl
theorem wd_ok {u : Int} (h : 0 ≤ u ∧ u < 18446744073709551616) : (wd u).1 = (wd u).2 := decide_eq_true h
theorem yes_ok : yes.1 = yes.2 := rfl
theorem no_ok : no.1 = no.2 := rfl
theorem len_high {X b U : Nat} (hU : U ≠ 0) (h : X / 2 ^ b = U) : bitLen X = b + bitLen U := by
  rw [← h]
  exact bitLen_shift X b (by omega)
set_option maxRecDepth 100000 in
theorem wlen_calls (x : W4) (hx : x.ok) (w : World) : Calls Tryz.prog 82 #[vW x] w fun e w' => e = .returned (lenV4 x) ∧ Tidy w w' := by
  have hx' := hx
  obtain ⟨a, b, c, d⟩ := x
  obtain ⟨h1, h2, h3, h4⟩ := hx
  unfold lenV4 lenI W4.val
  dsimp only at *
  by_cases e4 : d = 0
  · by_cases e3 : c = 0
    · by_cases e2 : b = 0
      · by_cases e1 : a = 0
        · subst e1 e2 e3 e4
          exact fits_calls (tabY_ok conL_ok) (wlen_n ⟨0, 0, 0, 0⟩) (okPC no_ok (okPC (ne_f rfl) (okPC yes_ok (okPC (ne_f rfl) (okPC yes_ok (okPC (ne_f rfl) (okPC yes_ok (okPC (ne_f rfl) (okP1 yes_ok))))))))) (by rfl) (by rfl) w
        · have h := fits_calls (tabY_ok conL_ok) (wlen_0 ⟨a, b, c, d⟩) (okPC (wd_ok h1) (okPC (ne_t e1) (okPC yes_ok (okPC (ne_f e2) (okPC yes_ok (okPC (ne_f e3) (okPC yes_ok (okPC (ne_f e4) (okP1 yes_ok))))))))) (by rfl) (by rfl) w
          rw [lenB_eq (by omega) (by omega) h1] at h
          subst e2 e3 e4
          simp at h ⊢
          exact h
      · have h := fits_calls (tabY_ok conL_ok) (wlen_1 ⟨a, b, c, d⟩) (okPC (wd_ok h2) (okPC (ne_t e2) (okPC yes_ok (okPC (ne_f e3) (okPC yes_ok (okPC (ne_f e4) (okP1 yes_ok))))))) (by rfl) (by rfl) w
        rw [lenB_eq (by omega) (by omega) h2] at h
        have p : (2 : Nat) ^ 64 = 18446744073709551616 := rfl
        have l := len_high (X := (a + 18446744073709551616 * b + 340282366920938463463374607431768211456 * c + 6277101735386680763835789423207666416102355444464034512896 * d).toNat) (b := 64) (U := b.toNat) (by omega) (by rw [p]; omega)
        rw [l]
        simp at h ⊢
        exact h
    · have h := fits_calls (tabY_ok conL_ok) (wlen_2 ⟨a, b, c, d⟩) (okPC (wd_ok h3) (okPC (ne_t e3) (okPC yes_ok (okPC (ne_f e4) (okP1 yes_ok))))) (by rfl) (by rfl) w
      rw [lenB_eq (by omega) (by omega) h3] at h
      have p : (2 : Nat) ^ 128 = 340282366920938463463374607431768211456 := rfl
      have l := len_high (X := (a + 18446744073709551616 * b + 340282366920938463463374607431768211456 * c + 6277101735386680763835789423207666416102355444464034512896 * d).toNat) (b := 128) (U := c.toNat) (by omega) (by rw [p]; omega)
      rw [l]
      simp at h ⊢
      exact h
  · have h := fits_calls (tabY_ok conL_ok) (wlen_3 ⟨a, b, c, d⟩) (okPC (wd_ok h4) (okPC (ne_t e4) (okP1 yes_ok))) (by rfl) (by rfl) w
    rw [lenB_eq (by omega) (by omega) h4] at h
    have p : (2 : Nat) ^ 192 = 6277101735386680763835789423207666416102355444464034512896 := rfl
    have l := len_high (X := (a + 18446744073709551616 * b + 340282366920938463463374607431768211456 * c + 6277101735386680763835789423207666416102355444464034512896 * d).toNat) (b := 192) (U := d.toNat) (by omega) (by rw [p]; omega)
    rw [l]
    simp at h ⊢
    exact h
/-- of one number -/
def g1 (k : W4 → Value) : Ans := fun vals s =>
  match vals with
  | [x] =>
    match w4 x with
    | some a => some (k a, s, [(decide a.ok, true)])
    | none => none
  | _ => none
theorem g1_ok {f : Nat} {k : W4 → Value} (hk : ∀ x : W4, x.ok → ∀ w, Calls Tryz.prog f #[vW x] w fun e w' => e = .returned (k x) ∧ Tidy w w') : AnsOk f (g1 k) := by
  intro vals s v s' lg h hl w
  unfold g1 at h
  split at h
  · split at h
    · rename_i a ha
      cases h
      have h1 := hl _ (List.mem_singleton.2 rfl)
      simp only [decide_eq_true_eq] at h1
      rw [w4_spec ha]
      exact hk a h1 w
    · cases h
  · cases h
/-! ### Bit -/
def andd (z : Int) : Int := IntKind.u64.wrap ((BitVec.ofInt 64 z &&& BitVec.ofInt 64 1).toNat : Nat)
theorem andd_eq {z : Int} (h0 : 0 ≤ z) (h1 : z < 18446744073709551616) : andd z = z % 2 := by
  obtain ⟨Z, rfl⟩ := Int.eq_ofNat_of_zero_le h0
  unfold andd
  have e1 : (BitVec.ofInt 64 (Z : Int)).toNat = Z := by simp; omega
  have e2 : (BitVec.ofInt 64 1).toNat = 1 := rfl
  rw [BitVec.toNat_and, e1, e2, Nat.and_one_is_mod, wrap_u64]
  omega
def lb (n k : Int) : Log := [(decide ((64 : Int) = 0), false), (decide (IntKind.i64.wrap (n.tdiv 64) = k), true), (decide (n ≥ 256), false), (decide (n < 0), false)]
theorem bit_low (x : W4) (n : Int) : Fits (reckon (tabOf Tryz.prog extY conN true) 3000 86 [vW x, .int .i64 n] [cmp true]) (.int .u64 0) [(decide (n < 0), true)] := ⟨by kernel_rfl, by kernel_rfl, by kernel_rfl, by kernel_rfl⟩
theorem bit_high (x : W4) (n : Int) : Fits (reckon (tabOf Tryz.prog extY conN true) 3000 86 [vW x, .int .i64 n] [cmp false, cmp true]) (.int .u64 0) [(decide (n ≥ 256), true), (decide (n < 0), false)] := ⟨by kernel_rfl, by kernel_rfl, by kernel_rfl, by kernel_rfl⟩
theorem bit_0 (x : W4) (n : Int) : Fits (reckon (tabOf Tryz.prog extY conN true) 3000 86 [vW x, .int .i64 n] [cmp false, cmp false, num 0]) (.int .u64 (andd (dn' x.a n))) (lu n :: lb n 0) := ⟨by kernel_rfl, by kernel_rfl, by kernel_rfl, by kernel_rfl⟩
theorem bit_1 (x : W4) (n : Int) : Fits (reckon (tabOf Tryz.prog extY conN true) 3000 86 [vW x, .int .i64 n] [cmp false, cmp false, num 1]) (.int .u64 (andd (dn' x.b n))) (lu n :: lb n 1) := ⟨by kernel_rfl, by kernel_rfl, by kernel_rfl, by kernel_rfl⟩
theorem bit_2 (x : W4) (n : Int) : Fits (reckon (tabOf Tryz.prog extY conN true) 3000 86 [vW x, .int .i64 n] [cmp false, cmp false, num 2]) (.int .u64 (andd (dn' x.c n))) (lu n :: lb n 2) := ⟨by kernel_rfl, by kernel_rfl, by kernel_rfl, by kernel_rfl⟩
theorem bit_3 (x : W4) (n : Int) : Fits (reckon (tabOf Tryz.prog extY conN true) 3000 86 [vW x, .int .i64 n] [cmp false, cmp false, num 3]) (.int .u64 (andd (dn' x.d n))) (lu n :: lb n 3) := ⟨by kernel_rfl, by kernel_rfl, by kernel_rfl, by kernel_rfl⟩
def bitI (x : W4) (n : Int) : Int := if n < 0 then 0 else if 256 ≤ n then 0 else x.val / 2 ^ n.toNat % 2
def bitV4 (x : W4) (n : Int) : Value := .int .u64 (bitI x n)
theorem lb_ok {n k : Int} (h1 : ¬ n < 0) (h2 : ¬ 256 ≤ n) (h3 : n / 64 = k) : okLog (lb n k) := by
  refine okPC (by rfl) (okPC (decide_eq_true ?_) (okPC (decide_eq_false h2) (okP1 (decide_eq_false h1))))
  rw [Int.tdiv_eq_ediv_of_nonneg (by omega), wrap_i64' (by omega) (by omega)]
  exact h3
/-- the lowest bit of a word moved down is that of the number moved down -/
theorem low_bit {x : W4} {n : Int} {a b : Int} (hn : 0 ≤ n) (ha : 0 ≤ a ∧ a < 18446744073709551616) (hb : 0 ≤ b ∧ b < 18446744073709551616) (h : (W4.of (x.val / 2 ^ n.toNat)).a = orr (dn' a n) (up' b n)) :
    andd (dn' a n) = x.val / 2 ^ n.toNat % 2 := by
  obtain ⟨l, o, d, s, m, l0, l1, e⟩ := pieces' hn ha hb
  have ev := up'_even hn hb
  rw [andd_eq d.1 d.2]
  rw [o] at h
  unfold W4.of at h
  dsimp only at h
  omega
theorem low_bit' {x : W4} {n : Int} {a : Int} (hn : 0 ≤ n) (ha : 0 ≤ a ∧ a < 18446744073709551616) (h : (W4.of (x.val / 2 ^ n.toNat)).a = dn' a n) : andd (dn' a n) = x.val / 2 ^ n.toNat % 2 := by
  obtain ⟨l, o, d, s, m, l0, l1, e⟩ := pieces' hn ha ha
  rw [andd_eq d.1 d.2]
  unfold W4.of at h
  dsimp only at h
  omega
set_option maxRecDepth 100000 in
theorem bit_calls (x : W4) (n : Int) (hx : x.ok) (_h0 : -9223372036854775808 ≤ n) (_h9 : n ≤ 9223372036854775807) (w : World) : Calls Tryz.prog 86 #[vW x, .int .i64 n] w fun e w' => e = .returned (bitV4 x n) ∧ Tidy w w' := by
  unfold bitV4 bitI
  by_cases h1 : n < 0
  · rw [if_pos h1]
    exact fits_calls (tabY_ok conN_ok) (bit_low x n) (okP1 (decide_eq_true h1)) (by rfl) (by rfl) w
  · rw [if_neg h1]
    by_cases h2 : 256 ≤ n
    · rw [if_pos h2]
      exact fits_calls (tabY_ok conN_ok) (bit_high x n) (okPC (decide_eq_true h2) (okP1 (decide_eq_false h1))) (by rfl) (by rfl) w
    · rw [if_neg h2]
      have hn : 0 ≤ n := by omega
      have u := lu_ok hn
      obtain ⟨k1, k2, k3, k4⟩ := hx
      have hj : n / 64 = 0 ∨ n / 64 = 1 ∨ n / 64 = 2 ∨ n / 64 = 3 := by omega
      rcases hj with hj | hj | hj | hj
      · obtain ⟨e1, _⟩ := shr0_eq (x := x) ⟨k1, k2, k3, k4⟩ hn hj
        rw [← low_bit hn k1 k2 (by rw [← e1]; rfl)]
        exact fits_calls (tabY_ok conN_ok) (bit_0 x n) (okPC u (lb_ok h1 h2 hj)) (by rfl) (by rfl) w
      · obtain ⟨e1, _⟩ := shr1_eq (x := x) ⟨k1, k2, k3, k4⟩ hn hj
        rw [← low_bit hn k2 k3 (by rw [← e1]; rfl)]
        exact fits_calls (tabY_ok conN_ok) (bit_1 x n) (okPC u (lb_ok h1 h2 hj)) (by rfl) (by rfl) w
      · obtain ⟨e1, _⟩ := shr2_eq (x := x) ⟨k1, k2, k3, k4⟩ hn hj
        rw [← low_bit hn k3 k4 (by rw [← e1]; rfl)]
        exact fits_calls (tabY_ok conN_ok) (bit_2 x n) (okPC u (lb_ok h1 h2 hj)) (by rfl) (by rfl) w
      · obtain ⟨e1, _⟩ := shr3_eq (x := x) ⟨k1, k2, k3, k4⟩ hn hj
        rw [← low_bit' hn k4 (by rw [← e1]; rfl)]
        exact fits_calls (tabY_ok conN_ok) (bit_3 x n) (okPC u (lb_ok h1 h2 hj)) (by rfl) (by rfl) w
end Go.Proofs.YtjlponbdflkbjaaGreatDoor
namespace Go.Proofs.YtjlponbdflkbjaaGreatDoor
open Go.KRun Go.Wd Go.Pt Go.Rn
set_option maxRecDepth 100000
/-! ### goesUp -/
theorem u0 (c m : Int) (o n : Bool) : Fits (reckon (tabOf Tryz.prog extY conN true) 300 85 [.int .i64 c, .bool o, .bool n, .int .i64 m] [cmp true]) (Value.bool false) [(c == 0, true)] := ⟨by kernel_rfl, by kernel_rfl, by kernel_rfl, by kernel_rfl⟩
theorem u2 (c m : Int) (o n : Bool) : Fits (reckon (tabOf Tryz.prog extY conN true) 300 85 [.int .i64 c, .bool o, .bool n, .int .i64 m] [cmp false, cmp true]) (Value.bool false) [(m == 2, true), (c == 0, false)] := ⟨by kernel_rfl, by kernel_rfl, by kernel_rfl, by kernel_rfl⟩
theorem u3 (c m : Int) (o n : Bool) : Fits (reckon (tabOf Tryz.prog extY conN true) 300 85 [.int .i64 c, .bool o, .bool n, .int .i64 m] [cmp false, cmp false, cmp true]) (Value.bool !n) [(m == 3, true), (m == 2, false), (c == 0, false)] := ⟨by kernel_rfl, by kernel_rfl, by kernel_rfl, by kernel_rfl⟩
theorem u4 (c m : Int) (o n : Bool) : Fits (reckon (tabOf Tryz.prog extY conN true) 300 85 [.int .i64 c, .bool o, .bool n, .int .i64 m] [cmp false, cmp false, cmp false, cmp true]) (Value.bool n) [(m == 4, true), (m == 3, false), (m == 2, false), (c == 0, false)] := ⟨by kernel_rfl, by kernel_rfl, by kernel_rfl, by kernel_rfl⟩
theorem u1 (c m : Int) (o n : Bool) : Fits (reckon (tabOf Tryz.prog extY conN true) 300 85 [.int .i64 c, .bool o, .bool n, .int .i64 m] [cmp false, cmp false, cmp false, cmp false, cmp true]) (Value.bool (decide (c ≥ 2))) [(m == 1, true), (m == 4, false), (m == 3, false), (m == 2, false), (c == 0, false)] := ⟨by kernel_rfl, by kernel_rfl, by kernel_rfl, by kernel_rfl⟩
theorem ua (c m : Int) (o n : Bool) : Fits (reckon (tabOf Tryz.prog extY conN true) 300 85 [.int .i64 c, .bool o, .bool n, .int .i64 m] [cmp false, cmp false, cmp false, cmp false, cmp false, cmp true]) (Value.bool true) [(decide (c > 2), true), (m == 1, false), (m == 4, false), (m == 3, false), (m == 2, false), (c == 0, false)] := ⟨by kernel_rfl, by kernel_rfl, by kernel_rfl, by kernel_rfl⟩
theorem ub (c m : Int) (o n : Bool) : Fits (reckon (tabOf Tryz.prog extY conN true) 300 85 [.int .i64 c, .bool o, .bool n, .int .i64 m] [cmp false, cmp false, cmp false, cmp false, cmp false, cmp false, cmp true]) (Value.bool o) [(c == 2, true), (decide (c > 2), false), (m == 1, false), (m == 4, false), (m == 3, false), (m == 2, false), (c == 0, false)] := ⟨by kernel_rfl, by kernel_rfl, by kernel_rfl, by kernel_rfl⟩
theorem uc (c m : Int) (o n : Bool) : Fits (reckon (tabOf Tryz.prog extY conN true) 300 85 [.int .i64 c, .bool o, .bool n, .int .i64 m] [cmp false, cmp false, cmp false, cmp false, cmp false, cmp false, cmp false]) (Value.bool false) [(c == 2, false), (decide (c > 2), false), (m == 1, false), (m == 4, false), (m == 3, false), (m == 2, false), (c == 0, false)] := ⟨by kernel_rfl, by kernel_rfl, by kernel_rfl, by kernel_rfl⟩
def gUp : Ans := fun vals s =>
  match vals with
  | [.int .i64 c, .bool o, .bool n, .int .i64 m] => some (.bool (upR m n o c), s, [])
  | _ => none
theorem up_calls (c m : Int) (o n : Bool) (w : World) : Calls Tryz.prog 85 #[.int .i64 c, .bool o, .bool n, .int .i64 m] w fun e w' => e = .returned (.bool (upR m n o c)) ∧ Tidy w w' := by
  unfold upR
  by_cases h0 : c = 0
  · rw [if_pos h0]
    exact fits_calls (tabY_ok conN_ok) (u0 c m o n) (by simp [okCs, okNl, h0]) (by rfl) (by rfl) w
  · rw [if_neg h0]
    by_cases h2 : m = 2
    · rw [if_pos h2]
      exact fits_calls (tabY_ok conN_ok) (u2 c m o n) (by simp [okCs, okNl, h0, h2]) (by rfl) (by rfl) w
    · rw [if_neg h2]
      by_cases h3 : m = 3
      · rw [if_pos h3]
        exact fits_calls (tabY_ok conN_ok) (u3 c m o n) (by simp [okCs, okNl, h0, h3]) (by rfl) (by rfl) w
      · rw [if_neg h3]
        by_cases h4 : m = 4
        · rw [if_pos h4]
          exact fits_calls (tabY_ok conN_ok) (u4 c m o n) (by simp [okCs, okNl, h0, h4]) (by rfl) (by rfl) w
        · rw [if_neg h4]
          by_cases h1 : m = 1
          · rw [if_pos h1]
            exact fits_calls (tabY_ok conN_ok) (u1 c m o n) (by simp [okCs, okNl, h0, h1]) (by rfl) (by rfl) w
          · rw [if_neg h1]
            by_cases ha : 2 < c
            · have e : (decide (2 < c) || (decide (c = 2) && o)) = true := by simp [ha]
              rw [e]
              exact fits_calls (tabY_ok conN_ok) (ua c m o n) (by simp [okCs, okNl, h0, h1, h2, h3, h4, ha]) (by rfl) (by rfl) w
            · by_cases hb : c = 2
              · have e : (decide (2 < c) || (decide (c = 2) && o)) = o := by simp [hb]
                rw [e]
                exact fits_calls (tabY_ok conN_ok) (ub c m o n) (by simp [okCs, okNl, h1, h2, h3, h4, hb]) (by rfl) (by rfl) w
              · have e : (decide (2 < c) || (decide (c = 2) && o)) = false := by simp [ha, hb]
                rw [e]
                exact fits_calls (tabY_ok conN_ok) (uc c m o n) (by simp [okCs, okNl, h0, h1, h2, h3, h4, hb]; omega) (by rfl) (by rfl) w
theorem gUp_ok : AnsOk 85 gUp := by
  intro vals s v s' lg h hl w
  unfold gUp at h
  split at h
  · cases h; exact up_calls _ _ _ _ w
  · cases h
/-! ### what is known of wide -/
def conW : Con := alt 74 (g1n (plain1n shlV4)) (alt 125 (g1n shrB) (alt 86 (g1n (plain1n bitV4)) (alt 82 (g1 lenV4) (alt 73 (g2 (plain2 addV4)) conN))))
theorem conW_ok : ConOk conW := alt_ok Tryz.func74 rfl (plain1n_ok shl_calls) (alt_ok Tryz.func125 rfl shrB_ok (alt_ok Tryz.func86 rfl (plain1n_ok bit_calls) (alt_ok Tryz.func82 rfl (g1_ok wlen_calls) (alt_ok Tryz.func73 rfl (plain2_ok add_calls) conN_ok))))
theorem shlW_nat {x : W4} (hx : x.ok) {n : Int} (hn : 0 ≤ n) : shlW x n = ofN (x.nat * 2 ^ n.toNat) := by
  unfold shlW
  by_cases h1 : n < 1
  · have : n = 0 := by omega
    subst this
    rw [if_pos h1]
    simp [ofN_self hx]
  · rw [if_neg h1]
    by_cases h2 : 256 ≤ n
    · rw [if_pos h2, ofN_big (by omega)]
    · rw [if_neg h2, W4.nat_val hx, cast_pow]
      unfold ofN
      congr 1
theorem shrW_nat {x : W4} (hx : x.ok) {n : Int} (hn : 0 ≤ n) : shrW x n = ofN (x.nat / 2 ^ n.toNat) := by
  unfold shrW
  by_cases h1 : n < 1
  · have : n = 0 := by omega
    subst this
    rw [if_pos h1]
    simp [ofN_self hx]
  · rw [if_neg h1]
    by_cases h2 : 256 ≤ n
    · rw [if_pos h2, small_div (W4.nat_lt hx) (by omega), ofN_zero]
    · rw [if_neg h2, W4.nat_val hx, cast_pow]
      unfold ofN
      congr 1
theorem shrL_nat {x : W4} (hx : x.ok) {n : Int} (hn : 0 ≤ n) : shrL x n = decide (x.nat % 2 ^ n.toNat ≠ 0) := by
  unfold shrL
  by_cases h1 : n < 1
  · have : n = 0 := by omega
    subst this
    rw [if_pos h1]
    simp [Nat.mod_one]
  · rw [if_neg h1]
    by_cases h2 : 256 ≤ n
    · rw [if_pos h2, small_mod (W4.nat_lt hx) (by omega), W4.nat_val hx]
      congr 1
      simp
    · rw [if_neg h2, W4.nat_val hx, cast_pow]
      congr 1
      have : ((x.nat : Int) % ((2 ^ n.toNat : Nat) : Int)) = ((x.nat % 2 ^ n.toNat : Nat) : Int) := rfl
      rw [this]
      simp only [ne_eq, eq_iff_iff]
      omega
theorem bitI_nat {x : W4} (hx : x.ok) {n : Int} (hn : 0 ≤ n) : bitI x n = ((x.nat / 2 ^ n.toNat % 2 : Nat) : Int) := by
  unfold bitI
  rw [if_neg (by omega)]
  by_cases h2 : 256 ≤ n
  · rw [if_pos h2, small_div (W4.nat_lt hx) (by omega)]
    rfl
  · rw [if_neg h2, W4.nat_val hx, cast_pow]
    rfl
/-! ### halves -/
def hv (x : W4) (b : Bool) : W4 := match b with | true => ⟨bOr (shlW x 1).a 1, (shlW x 1).b, (shlW x 1).c, (shlW x 1).d⟩ | false => shlW x 1
def lOne (x : W4) : Bool × Bool := (decide (x.ok ∧ (-9223372036854775808 : Int) ≤ 1 ∧ (1 : Int) ≤ 9223372036854775807), true)
theorem hv_fits (x : W4) (b : Bool) : Fits (reckon (tabOf Tryz.prog extY conW true) 300 83 [vW x, .bool b] []) (vW (hv x b)) [lOne x] := by
  cases b <;> exact ⟨by kernel_rfl, by kernel_rfl, by kernel_rfl, by kernel_rfl⟩
theorem bOr_comm (x y : Int) : bOr x y = bOr y x := by unfold bOr; rw [BitVec.or_comm]
theorem hv_eq {x : W4} (hx : x.ok) (b : Bool) : hv x b = ofN (tw x b) := by
  have e1 := shlW_nat hx (n := 1) (by omega)
  have e2 : x.nat * 2 ^ (1 : Int).toNat = 2 * x.nat := by simp [Nat.mul_comm]
  rw [e2] at e1
  cases b
  · unfold hv tw
    simp only [Nat.add_zero]
    exact e1
  · unfold hv tw
    simp only
    rw [e1]
    have e3 : bOr (ofN (2 * x.nat)).a 1 = (ofN (2 * x.nat)).a + 1 := by
      have hb : 0 ≤ (ofN (2 * x.nat)).a ∧ (ofN (2 * x.nat)).a < 18446744073709551616 := (ofN_ok _).1
      have hev : (ofN (2 * x.nat)).a % 2 = 0 := by unfold ofN W4.of; dsimp only; omega
      rw [bOr_comm, or_low 1 (z := (ofN (2 * x.nat)).a / 2) (by omega) (by omega) (by omega) (by decide) (by omega)]
    rw [e3]
    unfold ofN W4.of
    refine W4.ext' ?_ ?_ ?_ ?_ <;> dsimp only <;> omega
def gHv : Ans := fun vals s =>
  match vals with
  | [x, .bool b] =>
    match w4 x with
    | some a => some (vW (ofN (tw a b)), s, [(decide a.ok, true)])
    | none => none
  | _ => none
theorem gHv_ok : AnsOk 83 gHv := by
  intro vals s v s' lg h hl w
  unfold gHv at h
  split at h
  · split at h
    · rename_i a ha
      cases h
      have h1 : a.ok := of_decide_eq_true (hl _ (List.mem_singleton.2 rfl))
      rw [w4_spec ha, ← hv_eq h1]
      exact fits_calls (tabY_ok conW_ok) (hv_fits a _) (okL1 (decide_eq_true ⟨h1, by omega, by omega⟩)) (by rfl) (by rfl) w
    · cases h
  · cases h
def conH : Con := alt 83 gHv conW
theorem conH_ok : ConOk conH := alt_ok Tryz.func83 rfl gHv_ok conW_ok
/-! ### numbers -/
def vN (n : Bool) (e : Int) (x : W4) (b : Bool) : Value := .agg #[.bool n, .int .i64 e, .int .u64 x.a, .int .u64 x.b, .int .u64 x.c, .int .u64 x.d, .bool b]
def n7 : Value → Option (Bool × Int × W4 × Bool)
  | .agg cs =>
    match cs.toList with
    | [.bool n, .int .i64 e, .int .u64 a, .int .u64 b, .int .u64 c, .int .u64 d, .bool m] => some (n, e, ⟨a, b, c, d⟩, m)
    | _ => none
  | _ => none
theorem n7_spec {v : Value} {n m : Bool} {e : Int} {x : W4} (h : n7 v = some (n, e, x, m)) : v = vN n e x m := by
  unfold n7 at h
  split at h
  · rename_i cs
    split at h
    · rename_i a b c d hc
      cases h
      obtain ⟨l⟩ := cs
      simp only at hc
      subst hc
      rfl
    · cases h
  · cases h
/-! ### cut -/
def lok (x : W4) (n : Int) : Bool × Bool := (decide (x.ok ∧ -9223372036854775808 ≤ n ∧ n ≤ 9223372036854775807), true)
def dnI (ex e : Int) : Int := IntKind.i64.wrap (e - ex)
def dn1 (ex e : Int) : Int := IntKind.i64.wrap (IntKind.i64.wrap (e - ex) - 1)
def ctV (x : W4) (ex e c : Int) : Value := .tuple #[vW (shrW x (dnI ex e)), .int .i64 c]
theorem ct0 (n : Bool) (x : W4) (ex e : Int) : Fits (reckon (tabOf Tryz.prog extY conH true) 300 84 [vN n ex x false, .int .i64 e] [cmp false]) (ctV x ex e 0) [lok x (dnI ex e), (shrL x (dnI ex e), false)] := ⟨by kernel_rfl, by kernel_rfl, by kernel_rfl, by kernel_rfl⟩
theorem ct1 (n : Bool) (x : W4) (ex e : Int) : Fits (reckon (tabOf Tryz.prog extY conH true) 300 84 [vN n ex x true, .int .i64 e] [cmp false, cmp true]) (ctV x ex e 2) [(dnI ex e == 0, true), lok x (dnI ex e), (shrL x (dnI ex e), false)] := ⟨by kernel_rfl, by kernel_rfl, by kernel_rfl, by kernel_rfl⟩
theorem ct2 (n : Bool) (x : W4) (ex e : Int) (d : Bool) : Fits (reckon (tabOf Tryz.prog extY conH true) 300 84 [vN n ex x true, .int .i64 e] [cmp false, cmp false, cmp d]) (ctV x ex e (match d with | true => 1 | false => 3)) [(bitI x (dn1 ex e) == 0, d), lok x (dn1 ex e), (dnI ex e == 0, false), lok x (dnI ex e), (shrL x (dnI ex e), false)] := by
  cases d <;> exact ⟨by kernel_rfl, by kernel_rfl, by kernel_rfl, by kernel_rfl⟩
theorem ct4 (n b : Bool) (x : W4) (ex e : Int) : Fits (reckon (tabOf Tryz.prog extY conH true) 300 84 [vN n ex x b, .int .i64 e] [cmp true, cmp false, cmp true]) (ctV x ex e 1) [(bitI x (dn1 ex e) == 0, true), lok x (dn1 ex e), (dnI ex e == 0, false), lok x (dnI ex e), (shrL x (dnI ex e), true)] := ⟨by kernel_rfl, by kernel_rfl, by kernel_rfl, by kernel_rfl⟩
theorem ct5 (n : Bool) (x : W4) (ex e : Int) : Fits (reckon (tabOf Tryz.prog extY conH true) 300 84 [vN n ex x true, .int .i64 e] [cmp true, cmp false, cmp false]) (ctV x ex e 3) [(bitI x (dn1 ex e) == 0, false), lok x (dn1 ex e), (dnI ex e == 0, false), lok x (dnI ex e), (shrL x (dnI ex e), true)] := ⟨by kernel_rfl, by kernel_rfl, by kernel_rfl, by kernel_rfl⟩
def bkW (x : W4) (ex e : Int) : W4 := shlW (ofN (tw (shrW x (dnI ex e)) true)) (dn1 ex e)
theorem ct6 (n : Bool) (x : W4) (ex e : Int) (d : Bool) : Fits (reckon (tabOf Tryz.prog extY conH true) 300 84 [vN n ex x false, .int .i64 e] [cmp true, cmp false, cmp false, sam d]) (ctV x ex e (match d with | true => 3 | false => 2)) [(!(eqW x (bkW x ex e)), d), lok (ofN (tw (shrW x (dnI ex e)) true)) (dn1 ex e), (decide (shrW x (dnI ex e)).ok, true), (bitI x (dn1 ex e) == 0, false), lok x (dn1 ex e), (dnI ex e == 0, false), lok x (dnI ex e), (shrL x (dnI ex e), true)] := by
  cases d <;> exact ⟨by kernel_rfl, by kernel_rfl, by kernel_rfl, by kernel_rfl⟩
end Go.Proofs.YtjlponbdflkbjaaGreatDoor
