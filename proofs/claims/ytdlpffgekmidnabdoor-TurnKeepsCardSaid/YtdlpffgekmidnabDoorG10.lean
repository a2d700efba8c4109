/-
  Con2, Con3, Con4, RunS, RunT, NumK
-/
import Derived.Test.YtdlpffgekmidnabDoorG09
import Derived.Laws.MathBits
namespace Go.Proofs.YtdlpffgekmidnabDoor
open Go.KRun Go.Wd
/-- of a number and an int -/
def g1n (k : W4 → Int → List Dec → Option (Value × List Dec × Log)) : Ans := fun vals s =>
  match vals with
  | [x, .int .i64 n] =>
    match w4 x with
    | some a =>
      match k a n s with
      | some r => some (r.1, r.2.1, (decide (a.ok ∧ -9223372036854775808 ≤ n ∧ n ≤ 9223372036854775807), true) :: r.2.2)
      | none => none
    | none => none
  | _ => none
theorem g1n_ok {f : Nat} {k : W4 → Int → List Dec → Option (Value × List Dec × Log)}
    (hk : ∀ (x : W4) (n : Int), x.ok → -9223372036854775808 ≤ n → n ≤ 9223372036854775807 → ∀ s v s' lg, k x n s = some (v, s', lg) → okLog lg → ∀ w, Calls Tryd.prog f #[vW x, .int .i64 n] w fun e w' => e = .returned v ∧ Tidy w w') : AnsOk f (g1n k) := by
  intro vals s v s' lg h hl w
  unfold g1n at h
  split at h
  · split at h
    · rename_i a ha
      split at h
      · rename_i r hr
        cases h
        have h1 := hl _ (List.mem_cons_self)
        simp only [decide_eq_true_eq] at h1
        rw [w4_spec ha]
        exact hk a _ h1.1 h1.2.1 h1.2.2 s r.1 r.2.1 r.2.2 hr (fun p hp => hl p (List.mem_cons_of_mem _ hp)) w
      · cases h
    · cases h
  · cases h
def plain1n (k : W4 → Int → Value) : W4 → Int → List Dec → Option (Value × List Dec × Log) := fun x n s => some (k x n, s, [])
theorem plain1n_ok {f : Nat} {k : W4 → Int → Value} (hk : ∀ (x : W4) (n : Int), x.ok → -9223372036854775808 ≤ n → n ≤ 9223372036854775807 → ∀ w, Calls Tryd.prog f #[vW x, .int .i64 n] w fun e w' => e = .returned (k x n) ∧ Tidy w w') : AnsOk f (g1n (plain1n k)) :=
  g1n_ok fun x n hx h0 h1 s v s' lg h _ w => by
    unfold plain1n at h
    cases h
    exact hk x n hx h0 h1 w
theorem okP1 {p : Bool × Bool} (h : p.1 = p.2) : okLog [p] := fun x hx => by rw [List.mem_singleton.1 hx]; exact h
theorem okPC {p : Bool × Bool} {l : Log} (h : p.1 = p.2) (hl : okLog l) : okLog (p :: l) := fun x hx => by
  rcases List.mem_cons.1 hx with rfl | hx
  · exact h
  · exact hl x hx
/-! ### Shl -/
def lu (n : Int) : Bool × Bool := (decide (prt n < 0), false)
def ld (n : Int) : Bool × Bool := (decide (rem n < 0), false)
def lq (n k : Int) : Log := [(decide ((64 : Int) = 0), false), (decide (IntKind.i64.wrap (n.tdiv 64) = k), true), (decide (n ≥ 256), false), (decide (n < 1), false)]
theorem shl_low (x : W4) (n : Int) : Fits (reckon (tabOf Tryd.prog extY conN true) 3000 42 [vW x, .int .i64 n] [tst true]) (vW x) [(decide (n < 1), true)] := ⟨by kernel_rfl, by kernel_rfl, by kernel_rfl, by kernel_rfl⟩
theorem shl_high (x : W4) (n : Int) : Fits (reckon (tabOf Tryd.prog extY conN true) 3000 42 [vW x, .int .i64 n] [tst false, tst true]) (vW ⟨0, 0, 0, 0⟩) [(decide (n ≥ 256), true), (decide (n < 1), false)] := ⟨by kernel_rfl, by kernel_rfl, by kernel_rfl, by kernel_rfl⟩
theorem shl_0 (x : W4) (n : Int) : Fits (reckon (tabOf Tryd.prog extY conN true) 3000 42 [vW x, .int .i64 n] [tst false, tst false, num 0]) (vW (shl0 x n)) (ld n :: lu n :: ld n :: lu n :: ld n :: lu n :: lu n :: lq n 0) := ⟨by kernel_rfl, by kernel_rfl, by kernel_rfl, by kernel_rfl⟩
theorem shl_1 (x : W4) (n : Int) : Fits (reckon (tabOf Tryd.prog extY conN true) 3000 42 [vW x, .int .i64 n] [tst false, tst false, num 1]) (vW (shl1 x n)) (ld n :: lu n :: ld n :: lu n :: lu n :: lq n 1) := ⟨by kernel_rfl, by kernel_rfl, by kernel_rfl, by kernel_rfl⟩
theorem shl_2 (x : W4) (n : Int) : Fits (reckon (tabOf Tryd.prog extY conN true) 3000 42 [vW x, .int .i64 n] [tst false, tst false, num 2]) (vW (shl2 x n)) (ld n :: lu n :: lu n :: lq n 2) := ⟨by kernel_rfl, by kernel_rfl, by kernel_rfl, by kernel_rfl⟩
theorem shl_3 (x : W4) (n : Int) : Fits (reckon (tabOf Tryd.prog extY conN true) 3000 42 [vW x, .int .i64 n] [tst false, tst false, num 3]) (vW (shl3 x n)) (lu n :: lq n 3) := ⟨by kernel_rfl, by kernel_rfl, by kernel_rfl, by kernel_rfl⟩
def shlW (x : W4) (n : Int) : W4 := if n < 1 then x else if 256 ≤ n then ⟨0, 0, 0, 0⟩ else W4.of (x.val * 2 ^ n.toNat)
def shlV4 (x : W4) (n : Int) : Value := vW (shlW x n)
theorem lu_ok {n : Int} (h : 0 ≤ n) : (lu n).1 = (lu n).2 := by
  have := prt_eq h
  exact decide_eq_false (by omega)
theorem ld_ok {n : Int} (h : 0 ≤ n) : (ld n).1 = (ld n).2 := by
  have := rem_eq h
  exact decide_eq_false (by omega)
theorem lq_ok {n k : Int} (h1 : ¬ n < 1) (h2 : ¬ 256 ≤ n) (h3 : n / 64 = k) : okLog (lq n k) := by
  refine okPC (by rfl) (okPC (decide_eq_true ?_) (okPC (decide_eq_false h2) (okP1 (decide_eq_false h1))))
  rw [Int.tdiv_eq_ediv_of_nonneg (by omega), wrap_i64' (by omega) (by omega)]
  exact h3
theorem shl_calls (x : W4) (n : Int) (hx : x.ok) (_h0 : -9223372036854775808 ≤ n) (_h9 : n ≤ 9223372036854775807) (w : World) : Calls Tryd.prog 42 #[vW x, .int .i64 n] w fun e w' => e = .returned (shlV4 x n) ∧ Tidy w w' := by
  unfold shlV4 shlW
  by_cases h1 : n < 1
  · rw [if_pos h1]
    exact fits_calls (tabY_ok conN_ok) (shl_low x n) (okP1 (decide_eq_true h1)) (by rfl) (by rfl) w
  · rw [if_neg h1]
    by_cases h2 : 256 ≤ n
    · rw [if_pos h2]
      exact fits_calls (tabY_ok conN_ok) (shl_high x n) (okPC (decide_eq_true h2) (okP1 (decide_eq_false h1))) (by rfl) (by rfl) w
    · rw [if_neg h2]
      have hn : 0 ≤ n := by omega
      have u := lu_ok hn
      have d := ld_ok hn
      have hj : n / 64 = 0 ∨ n / 64 = 1 ∨ n / 64 = 2 ∨ n / 64 = 3 := by omega
      rcases hj with hj | hj | hj | hj
      · rw [← shl0_eq hx hn hj]
        exact fits_calls (tabY_ok conN_ok) (shl_0 x n) (okPC d (okPC u (okPC d (okPC u (okPC d (okPC u (okPC u (lq_ok h1 h2 hj)))))))) (by rfl) (by rfl) w
      · rw [← shl1_eq hx hn hj]
        exact fits_calls (tabY_ok conN_ok) (shl_1 x n) (okPC d (okPC u (okPC d (okPC u (okPC u (lq_ok h1 h2 hj)))))) (by rfl) (by rfl) w
      · rw [← shl2_eq hx hn hj]
        exact fits_calls (tabY_ok conN_ok) (shl_2 x n) (okPC d (okPC u (okPC u (lq_ok h1 h2 hj)))) (by rfl) (by rfl) w
      · rw [← shl3_eq hx hn hj]
        exact fits_calls (tabY_ok conN_ok) (shl_3 x n) (okPC u (lq_ok h1 h2 hj)) (by rfl) (by rfl) w
/-! ### Shr -/
def conSh : Con := alt 42 (g1n (plain1n shlV4)) conN
theorem conSh_ok : ConOk conSh := alt_ok Tryd.func42 rfl (plain1n_ok shl_calls) conN_ok
def lk (x : W4) (n : Int) : Bool × Bool := (decide (x.ok ∧ -9223372036854775808 ≤ n ∧ n ≤ 9223372036854775807), true)
def shrR (m x : W4) (n : Int) : Value := .tuple #[vW m, .bool (!(eqW (shlW m n) x))]
theorem shr_low (x : W4) (n : Int) : Fits (reckon (tabOf Tryd.prog extY conSh true) 3000 56 [vW x, .int .i64 n] [tst true]) (.tuple #[vW x, .bool false]) [(decide (n < 1), true)] := ⟨by kernel_rfl, by kernel_rfl, by kernel_rfl, by kernel_rfl⟩
theorem shr_high (x : W4) (n : Int) : Fits (reckon (tabOf Tryd.prog extY conSh true) 3000 56 [vW x, .int .i64 n] [tst false, tst true]) (.tuple #[vW ⟨0, 0, 0, 0⟩, .bool (!(eqW x ⟨0, 0, 0, 0⟩))]) [(decide (n ≥ 256), true), (decide (n < 1), false)] := ⟨by kernel_rfl, by kernel_rfl, by kernel_rfl, by kernel_rfl⟩
theorem shr_0 (x : W4) (n : Int) : Fits (reckon (tabOf Tryd.prog extY conSh true) 3000 56 [vW x, .int .i64 n] [tst false, tst false, num 0]) (shrR (shr0 x n) x n) (lk (shr0 x n) n :: lu n :: ld n :: lu n :: ld n :: lu n :: ld n :: lu n :: lq n 0) := ⟨by kernel_rfl, by kernel_rfl, by kernel_rfl, by kernel_rfl⟩
theorem shr_1 (x : W4) (n : Int) : Fits (reckon (tabOf Tryd.prog extY conSh true) 3000 56 [vW x, .int .i64 n] [tst false, tst false, num 1]) (shrR (shr1 x n) x n) (lk (shr1 x n) n :: lu n :: ld n :: lu n :: ld n :: lu n :: lq n 1) := ⟨by kernel_rfl, by kernel_rfl, by kernel_rfl, by kernel_rfl⟩
theorem shr_2 (x : W4) (n : Int) : Fits (reckon (tabOf Tryd.prog extY conSh true) 3000 56 [vW x, .int .i64 n] [tst false, tst false, num 2]) (shrR (shr2 x n) x n) (lk (shr2 x n) n :: lu n :: ld n :: lu n :: lq n 2) := ⟨by kernel_rfl, by kernel_rfl, by kernel_rfl, by kernel_rfl⟩
theorem shr_3 (x : W4) (n : Int) : Fits (reckon (tabOf Tryd.prog extY conSh true) 3000 56 [vW x, .int .i64 n] [tst false, tst false, num 3]) (shrR (shr3 x n) x n) (lk (shr3 x n) n :: lu n :: lq n 3) := ⟨by kernel_rfl, by kernel_rfl, by kernel_rfl, by kernel_rfl⟩
def shrW (x : W4) (n : Int) : W4 := if n < 1 then x else if 256 ≤ n then ⟨0, 0, 0, 0⟩ else W4.of (x.val / 2 ^ n.toNat)
/-- whether a bit is lost -/
def shrL (x : W4) (n : Int) : Bool := if n < 1 then false else if 256 ≤ n then decide (x.val ≠ 0) else decide (x.val % 2 ^ n.toNat ≠ 0)
def shrV4 (x : W4) (n : Int) : Value := .tuple #[vW (shrW x n), .bool (shrL x n)]
theorem zero_iff {x : W4} (hx : x.ok) : (!(eqW x ⟨0, 0, 0, 0⟩)) = decide (x.val ≠ 0) := by
  rw [Bool.eq_iff_iff]
  simp only [Bool.not_eq_true', decide_eq_true_eq, ← Bool.not_eq_true, eqW_iff]
  constructor
  · intro h h0
    exact h (W4.val_inj hx ⟨z64, z64, z64, z64⟩ (h0.trans (by rfl)))
  · intro h h0
    exact h (by rw [h0]; rfl)
theorem lost_iff {x : W4} (hx : x.ok) {n : Int} (h1 : ¬ n < 1) (h2 : ¬ 256 ≤ n) : (!(eqW (shlW (W4.of (x.val / 2 ^ n.toNat)) n) x)) = decide (x.val % 2 ^ n.toNat ≠ 0) := by
  have hp : (0 : Int) < 2 ^ n.toNat := Int.pow_pos (by omega)
  have b := W4.val_bd hx
  have hm := Int.mul_ediv_add_emod x.val (2 ^ n.toNat)
  have h3 := Int.emod_nonneg x.val (Int.ne_of_gt hp)
  have h4 : 0 ≤ x.val / 2 ^ n.toNat := Int.ediv_nonneg b.1 (by omega)
  have h5 : x.val / 2 ^ n.toNat ≤ x.val := by
    have := mul_le_of 1 (2 ^ n.toNat) (x.val / 2 ^ n.toNat) h4 (by omega)
    rw [Int.mul_one, Int.mul_comm] at this
    omega
  have e : shlW (W4.of (x.val / 2 ^ n.toNat)) n = W4.of (x.val - x.val % 2 ^ n.toNat) := by
    unfold shlW
    rw [if_neg h1, if_neg h2, W4.val_of, Int.emod_eq_of_lt h4 (by omega), Int.mul_comm]
    congr 1
    omega
  rw [e, Bool.eq_iff_iff]
  simp only [Bool.not_eq_true', decide_eq_true_eq, ← Bool.not_eq_true, eqW_iff]
  generalize x.val % 2 ^ n.toNat = l at *
  have h6 : 0 ≤ 2 ^ n.toNat * (x.val / 2 ^ n.toNat) := Int.mul_nonneg (by omega) h4
  constructor
  · intro h h0
    apply h
    rw [h0, Int.sub_zero, W4.of_val hx]
  · intro h h0
    have h7 := congrArg W4.val h0
    rw [W4.val_of, Int.emod_eq_of_lt (by omega) (by omega)] at h7
    omega
theorem lk_ok {x : W4} {n : Int} (h : x.ok) (h0 : -9223372036854775808 ≤ n) (h9 : n ≤ 9223372036854775807) : (lk x n).1 = (lk x n).2 := by
  unfold lk
  exact decide_eq_true ⟨h, h0, h9⟩
set_option maxRecDepth 100000 in
theorem shr_calls (x : W4) (n : Int) (hx : x.ok) (h0 : -9223372036854775808 ≤ n) (h9 : n ≤ 9223372036854775807) (w : World) : Calls Tryd.prog 56 #[vW x, .int .i64 n] w fun e w' => e = .returned (shrV4 x n) ∧ Tidy w w' := by
  unfold shrV4 shrW shrL
  by_cases h1 : n < 1
  · rw [if_pos h1, if_pos h1]
    exact fits_calls (tabY_ok conSh_ok) (shr_low x n) (okP1 (decide_eq_true h1)) (by rfl) (by rfl) w
  · rw [if_neg h1, if_neg h1]
    by_cases h2 : 256 ≤ n
    · rw [if_pos h2, if_pos h2, ← zero_iff hx]
      exact fits_calls (tabY_ok conSh_ok) (shr_high x n) (okPC (decide_eq_true h2) (okP1 (decide_eq_false h1))) (by rfl) (by rfl) w
    · rw [if_neg h2, if_neg h2]
      have hn : 0 ≤ n := by omega
      have u := lu_ok hn
      have d := ld_ok hn
      have hl := lost_iff hx h1 h2
      have hj : n / 64 = 0 ∨ n / 64 = 1 ∨ n / 64 = 2 ∨ n / 64 = 3 := by omega
      rw [← hl]
      rcases hj with hj | hj | hj | hj
      · obtain ⟨e1, e2⟩ := shr0_eq hx hn hj
        rw [← e1]
        exact fits_calls (tabY_ok conSh_ok) (shr_0 x n) (okPC (lk_ok e2 h0 h9) (okPC u (okPC d (okPC u (okPC d (okPC u (okPC d (okPC u (lq_ok h1 h2 hj))))))))) (by rfl) (by rfl) w
      · obtain ⟨e1, e2⟩ := shr1_eq hx hn hj
        rw [← e1]
        exact fits_calls (tabY_ok conSh_ok) (shr_1 x n) (okPC (lk_ok e2 h0 h9) (okPC u (okPC d (okPC u (okPC d (okPC u (lq_ok h1 h2 hj))))))) (by rfl) (by rfl) w
      · obtain ⟨e1, e2⟩ := shr2_eq hx hn hj
        rw [← e1]
        exact fits_calls (tabY_ok conSh_ok) (shr_2 x n) (okPC (lk_ok e2 h0 h9) (okPC u (okPC d (okPC u (lq_ok h1 h2 hj))))) (by rfl) (by rfl) w
      · obtain ⟨e1, e2⟩ := shr3_eq hx hn hj
        rw [← e1]
        exact fits_calls (tabY_ok conSh_ok) (shr_3 x n) (okPC (lk_ok e2 h0 h9) (okPC u (lq_ok h1 h2 hj))) (by rfl) (by rfl) w
/-- a test that is decided ahead, by another word -/
def pickC (b : Bool) : List Dec → Bool × List Dec × Log
  | .inr (.inr (.inr (.inl d))) :: s => (d, s, [(b, d)])
  | s => (b, s, [])
theorem pickC_ok {b : Bool} {s : List Dec} (h : okLog (pickC b s).2.2) : (pickC b s).1 = b := by
  unfold pickC at *
  split at h
  · rename_i d s
    exact (h (b, d) (List.mem_singleton.2 rfl)).symm
  · rfl
/-- whether a bit is lost is decided ahead -/
def shrB : W4 → Int → List Dec → Option (Value × List Dec × Log) := fun x n s => some (.tuple #[vW (shrW x n), .bool (pickC (shrL x n) s).1], (pickC (shrL x n) s).2.1, (pickC (shrL x n) s).2.2)
theorem shrB_ok : AnsOk 56 (g1n shrB) := g1n_ok fun x n hx h0 h1 s v s' lg h hl w => by
  unfold shrB at h
  cases h
  rw [pickC_ok hl]
  exact shr_calls x n hx h0 h1 w
/-! ### Len64 -/
/-- the table of the library: how many bits a byte has -/
def lenTab : List UInt8 := (List.range 256).map fun i => UInt8.ofNat (bitLen i)
def byteLen (z : Int) : Int := ((lenTab.getD (IntKind.u8.wrap z).toNat 0).toNat : Int)
def lt8 (z : Int) : Bool × Bool := (decide (0 ≤ IntKind.u8.wrap z ∧ (IntKind.u8.wrap z).toNat < lenTab.length), true)
def sh (z : Int) (k : Nat) : Int := z.fdiv (2 ^ k)
def ge (z k : Int) (d : Bool) : Bool × Bool := (decide (z ≥ k), d)
def lenE (m z : Int) : Value := .int .i64 (IntKind.i64.wrap (m + IntKind.i64.wrap (byteLen z)))
def nz : Bool × Bool := (false, false)
theorem len_000 (u : Int) : Fits (reckon (tabOf Tryd.prog extY conN true) 3000 55 [.int .u64 u] [tst false, tst false, tst false]) (lenE 0 u) [lt8 u, ge u 256 false, ge u 65536 false, ge u 4294967296 false] := ⟨by kernel_rfl, by kernel_rfl, by kernel_rfl, by kernel_rfl⟩
theorem len_001 (u : Int) : Fits (reckon (tabOf Tryd.prog extY conN true) 3000 55 [.int .u64 u] [tst false, tst false, tst true]) (lenE 8 (sh u 8)) [lt8 (sh u 8), nz, ge u 256 true, ge u 65536 false, ge u 4294967296 false] := ⟨by kernel_rfl, by kernel_rfl, by kernel_rfl, by kernel_rfl⟩
theorem len_010 (u : Int) : Fits (reckon (tabOf Tryd.prog extY conN true) 3000 55 [.int .u64 u] [tst false, tst true, tst false]) (lenE 16 (sh u 16)) [lt8 (sh u 16), ge (sh u 16) 256 false, nz, ge u 65536 true, ge u 4294967296 false] := ⟨by kernel_rfl, by kernel_rfl, by kernel_rfl, by kernel_rfl⟩
theorem len_011 (u : Int) : Fits (reckon (tabOf Tryd.prog extY conN true) 3000 55 [.int .u64 u] [tst false, tst true, tst true]) (lenE 24 (sh (sh u 16) 8)) [lt8 (sh (sh u 16) 8), nz, ge (sh u 16) 256 true, nz, ge u 65536 true, ge u 4294967296 false] := ⟨by kernel_rfl, by kernel_rfl, by kernel_rfl, by kernel_rfl⟩
theorem len_100 (u : Int) : Fits (reckon (tabOf Tryd.prog extY conN true) 3000 55 [.int .u64 u] [tst true, tst false, tst false]) (lenE 32 (sh u 32)) [lt8 (sh u 32), ge (sh u 32) 256 false, ge (sh u 32) 65536 false, nz, ge u 4294967296 true] := ⟨by kernel_rfl, by kernel_rfl, by kernel_rfl, by kernel_rfl⟩
theorem len_101 (u : Int) : Fits (reckon (tabOf Tryd.prog extY conN true) 3000 55 [.int .u64 u] [tst true, tst false, tst true]) (lenE 40 (sh (sh u 32) 8)) [lt8 (sh (sh u 32) 8), nz, ge (sh u 32) 256 true, ge (sh u 32) 65536 false, nz, ge u 4294967296 true] := ⟨by kernel_rfl, by kernel_rfl, by kernel_rfl, by kernel_rfl⟩
theorem len_110 (u : Int) : Fits (reckon (tabOf Tryd.prog extY conN true) 3000 55 [.int .u64 u] [tst true, tst true, tst false]) (lenE 48 (sh (sh u 32) 16)) [lt8 (sh (sh u 32) 16), ge (sh (sh u 32) 16) 256 false, nz, ge (sh u 32) 65536 true, nz, ge u 4294967296 true] := ⟨by kernel_rfl, by kernel_rfl, by kernel_rfl, by kernel_rfl⟩
theorem len_111 (u : Int) : Fits (reckon (tabOf Tryd.prog extY conN true) 3000 55 [.int .u64 u] [tst true, tst true, tst true]) (lenE 56 (sh (sh (sh u 32) 16) 8)) [lt8 (sh (sh (sh u 32) 16) 8), nz, ge (sh (sh u 32) 16) 256 true, nz, ge (sh u 32) 65536 true, nz, ge u 4294967296 true] := ⟨by kernel_rfl, by kernel_rfl, by kernel_rfl, by kernel_rfl⟩
theorem lenTab_len : lenTab.length = 256 := by unfold lenTab; rw [List.length_map, List.length_range]
theorem lenTab_get (b : Nat) (h : b < 256) : (lenTab.getD b 0).toNat = bitLen b := by
  have h1 : lenTab.getD b 0 = UInt8.ofNat (bitLen b) := by
    unfold lenTab
    rw [List.getD, List.getElem?_map, List.getElem?_range h]
    rfl
  have h2 := bitLen_le8 b h
  rw [h1, UInt8.toNat_ofNat']
  omega
theorem u8_wrap {z : Int} (h0 : 0 ≤ z) (h1 : z < 256) : IntKind.u8.wrap z = z := by
  simp [IntKind.wrap, IntKind.bits, IntKind.signed]; omega
theorem lenE_eq {m : Int} {Z : Nat} (hm : 0 ≤ m) (hm' : m ≤ 56) (h1 : Z < 256) : lenE m (Z : Int) = .int .i64 (m + bitLen Z) ∧ (lt8 (Z : Int)).1 = (lt8 (Z : Int)).2 := by
  have hb := bitLen_le8 Z h1
  have e := u8_wrap (z := (Z : Int)) (by omega) (by omega)
  refine ⟨?_, ?_⟩
  · unfold lenE byteLen
    rw [e, Int.toNat_natCast, lenTab_get Z h1, wrap_i64' (n := ((bitLen Z : Nat) : Int)) (by omega) (by omega), wrap_i64' (by omega) (by omega)]
  · unfold lt8
    rw [e, Int.toNat_natCast]
    rw [lenTab_len]
    exact decide_eq_true (And.intro (by omega) h1)
theorem sh_eq (Z k : Nat) : sh (Z : Int) k = ((Z / 2 ^ k : Nat) : Int) := by
  unfold sh
  rw [Int.fdiv_eq_ediv_of_nonneg _ (Int.le_of_lt (Int.pow_pos (by omega)))]
  simp
theorem ge_t {z k : Int} (h : k ≤ z) : (ge z k true).1 = (ge z k true).2 := decide_eq_true h
theorem ge_f {z k : Int} (h : z < k) : (ge z k false).1 = (ge z k false).2 := decide_eq_false (by omega)
theorem nz_ok : nz.1 = nz.2 := rfl
theorem len_up (x b : Nat) (h : 2 ^ b ≤ x) : bitLen x = b + bitLen (x / 2 ^ b) := bitLen_shift x b (by
  have : 0 < x / 2 ^ b := Nat.div_pos h (Nat.two_pow_pos b)
  omega)
def len64V (u : Int) : Value := .int .i64 (bitLen u.toNat : Nat)
set_option maxRecDepth 100000 in
theorem len64_calls (u : Int) (h0 : 0 ≤ u) (h1 : u < 18446744073709551616) (w : World) : Calls Tryd.prog 55 #[.int .u64 u] w fun e w' => e = .returned (len64V u) ∧ Tidy w w' := by
  obtain ⟨U, rfl⟩ := Int.eq_ofNat_of_zero_le h0
  unfold len64V
  rw [Int.toNat_natCast]
  have p8 : (2 : Nat) ^ 8 = 256 := rfl
  have p16 : (2 : Nat) ^ 16 = 65536 := rfl
  have p32 : (2 : Nat) ^ 32 = 4294967296 := rfl
  have step : ∀ {v : Value} {m : Int} {Z : Nat} {s : List Dec} {cs : Log}, Fits (reckon (tabOf Tryd.prog extY conN true) 3000 55 [.int .u64 (U : Int)] s) v cs → okLog cs → v = .int .i64 (bitLen U : Nat) → Calls Tryd.prog 55 #[.int .u64 (U : Int)] w fun e w' => e = .returned (.int .i64 (bitLen U : Nat)) ∧ Tidy w w' :=
    fun {v m Z s cs} hf hc hv => by subst hv; exact fits_calls (tabY_ok conN_ok) hf hc (by rfl) (by rfl) w
  by_cases a : U < 4294967296
  · by_cases b : U < 65536
    · by_cases c : U < 256
      · obtain ⟨e1, e2⟩ := lenE_eq (m := 0) (by omega) (by omega) c
        exact step (m := 0) (Z := 0) (len_000 U) (okPC e2 (okPC (ge_f (by omega)) (okPC (ge_f (by omega)) (okP1 (ge_f (by omega)))))) (by rw [e1]; congr 1; omega)
      · have l := len_up U 8 (by omega)
        obtain ⟨e1, e2⟩ := lenE_eq (m := 8) (Z := U / 2 ^ 8) (by omega) (by omega) (by omega)
        rw [← sh_eq] at e1 e2
        exact step (m := 0) (Z := 0) (len_001 U) (okPC e2 (okPC nz_ok (okPC (ge_t (by omega)) (okPC (ge_f (by omega)) (okP1 (ge_f (by omega))))))) (by rw [e1]; congr 1; omega)
    · have l := len_up U 16 (by omega)
      by_cases c : U / 2 ^ 16 < 256
      · obtain ⟨e1, e2⟩ := lenE_eq (m := 16) (Z := U / 2 ^ 16) (by omega) (by omega) c
        rw [← sh_eq] at e1 e2
        exact step (m := 0) (Z := 0) (len_010 U) (okPC e2 (okPC (ge_f (by rw [sh_eq]; omega)) (okPC nz_ok (okPC (ge_t (by omega)) (okP1 (ge_f (by omega))))))) (by rw [e1]; congr 1; omega)
      · have l2 := len_up (U / 2 ^ 16) 8 (by omega)
        obtain ⟨e1, e2⟩ := lenE_eq (m := 24) (Z := U / 2 ^ 16 / 2 ^ 8) (by omega) (by omega) (by omega)
        rw [← sh_eq, ← sh_eq] at e1 e2
        exact step (m := 0) (Z := 0) (len_011 U) (okPC e2 (okPC nz_ok (okPC (ge_t (by rw [sh_eq]; omega)) (okPC nz_ok (okPC (ge_t (by omega)) (okP1 (ge_f (by omega)))))))) (by rw [e1]; congr 1; omega)
  · have l0 := len_up U 32 (by omega)
    have q : U / 2 ^ 32 < 4294967296 := by omega
    by_cases b : U / 2 ^ 32 < 65536
    · by_cases c : U / 2 ^ 32 < 256
      · obtain ⟨e1, e2⟩ := lenE_eq (m := 32) (Z := U / 2 ^ 32) (by omega) (by omega) c
        rw [← sh_eq] at e1 e2
        exact step (m := 0) (Z := 0) (len_100 U) (okPC e2 (okPC (ge_f (by rw [sh_eq]; omega)) (okPC (ge_f (by rw [sh_eq]; omega)) (okPC nz_ok (okP1 (ge_t (by omega))))))) (by rw [e1]; congr 1; omega)
      · have l := len_up (U / 2 ^ 32) 8 (by omega)
        obtain ⟨e1, e2⟩ := lenE_eq (m := 40) (Z := U / 2 ^ 32 / 2 ^ 8) (by omega) (by omega) (by omega)
        rw [← sh_eq, ← sh_eq] at e1 e2
        exact step (m := 0) (Z := 0) (len_101 U) (okPC e2 (okPC nz_ok (okPC (ge_t (by rw [sh_eq]; omega)) (okPC (ge_f (by rw [sh_eq]; omega)) (okPC nz_ok (okP1 (ge_t (by omega)))))))) (by rw [e1]; congr 1; omega)
    · have l := len_up (U / 2 ^ 32) 16 (by omega)
      by_cases c : U / 2 ^ 32 / 2 ^ 16 < 256
      · obtain ⟨e1, e2⟩ := lenE_eq (m := 48) (Z := U / 2 ^ 32 / 2 ^ 16) (by omega) (by omega) c
        rw [← sh_eq, ← sh_eq] at e1 e2
        exact step (m := 0) (Z := 0) (len_110 U) (okPC e2 (okPC (ge_f (by rw [sh_eq, sh_eq]; omega)) (okPC nz_ok (okPC (ge_t (by rw [sh_eq]; omega)) (okPC nz_ok (okP1 (ge_t (by omega)))))))) (by rw [e1]; congr 1; omega)
      · have l2 := len_up (U / 2 ^ 32 / 2 ^ 16) 8 (by omega)
        obtain ⟨e1, e2⟩ := lenE_eq (m := 56) (Z := U / 2 ^ 32 / 2 ^ 16 / 2 ^ 8) (by omega) (by omega) (by omega)
        rw [← sh_eq, ← sh_eq, ← sh_eq] at e1 e2
        exact step (m := 0) (Z := 0) (len_111 U) (okPC e2 (okPC nz_ok (okPC (ge_t (by rw [sh_eq, sh_eq]; omega)) (okPC nz_ok (okPC (ge_t (by rw [sh_eq]; omega)) (okPC nz_ok (okP1 (ge_t (by omega))))))))) (by rw [e1]; congr 1; omega)
/-! ### Len -/
/-- of a word -/
def gu (k : Int → Value) : Ans := fun vals s =>
  match vals with
  | [.int .u64 u] => some (k u, s, [(decide (0 ≤ u ∧ u < 18446744073709551616), true)])
  | _ => none
theorem gu_ok {f : Nat} {k : Int → Value} (hk : ∀ u, 0 ≤ u → u < 18446744073709551616 → ∀ w, Calls Tryd.prog f #[.int .u64 u] w fun e w' => e = .returned (k u) ∧ Tidy w w') : AnsOk f (gu k) := by
  intro vals s v s' lg h hl w
  unfold gu at h
  split at h
  · cases h
    have h1 := hl _ (List.mem_singleton.2 rfl)
    simp only [decide_eq_true_eq] at h1
    exact hk _ h1.1 h1.2 w
  · cases h
def conL : Con := alt 55 (gu len64V) conN
theorem conL_ok : ConOk conL := alt_ok Tryd.func55 rfl (gu_ok len64_calls) conN_ok
def ne0 (a : Int) (d : Bool) : Bool × Bool := (a != 0, d)
def yes : Bool × Bool := (true, true)
def no : Bool × Bool := (false, false)
def wd (u : Int) : Bool × Bool := (decide (0 ≤ u ∧ u < 18446744073709551616), true)
def lenB (m u : Int) : Value := .int .i64 (IntKind.i64.wrap (m + (bitLen u.toNat : Nat)))
theorem wlen_3 (x : W4) : Fits (reckon (tabOf Tryd.prog extY conL true) 3000 41 [vW x] [tst true, tst true]) (lenB 192 x.d) [wd x.d, ne0 x.d true, yes] := ⟨by kernel_rfl, by kernel_rfl, by kernel_rfl, by kernel_rfl⟩
theorem wlen_2 (x : W4) : Fits (reckon (tabOf Tryd.prog extY conL true) 3000 41 [vW x] [tst true, tst false, tst true, tst true]) (lenB 128 x.c) [wd x.c, ne0 x.c true, yes, ne0 x.d false, yes] := ⟨by kernel_rfl, by kernel_rfl, by kernel_rfl, by kernel_rfl⟩
theorem wlen_1 (x : W4) : Fits (reckon (tabOf Tryd.prog extY conL true) 3000 41 [vW x] [tst true, tst false, tst true, tst false, tst true, tst true]) (lenB 64 x.b) [wd x.b, ne0 x.b true, yes, ne0 x.c false, yes, ne0 x.d false, yes] := ⟨by kernel_rfl, by kernel_rfl, by kernel_rfl, by kernel_rfl⟩
theorem wlen_0 (x : W4) : Fits (reckon (tabOf Tryd.prog extY conL true) 3000 41 [vW x] [tst true, tst false, tst true, tst false, tst true, tst false, tst true, tst true]) (lenB 0 x.a) [wd x.a, ne0 x.a true, yes, ne0 x.b false, yes, ne0 x.c false, yes, ne0 x.d false, yes] := ⟨by kernel_rfl, by kernel_rfl, by kernel_rfl, by kernel_rfl⟩
theorem wlen_n (x : W4) : Fits (reckon (tabOf Tryd.prog extY conL true) 3000 41 [vW x] [tst true, tst false, tst true, tst false, tst true, tst false, tst true, tst false, tst false]) (.int .i64 0) [no, ne0 x.a false, yes, ne0 x.b false, yes, ne0 x.c false, yes, ne0 x.d false, yes] := ⟨by kernel_rfl, by kernel_rfl, by kernel_rfl, by kernel_rfl⟩
def lenI (x : W4) : Int := (bitLen x.val.toNat : Nat)
def lenV4 (x : W4) : Value := .int .i64 (lenI x)
theorem lenB_eq {m u : Int} (h0 : 0 ≤ m) (h1 : m ≤ 192) (hu : 0 ≤ u ∧ u < 18446744073709551616) : lenB m u = .int .i64 (m + (bitLen u.toNat : Nat)) := by
  have : bitLen u.toNat ≤ 64 := by
    unfold bitLen
    split
    · omega
    · rename_i h
      have := (Nat.log2_lt h).2 (show u.toNat < 2 ^ 64 by have : (2 : Nat) ^ 64 = 18446744073709551616 := rfl; omega)
      omega
  unfold lenB
  rw [wrap_i64' (by omega) (by omega)]
theorem ne_t {a : Int} (h : a ≠ 0) : (ne0 a true).1 = (ne0 a true).2 := bne_iff_ne.2 h
theorem ne_f {a : Int} (h : a = 0) : (ne0 a false).1 = (ne0 a false).2 := by subst h; rfl
theorem wd_ok {u : Int} (h : 0 ≤ u ∧ u < 18446744073709551616) : (wd u).1 = (wd u).2 := decide_eq_true h
theorem yes_ok : yes.1 = yes.2 := rfl
theorem no_ok : no.1 = no.2 := rfl
theorem len_high {X b U : Nat} (hU : U ≠ 0) (h : X / 2 ^ b = U) : bitLen X = b + bitLen U := by
  rw [← h]
  exact bitLen_shift X b (by omega)
set_option maxRecDepth 100000 in
theorem wlen_calls (x : W4) (hx : x.ok) (w : World) : Calls Tryd.prog 41 #[vW x] w fun e w' => e = .returned (lenV4 x) ∧ Tidy w w' := by
  have hx' := hx
  obtain ⟨a, b, c, d⟩ := x
  obtain ⟨h1, h2, h3, h4⟩ := hx
  unfold lenV4 lenI W4.val
  dsimp only at *
  by_cases e4 : d = 0
  · by_cases e3 : c = 0
    · by_cases e2 : b = 0
      · by_cases e1 : a = 0
        · subst e1 e2 e3 e4
          exact fits_calls (tabY_ok conL_ok) (wlen_n ⟨0, 0, 0, 0⟩) (okPC no_ok (okPC (ne_f rfl) (okPC yes_ok (okPC (ne_f rfl) (okPC yes_ok (okPC (ne_f rfl) (okPC yes_ok (okPC (ne_f rfl) (okP1 yes_ok))))))))) (by rfl) (by rfl) w
        · have h := fits_calls (tabY_ok conL_ok) (wlen_0 ⟨a, b, c, d⟩) (okPC (wd_ok h1) (okPC (ne_t e1) (okPC yes_ok (okPC (ne_f e2) (okPC yes_ok (okPC (ne_f e3) (okPC yes_ok (okPC (ne_f e4) (okP1 yes_ok))))))))) (by rfl) (by rfl) w
          rw [lenB_eq (by omega) (by omega) h1] at h
          subst e2 e3 e4
          simp at h ⊢
          exact h
      · have h := fits_calls (tabY_ok conL_ok) (wlen_1 ⟨a, b, c, d⟩) (okPC (wd_ok h2) (okPC (ne_t e2) (okPC yes_ok (okPC (ne_f e3) (okPC yes_ok (okPC (ne_f e4) (okP1 yes_ok))))))) (by rfl) (by rfl) w
        rw [lenB_eq (by omega) (by omega) h2] at h
        have p : (2 : Nat) ^ 64 = 18446744073709551616 := rfl
        have l := len_high (X := (a + 18446744073709551616 * b + 340282366920938463463374607431768211456 * c + 6277101735386680763835789423207666416102355444464034512896 * d).toNat) (b := 64) (U := b.toNat) (by omega) (by rw [p]; omega)
        rw [l]
        simp at h ⊢
        exact h
    · have h := fits_calls (tabY_ok conL_ok) (wlen_2 ⟨a, b, c, d⟩) (okPC (wd_ok h3) (okPC (ne_t e3) (okPC yes_ok (okPC (ne_f e4) (okP1 yes_ok))))) (by rfl) (by rfl) w
      rw [lenB_eq (by omega) (by omega) h3] at h
      have p : (2 : Nat) ^ 128 = 340282366920938463463374607431768211456 := rfl
      have l := len_high (X := (a + 18446744073709551616 * b + 340282366920938463463374607431768211456 * c + 6277101735386680763835789423207666416102355444464034512896 * d).toNat) (b := 128) (U := c.toNat) (by omega) (by rw [p]; omega)
      rw [l]
      simp at h ⊢
      exact h
  · have h := fits_calls (tabY_ok conL_ok) (wlen_3 ⟨a, b, c, d⟩) (okPC (wd_ok h4) (okPC (ne_t e4) (okP1 yes_ok))) (by rfl) (by rfl) w
    rw [lenB_eq (by omega) (by omega) h4] at h
    have p : (2 : Nat) ^ 192 = 6277101735386680763835789423207666416102355444464034512896 := rfl
    have l := len_high (X := (a + 18446744073709551616 * b + 340282366920938463463374607431768211456 * c + 6277101735386680763835789423207666416102355444464034512896 * d).toNat) (b := 192) (U := d.toNat) (by omega) (by rw [p]; omega)
    rw [l]
    simp at h ⊢
    exact h
/-- of one number -/
def g1 (k : W4 → Value) : Ans := fun vals s =>
  match vals with
  | [x] =>
    match w4 x with
    | some a => some (k a, s, [(decide a.ok, true)])
    | none => none
  | _ => none
theorem g1_ok {f : Nat} {k : W4 → Value} (hk : ∀ x : W4, x.ok → ∀ w, Calls Tryd.prog f #[vW x] w fun e w' => e = .returned (k x) ∧ Tidy w w') : AnsOk f (g1 k) := by
  intro vals s v s' lg h hl w
  unfold g1 at h
  split at h
  · split at h
    · rename_i a ha
      cases h
      have h1 := hl _ (List.mem_singleton.2 rfl)
      simp only [decide_eq_true_eq] at h1
      rw [w4_spec ha]
      exact hk a h1 w
    · cases h
  · cases h
/-! ### Bit -/
def andd (z : Int) : Int := IntKind.u64.wrap ((BitVec.ofInt 64 z &&& BitVec.ofInt 64 1).toNat : Nat)
theorem andd_eq {z : Int} (h0 : 0 ≤ z) (h1 : z < 18446744073709551616) : andd z = z % 2 := by
  obtain ⟨Z, rfl⟩ := Int.eq_ofNat_of_zero_le h0
  unfold andd
  have e1 : (BitVec.ofInt 64 (Z : Int)).toNat = Z := by simp; omega
  have e2 : (BitVec.ofInt 64 1).toNat = 1 := rfl
  rw [BitVec.toNat_and, e1, e2, Nat.and_one_is_mod, wrap_u64]
  omega
def lb (n k : Int) : Log := [(decide ((64 : Int) = 0), false), (decide (IntKind.i64.wrap (n.tdiv 64) = k), true), (decide (n ≥ 256), false), (decide (n < 0), false)]
theorem bit_low (x : W4) (n : Int) : Fits (reckon (tabOf Tryd.prog extY conN true) 3000 46 [vW x, .int .i64 n] [cmp true]) (.int .u64 0) [(decide (n < 0), true)] := ⟨by kernel_rfl, by kernel_rfl, by kernel_rfl, by kernel_rfl⟩
theorem bit_high (x : W4) (n : Int) : Fits (reckon (tabOf Tryd.prog extY conN true) 3000 46 [vW x, .int .i64 n] [cmp false, cmp true]) (.int .u64 0) [(decide (n ≥ 256), true), (decide (n < 0), false)] := ⟨by kernel_rfl, by kernel_rfl, by kernel_rfl, by kernel_rfl⟩
theorem bit_0 (x : W4) (n : Int) : Fits (reckon (tabOf Tryd.prog extY conN true) 3000 46 [vW x, .int .i64 n] [cmp false, cmp false, num 0]) (.int .u64 (andd (dn' x.a n))) (lu n :: lb n 0) := ⟨by kernel_rfl, by kernel_rfl, by kernel_rfl, by kernel_rfl⟩
theorem bit_1 (x : W4) (n : Int) : Fits (reckon (tabOf Tryd.prog extY conN true) 3000 46 [vW x, .int .i64 n] [cmp false, cmp false, num 1]) (.int .u64 (andd (dn' x.b n))) (lu n :: lb n 1) := ⟨by kernel_rfl, by kernel_rfl, by kernel_rfl, by kernel_rfl⟩
theorem bit_2 (x : W4) (n : Int) : Fits (reckon (tabOf Tryd.prog extY conN true) 3000 46 [vW x, .int .i64 n] [cmp false, cmp false, num 2]) (.int .u64 (andd (dn' x.c n))) (lu n :: lb n 2) := ⟨by kernel_rfl, by kernel_rfl, by kernel_rfl, by kernel_rfl⟩
theorem bit_3 (x : W4) (n : Int) : Fits (reckon (tabOf Tryd.prog extY conN true) 3000 46 [vW x, .int .i64 n] [cmp false, cmp false, num 3]) (.int .u64 (andd (dn' x.d n))) (lu n :: lb n 3) := ⟨by kernel_rfl, by kernel_rfl, by kernel_rfl, by kernel_rfl⟩
def bitI (x : W4) (n : Int) : Int := if n < 0 then 0 else if 256 ≤ n then 0 else x.val / 2 ^ n.toNat % 2
def bitV4 (x : W4) (n : Int) : Value := .int .u64 (bitI x n)
theorem lb_ok {n k : Int} (h1 : ¬ n < 0) (h2 : ¬ 256 ≤ n) (h3 : n / 64 = k) : okLog (lb n k) := by
  refine okPC (by rfl) (okPC (decide_eq_true ?_) (okPC (decide_eq_false h2) (okP1 (decide_eq_false h1))))
  rw [Int.tdiv_eq_ediv_of_nonneg (by omega), wrap_i64' (by omega) (by omega)]
  exact h3
/-- the lowest bit of a word moved down is that of the number moved down -/
theorem low_bit {x : W4} {n : Int} {a b : Int} (hn : 0 ≤ n) (ha : 0 ≤ a ∧ a < 18446744073709551616) (hb : 0 ≤ b ∧ b < 18446744073709551616) (h : (W4.of (x.val / 2 ^ n.toNat)).a = orr (dn' a n) (up' b n)) :
    andd (dn' a n) = x.val / 2 ^ n.toNat % 2 := by
  obtain ⟨l, o, d, s, m, l0, l1, e⟩ := pieces' hn ha hb
  have ev := up'_even hn hb
  rw [andd_eq d.1 d.2]
  rw [o] at h
  unfold W4.of at h
  dsimp only at h
  omega
theorem low_bit' {x : W4} {n : Int} {a : Int} (hn : 0 ≤ n) (ha : 0 ≤ a ∧ a < 18446744073709551616) (h : (W4.of (x.val / 2 ^ n.toNat)).a = dn' a n) : andd (dn' a n) = x.val / 2 ^ n.toNat % 2 := by
  obtain ⟨l, o, d, s, m, l0, l1, e⟩ := pieces' hn ha ha
  rw [andd_eq d.1 d.2]
  unfold W4.of at h
  dsimp only at h
  omega
set_option maxRecDepth 100000 in
theorem bit_calls (x : W4) (n : Int) (hx : x.ok) (_h0 : -9223372036854775808 ≤ n) (_h9 : n ≤ 9223372036854775807) (w : World) : Calls Tryd.prog 46 #[vW x, .int .i64 n] w fun e w' => e = .returned (bitV4 x n) ∧ Tidy w w' := by
  unfold bitV4 bitI
  by_cases h1 : n < 0
  · rw [if_pos h1]
    exact fits_calls (tabY_ok conN_ok) (bit_low x n) (okP1 (decide_eq_true h1)) (by rfl) (by rfl) w
  · rw [if_neg h1]
    by_cases h2 : 256 ≤ n
    · rw [if_pos h2]
      exact fits_calls (tabY_ok conN_ok) (bit_high x n) (okPC (decide_eq_true h2) (okP1 (decide_eq_false h1))) (by rfl) (by rfl) w
    · rw [if_neg h2]
      have hn : 0 ≤ n := by omega
      have u := lu_ok hn
      obtain ⟨k1, k2, k3, k4⟩ := hx
      have hj : n / 64 = 0 ∨ n / 64 = 1 ∨ n / 64 = 2 ∨ n / 64 = 3 := by omega
      rcases hj with hj | hj | hj | hj
      · obtain ⟨e1, _⟩ := shr0_eq (x := x) ⟨k1, k2, k3, k4⟩ hn hj
        rw [← low_bit hn k1 k2 (by rw [← e1]; rfl)]
        exact fits_calls (tabY_ok conN_ok) (bit_0 x n) (okPC u (lb_ok h1 h2 hj)) (by rfl) (by rfl) w
      · obtain ⟨e1, _⟩ := shr1_eq (x := x) ⟨k1, k2, k3, k4⟩ hn hj
        rw [← low_bit hn k2 k3 (by rw [← e1]; rfl)]
        exact fits_calls (tabY_ok conN_ok) (bit_1 x n) (okPC u (lb_ok h1 h2 hj)) (by rfl) (by rfl) w
      · obtain ⟨e1, _⟩ := shr2_eq (x := x) ⟨k1, k2, k3, k4⟩ hn hj
        rw [← low_bit hn k3 k4 (by rw [← e1]; rfl)]
        exact fits_calls (tabY_ok conN_ok) (bit_2 x n) (okPC u (lb_ok h1 h2 hj)) (by rfl) (by rfl) w
      · obtain ⟨e1, _⟩ := shr3_eq (x := x) ⟨k1, k2, k3, k4⟩ hn hj
        rw [← low_bit' hn k4 (by rw [← e1]; rfl)]
        exact fits_calls (tabY_ok conN_ok) (bit_3 x n) (okPC u (lb_ok h1 h2 hj)) (by rfl) (by rfl) w
def lo32 (z : Int) : Int := IntKind.u64.wrap ((BitVec.ofInt 64 z &&& BitVec.ofInt 64 4294967295).toNat : Nat)
def hi32 (z : Int) : Int := z.fdiv (2 ^ min ((32 : Int).toNat) 64)
def l32 : Bool × Bool := (decide ((32 : Int) < 0), false)
theorem hi32_eq (z : Int) : hi32 z = z / 4294967296 := by
  unfold hi32
  rw [show (2 : Int) ^ min ((32 : Int).toNat) 64 = 4294967296 from rfl, Int.fdiv_eq_ediv_of_nonneg _ (by omega)]
theorem lo32_eq {z : Int} (h0 : 0 ≤ z) (h1 : z < 18446744073709551616) : lo32 z = z % 4294967296 := by
  unfold lo32
  have e1 : (BitVec.ofInt 64 z).toNat = z.toNat := by
    rw [BitVec.toNat_ofInt]
    omega
  have e2 : (BitVec.ofInt 64 4294967295).toNat = 2 ^ 32 - 1 := by rfl
  rw [BitVec.toNat_and, e1, e2, Nat.and_two_pow_sub_one_eq_mod, wrap_u64]
  omega
def mT (x y : Int) : Int := IntKind.u64.wrap (IntKind.u64.wrap (hi32 x * lo32 y) + hi32 (IntKind.u64.wrap (lo32 x * lo32 y)))
def mW (x y : Int) : Int := IntKind.u64.wrap (lo32 (mT x y) + IntKind.u64.wrap (lo32 x * hi32 y))
def mH (x y : Int) : Int := IntKind.u64.wrap (IntKind.u64.wrap (IntKind.u64.wrap (hi32 x * hi32 y) + hi32 (mT x y)) + hi32 (mW x y))
def mL (x y : Int) : Int := IntKind.u64.wrap (x * y)
abbrev u_ (n : Int) : Value := .int .u64 n
theorem mul64_fits (x y : Int) : Fits (reckon (tabOf Tryd.prog extY conN true) 3000 72 [u_ x, u_ y] []) (.tuple #[u_ (mH x y), u_ (mL x y)]) [l32, l32, l32, l32, l32] := ⟨by kernel_rfl, by kernel_rfl, by kernel_rfl, by kernel_rfl⟩
theorem mul_split (x y : Int) (hx : 0 ≤ x ∧ x < 18446744073709551616) (hy : 0 ≤ y ∧ y < 18446744073709551616) : mH x y = x * y / 18446744073709551616 ∧ mL x y = x * y % 18446744073709551616 := by
  refine ⟨?_, by unfold mL; rw [wrap_u64]⟩
  have x0 : 0 ≤ x % 4294967296 ∧ x % 4294967296 < 4294967296 := by omega
  have y0 : 0 ≤ y % 4294967296 ∧ y % 4294967296 < 4294967296 := by omega
  have x1 : 0 ≤ x / 4294967296 ∧ x / 4294967296 < 4294967296 := by omega
  have y1 : 0 ≤ y / 4294967296 ∧ y / 4294967296 < 4294967296 := by omega
  have bd : ∀ p q : Int, (0 ≤ p ∧ p < 4294967296) → (0 ≤ q ∧ q < 4294967296) → 0 ≤ p * q ∧ p * q ≤ 18446744065119617025 := fun p q hp hq => by
    refine ⟨Int.mul_nonneg hp.1 hq.1, ?_⟩
    have := Int.mul_le_mul (show p ≤ 4294967295 by omega) (show q ≤ 4294967295 by omega) hq.1 (by omega)
    omega
  have ex : x * y = 18446744073709551616 * (x / 4294967296 * (y / 4294967296)) + 4294967296 * (x / 4294967296 * (y % 4294967296)) + 4294967296 * (x % 4294967296 * (y / 4294967296)) + x % 4294967296 * (y % 4294967296) := by
    have h1 := Int.mul_ediv_add_emod x 4294967296
    have h2 := Int.mul_ediv_add_emod y 4294967296
    generalize x / 4294967296 = p at *
    generalize x % 4294967296 = q at *
    generalize y / 4294967296 = r at *
    generalize y % 4294967296 = s at *
    rw [← h1, ← h2, Int.add_mul, Int.mul_add, Int.mul_add, Int.mul_assoc, Int.mul_left_comm p, Int.mul_left_comm q, Int.mul_assoc]
    omega
  have a1 := bd _ _ x0 y0
  have a2 := bd _ _ x1 y0
  have a3 := bd _ _ x0 y1
  have a4 := bd _ _ x1 y1
  unfold mH mW mT
  simp only [hi32_eq, lo32_eq hx.1 hx.2, lo32_eq hy.1 hy.2]
  generalize x / 4294967296 * (y / 4294967296) = d at *
  generalize x / 4294967296 * (y % 4294967296) = b at *
  generalize x % 4294967296 * (y / 4294967296) = c at *
  generalize x % 4294967296 * (y % 4294967296) = a at *
  rw [ex]
  have w1 : IntKind.u64.wrap a = a := wrap_u64' (by omega) (by omega)
  have w2 : IntKind.u64.wrap b = b := wrap_u64' (by omega) (by omega)
  have w3 : IntKind.u64.wrap c = c := wrap_u64' (by omega) (by omega)
  have w4 : IntKind.u64.wrap d = d := wrap_u64' (by omega) (by omega)
  have w5 : IntKind.u64.wrap (b + a / 4294967296) = b + a / 4294967296 := wrap_u64' (by omega) (by omega)
  rw [w1, w2, w3, w4, w5, lo32_eq (z := b + a / 4294967296) (by omega) (by omega)]
  rw [wrap_u64' (n := (b + a / 4294967296) % 4294967296 + c) (by omega) (by omega), wrap_u64' (n := d + (b + a / 4294967296) / 4294967296) (by omega) (by omega), wrap_u64' (by omega) (by omega)]
  omega
theorem l32_ok : l32.1 = l32.2 := rfl
abbrev word (x : Int) : Prop := 0 ≤ x ∧ x < 18446744073709551616
theorem mul64_calls (x y : Int) (hx : word x) (hy : word y) (w : World) : Calls Tryd.prog 72 #[u_ x, u_ y] w fun e w' => e = .returned (.tuple #[u_ (x * y / 18446744073709551616), u_ (x * y % 18446744073709551616)]) ∧ Tidy w w' := by
  have h := fits_calls (tabY_ok conN_ok) (mul64_fits x y) (okCons l32_ok (okCons l32_ok (okCons l32_ok (okCons l32_ok (okL1 l32_ok))))) (by rfl) (by rfl) w
  obtain ⟨e1, e2⟩ := mul_split x y hx hy
  rw [e1, e2] at h
  exact h
end Go.Proofs.YtdlpffgekmidnabDoor
namespace Go.KRun
open Go.RowKit
/-- From state x the code c ends, in one of the ways that 'Post' tells. -/
def Runs (T : Tab) (c : Code) (x : Lf) (Post : Ex → Lf → Prop) : Prop :=
  ∀ m B a w, Rel m B x a w → ∀ Q : Exit → Act → World → Prop, (∀ e y, Post e y → ∀ a' w', Reach m B x.2.1.n w y a' w' → Q (out e) a' w') → c.wp T.P Q a w
theorem Runs.mono {T : Tab} {c : Code} {x : Lf} {P P' : Ex → Lf → Prop} (h : Runs T c x P) (hp : ∀ e y, P e y → P' e y) : Runs T c x P' :=
  fun m B a w R Q hQ => h m B a w R Q fun e y he => hQ e y (hp e y he)
/-- the decisions that are told ahead are no part of the state -/
theorem Runs.script {T : Tab} {c : Code} {t : List Value} {h : Hp} {s s' : List Dec} {P : Ex → Lf → Prop} (hr : Runs T c (t, h, s) P) : Runs T c (t, h, s') P :=
  fun m B a w R Q hQ => hr m B a w ⟨R.tmps, R.dfr, R.emb, R.wf⟩ Q hQ
theorem Runs.ev {T : Tab} (hT : TabOk T) {n : Nat} {c : Code} {x x' : Lf} {e : Ex} {L : Lg} (h : evC T n false c x ⟨[], [], []⟩ = some (e, x', L)) (hL : L.ok) : Runs T c x fun e' y => e' = e ∧ y = x' :=
  fun m B a w R Q hQ => ((evC_ok hT n).1 c x _ e x' L h hL).2 m B a w R Q fun a' w' hR => hQ e x' ⟨rfl, rfl⟩ a' w' hR
theorem Runs.seq {T : Tab} {c1 c2 : Code} {x : Lf} {P1 P : Ex → Lf → Prop} (h1 : Runs T c1 x P1) (h2 : ∀ y, P1 none y → Runs T c2 y P) (h3 : ∀ e y, P1 (some e) y → P (some e) y) : Runs T (.seq c1 c2) x P := by
  intro m B a w R Q hQ
  refine wp_seq (h1 m B a w R _ fun e y he a' w' hR => ?_)
  match e, he with
  | none, he =>
    obtain ⟨m', k1, k2, k3, k4⟩ := hR
    exact h2 y he m' B a' w' k2 Q fun e' y' he' a'' w'' hR' => hQ e' y' he' a'' w'' (Reach.trans k1 k3 k4 hR')
  | some none, he => exact hQ _ _ (h3 none y he) a' w' hR
  | some (some id), he => exact hQ _ _ (h3 (some id) y he) a' w' hR
theorem Runs.block {T : Tab} {c : Code} {id : Nat} {x : Lf} {P1 P : Ex → Lf → Prop} (h1 : Runs T c x P1) (h2 : ∀ y, P1 none y → P none y) (h3 : ∀ y, P1 (some none) y → P (some none) y)
    (h4 : ∀ y, P1 (some (some id)) y → P none y) (h5 : ∀ id' y, id' ≠ id → P1 (some (some id')) y → P (some (some id')) y) : Runs T (.block id c) x P := by
  intro m B a w R Q hQ
  refine wp_block (h1 m B a w R _ fun e y he a' w' hR => ?_)
  match e, he with
  | none, he => exact hQ _ _ (h2 y he) a' w' hR
  | some none, he => exact hQ _ _ (h3 y he) a' w' hR
  | some (some id'), he =>
    simp only [out, Exit.inBlock]
    by_cases hid : id' = id
    · subst hid
      rw [if_pos rfl]
      exact hQ _ _ (h4 y he) a' w' hR
    · rw [if_neg hid]
      exact hQ _ _ (h5 id' y hid he) a' w' hR
/-- a loop: 'Inv n x': at its head in state x, at most n rounds are left -/
theorem Runs.loop {T : Tab} {c : Code} {P : Ex → Lf → Prop} (Inv : Nat → Lf → Prop) (round : ∀ n x, Inv n x → Runs T c x fun e y => match e with | none => ∃ n', n' < n ∧ Inv n' y | some e => P (some e) y) {n : Nat} {x : Lf} (h0 : Inv n x) :
    Runs T (.loop c) x P := by
  have key : ∀ N n x, n < N → Inv n x → ∀ m B a w, Rel m B x a w → ∀ Q : Exit → Act → World → Prop, (∀ e y, P e y → ∀ a' w', Reach m B x.2.1.n w y a' w' → Q (out e) a' w') → Code.rounds T.P c Q N a w := by
    intro N
    induction N with
    | zero => intro n x hn; omega
    | succ N ih =>
      intro n x hn hI m B a w R Q hQ
      rw [rounds_succ]
      refine round n x hI m B a w R _ fun e y he a' w' hR => ?_
      match e, he with
      | none, he =>
        obtain ⟨n', hn', hI'⟩ := he
        obtain ⟨m', k1, k2, k3, k4⟩ := hR
        exact ih n' y (by omega) hI' m' B a' w' k2 Q fun e' y' he' a'' w'' hR' => hQ e' y' he' a'' w'' (Reach.trans k1 k3 k4 hR')
      | some none, he => exact hQ _ _ he a' w' hR
      | some (some id), he => exact hQ _ _ he a' w' hR
  intro m B a w R Q hQ
  exact wp_loop_rounds (n + 1) (key (n + 1) n x (by omega) h0 m B a w R Q hQ)
/-- a call out of its body -/
theorem calls_of_runs {T : Tab} {f : Nat} {F : Func} {c : Code} (hF : T.P.funcs[f]? = some F) (hc : F.body = some c) {vals : List Value} {v : Value} (hvals : (vals.all (lt 0)) = true) (hv : lt 0 v = true)
    (h : Runs T c (vals ++ List.replicate (F.ntmps - vals.length) undef, ⟨0, []⟩, []) fun e y => (e = none ∨ e = some none) ∧ resS T.P F y.1 y.2.1 = some v) (w : World) :
    Calls T.P f vals.toArray w fun e w' => e = .returned v ∧ Tidy w w' := by
  have E : Emb (fun b => (b, 0)) w.heap.size ⟨0, []⟩ w :=
    Emb.none w
  have hst : ∀ y ∈ vals, lt 0 y = true := List.all_eq_true.1 hvals
  have e0 : vals.map (mv fun b => (b, 0)) = vals := (List.map_congr_left fun y hy => mv_still (hst y hy)).trans (List.map_id' _)
  refine calls_of_wp hF hc ?_
  have R : Rel (fun b => (b, 0)) w.heap.size (vals ++ List.replicate (F.ntmps - vals.length) undef, ⟨0, []⟩, []) { tmps := vals.toArray ++ Array.replicate (F.ntmps - vals.toArray.size) undef, defers := [] } w := by
    refine ⟨?_, rfl, E, ?_⟩
    · simp [mv_undef, e0]
    · intro y hy
      rcases List.mem_append.1 hy with hy | hy
      · exact hst y hy
      · rw [List.eq_of_mem_replicate hy]; simp [undef, lt]
  refine h _ _ _ w R _ fun e y he a' w' hR => ?_
  obtain ⟨hex, hres⟩ := he
  obtain ⟨m', k1, k2, k3, k4⟩ := hR
  obtain ⟨r1, r2⟩ := resS_run k2.emb k2.wf hres
  rw [← k2.tmps, mv_still hv] at r1
  have post : a'.defers = [] ∧ ∃ v', (results F a'.tmps).run T.P w' = .ok v' w' ∧ (Ending.returned v' = .returned v ∧ Tidy w w') :=
    ⟨k2.dfr, _, r1, rfl, k3, fun k h1 h2 => k2.emb.ice k h1 h2⟩
  rcases hex with rfl | rfl <;> exact post
/-! ### the pieces of a piece of code -/
def cFst : Code → Code
  | .seq a _ => a
  | c => c
def cSnd : Code → Code
  | .seq _ b => b
  | c => c
def cIn : Code → Code
  | .block _ c => c
  | .loop c => c
  | .scope c => c
  | c => c
def cBody (F : Func) : Code := F.body.getD .skip
/-- pieces one behind the other, ahead of the rest -/
def seqs : List Code → Code → Code
  | [], X => X
  | c :: cs, X => .seq c (seqs cs X)
def evL (T : Tab) (n : Nat) : List Code → Lf → Lg → Option (Ex × Lf × Lg)
  | [], x, L => some (none, x, L)
  | c :: cs, x, L =>
    match evC T n false c x L with
    | some (none, x', L') => evL T n cs x' L'
    | _ => none
theorem evL_ok {T : Tab} (hT : TabOk T) {n : Nat} {X : Code} {P : Ex → Lf → Prop} : ∀ (cs : List Code) (x x' : Lf) (L L' : Lg) (e : Ex), evL T n cs x L = some (e, x', L') → L'.ok → L.ok ∧ e = none ∧ (Runs T X x' P → Runs T (seqs cs X) x P)
  | [], x, x', L, L', e, h, hL => by
    simp only [evL] at h
    cases h
    exact ⟨hL, rfl, id⟩
  | c :: cs, x, x', L, L', e, h, hL => by
    simp only [evL] at h
    split at h
    · rename_i x1 L1 h1
      obtain ⟨g1, g2, g3⟩ := evL_ok hT cs x1 x' L1 L' e h hL
      obtain ⟨g4, g5⟩ := (evC_ok hT n).1 _ _ _ _ _ _ h1 g1
      refine ⟨g4, g2, fun hX m B a w R Q hQ => wp_seq (g5 m B a w R _ fun a' w' hR => ?_)⟩
      obtain ⟨m', k1, k2, k3, k4⟩ := hR
      exact g3 hX m' B a' w' k2 Q fun e' y' he' a'' w'' hR' => hQ e' y' he' a'' w'' (Reach.trans k1 k3 k4 hR')
    · cases h
/-- temporaries of which nothing is known but how many they are -/
def tl (n : Nat) (g : Nat → Value) : List Value := (List.range n).map g
theorem tl_of {J : List Value} {n : Nat} (h : J.length = n) : ∃ g, J = tl n g := by
  refine ⟨fun i => J.getD i undef, ?_⟩
  unfold tl
  refine List.ext_getElem (by simp [h]) fun i h1 h2 => ?_
  simp [h1]
/-- What is to be reckoned of a piece of code: how it ends, the first k temporaries and how many more there are, the memory, what was decided. -/
def GoesT (r : Option (Ex × Lf × Lg)) (k n : Nat) (e : Ex) (front : List Value) (h : Hp) (cs : Log) : Prop :=
  r.map (fun r => (r.1, r.2.1.1.take k, (r.2.1.1.drop k).length, r.2.1.2.1, r.2.2.cs)) = some (e, front, n, h, cs) ∧
    r.map (fun r => r.2.2.es.map Prod.fst) = r.map (fun r => r.2.2.es.map Prod.snd) ∧ r.map (fun r => r.2.2.bs.map Prod.fst) = r.map (fun r => r.2.2.bs.map Prod.snd)
/-- the same, where no order is drawn -/
def GoesE (r : Option (Ex × Lf × Lg)) (k n : Nat) (e : Ex) (front : List Value) (h : Hp) (cs : Log) : Prop :=
  r.map (fun r => (r.1, r.2.1.1.take k, (r.2.1.1.drop k).length, r.2.1.2.1, r.2.2.cs, r.2.2.es, r.2.2.bs)) = some (e, front, n, h, cs, [], [])
theorem GoesE.t {r : Option (Ex × Lf × Lg)} {k n : Nat} {e : Ex} {front : List Value} {h : Hp} {cs : Log} (hG : GoesE r k n e front h cs) : GoesT r k n e front h cs := by
  unfold GoesE at hG
  cases r with
  | none => cases hG
  | some r =>
    simp only [Option.map_some, Option.some.injEq, Prod.mk.injEq] at hG
    obtain ⟨h1, h2, h3, h4, h5, h6, h7⟩ := hG
    refine ⟨?_, ?_, ?_⟩
    · rw [Option.map_some, h1, h2, h3, h4, h5]
    · simp [h6]
    · simp [h7]
theorem goesT_some {r : Option (Ex × Lf × Lg)} {k n : Nat} {e : Ex} {front : List Value} {h : Hp} {cs : Log} (hG : GoesT r k n e front h cs) (hcs : okLog cs) : ∃ g s L, r = some (e, (front ++ tl n g, h, s), L) ∧ L.ok := by
  obtain ⟨h1, h5, h6⟩ := hG
  cases r with
  | none => cases h1
  | some r =>
    simp only [Option.map_some, Option.some.injEq, Prod.mk.injEq] at h1 h5 h6
    obtain ⟨e', ⟨t', h', s'⟩, L⟩ := r
    simp only at h1 h5 h6
    obtain ⟨h1, h2, h3, h4, h7⟩ := h1
    subst h1 h4
    obtain ⟨g, hg⟩ := tl_of h3
    refine ⟨g, s', L, ?_, by rw [h7]; exact hcs, all_eq _ h5, all_eq _ h6⟩
    rw [← h2, ← hg, List.take_append_drop]
theorem goesT_runs {T : Tab} (hT : TabOk T) {N : Nat} {c : Code} {t : List Value} {h h' : Hp} {s s0 : List Dec} {k n : Nat} {e : Ex} {front : List Value} {cs : Log} (hG : GoesT (evC T N false c (t, h, s) ⟨[], [], []⟩) k n e front h' cs) (hcs : okLog cs) :
    Runs T c (t, h, s0) fun e' y => e' = e ∧ (∃ g, y.1 = front ++ tl n g) ∧ y.2.1 = h' := by
  obtain ⟨g, s', L, hr, hL⟩ := goesT_some hG hcs
  refine Runs.script ((Runs.ev hT hr hL).mono fun e2 y he => ?_)
  obtain ⟨rfl, rfl⟩ := he
  exact ⟨rfl, ⟨g, rfl⟩, rfl⟩
theorem goesT_list {T : Tab} (hT : TabOk T) {N : Nat} {l : List Code} {X : Code} {t : List Value} {h h' : Hp} {s s0 : List Dec} {k n : Nat} {e : Ex} {front : List Value} {cs : Log} {P : Ex → Lf → Prop} (hG : GoesT (evL T N l (t, h, s) ⟨[], [], []⟩) k n e front h' cs) (hcs : okLog cs)
    (hX : ∀ g, Runs T X (front ++ tl n g, h', []) P) : Runs T (seqs l X) (t, h, s0) P := by
  obtain ⟨g, s', L, hr, hL⟩ := goesT_some hG hcs
  obtain ⟨_, _, h3⟩ := evL_ok (X := X) (P := P) hT l _ _ _ _ _ hr hL
  exact Runs.script (h3 (Runs.script (hX g)))
/-- a 'for': what stands ahead of it, and its rounds -/
theorem Runs.forLoop {T : Tab} {c : Code} {id : Nat} {x : Lf} {P : Lf → Prop} {R : Lf → Prop} (Inv : Nat → Lf → Prop)
    (round : ∀ n x, Inv n x → Runs T c x fun e y => match e with | none => ∃ n', n' < n ∧ Inv n' y | some none => R y | some (some id') => id' = id ∧ P y) {n : Nat} (h0 : Inv n x) :
    Runs T (.block id (.loop c)) x fun e y => match e with | none => P y | some none => R y | some (some _) => False := by
  refine Runs.block (P1 := fun e y => match e with | none => False | some none => R y | some (some id') => id' = id ∧ P y) ?_ (fun y he => he.elim) (fun y he => he) (fun y he => he.2) (fun id' y hid he => absurd he.1 hid)
  refine Runs.loop Inv (fun n x hI => (round n x hI).mono fun e y he => ?_) h0
  match e, he with
  | none, he => exact he
  | some none, he => exact he
  | some (some id'), he => exact he
end Go.KRun
namespace Go.Wd
/-- B: the base; D = dt R + d0 the divisor, dt its highest word; P = N R + p0 what is divided, N its two highest words -/
theorem guess_low {B R dt d0 N p0 : Int} (hR : 0 < R) (hd : 0 < dt) (h0 : 0 ≤ d0) (hp : p0 < R) (hq0 : 0 ≤ (N * R + p0) / (dt * R + d0)) (hP : N * R + p0 < B * (dt * R + d0)) :
    (N * R + p0) / (dt * R + d0) ≤ N / dt ∧ (N * R + p0) / (dt * R + d0) ≤ B - 1 := by
  have hD : 0 < dt * R + d0 := by have := Int.mul_pos hd hR; omega
  have e := Int.mul_ediv_add_emod (N * R + p0) (dt * R + d0)
  have m := Int.emod_nonneg (N * R + p0) (show dt * R + d0 ≠ 0 by omega)
  generalize hq : (N * R + p0) / (dt * R + d0) = q at *
  refine ⟨?_, ?_⟩
  · refine Int.le_ediv_of_mul_le hd ?_
    have h1 : q * dt * R ≤ N * R + p0 := by
      have : (dt * R + d0) * q = q * dt * R + d0 * q := by rw [Int.add_mul, Int.mul_right_comm, Int.mul_comm dt q]
      have h2 : 0 ≤ d0 * q := Int.mul_nonneg h0 hq0
      omega
    have h3 : q * dt * R < (N + 1) * R := by rw [Int.add_mul]; omega
    have := Int.lt_of_mul_lt_mul_right h3 (Int.le_of_lt hR)
    omega
  · have h1 : q * (dt * R + d0) < B * (dt * R + d0) := by rw [Int.mul_comm q]; omega
    have := Int.lt_of_mul_lt_mul_right h1 (Int.le_of_lt hD)
    omega
theorem guess_high {B R dt d0 N p0 g : Int} (hR : 0 < R) (hd : 0 < dt) (hB : B ≤ 2 * dt) (h1 : d0 < R) (hp0 : 0 ≤ p0) (hP : N * R + p0 < B * (dt * R + d0)) (h0 : 0 ≤ d0) (hg : g ≤ N / dt) :
    g ≤ (N * R + p0) / (dt * R + d0) + 2 := by
  have hD : 0 < dt * R + d0 := by have := Int.mul_pos hd hR; omega
  have e := Int.lt_mul_ediv_self_add hD (x := N * R + p0)
  have hqB : (N * R + p0) / (dt * R + d0) < B := Int.ediv_lt_of_lt_mul hD hP
  generalize (N * R + p0) / (dt * R + d0) = q at *
  have a1 : g * dt ≤ N := Int.le_trans (Int.mul_le_mul_of_nonneg_right hg (Int.le_of_lt hd)) (Int.ediv_mul_le N (by omega))
  have a2 : g * dt * R ≤ N * R := Int.mul_le_mul_of_nonneg_right a1 (Int.le_of_lt hR)
  rcases Int.lt_or_le g (q + 3) with hc | hc
  · omega
  · exfalso
    by_cases hq : 0 ≤ q + 1
    · have a3 : (dt * R + d0) * (q + 1) ≤ (dt * R + R) * (q + 1) := Int.mul_le_mul_of_nonneg_right (by omega) hq
      have a4 : (dt * R + d0) * q + (dt * R + d0) = (dt * R + d0) * (q + 1) := by rw [Int.mul_add, Int.mul_one]
      have a5 : (dt * R + R) * (q + 1) = (dt + 1) * (q + 1) * R := by rw [show dt * R + R = (dt + 1) * R from by rw [Int.add_mul, Int.one_mul], Int.mul_right_comm]
      have a6 : g * dt * R < (dt + 1) * (q + 1) * R := by omega
      have a7 := Int.lt_of_mul_lt_mul_right a6 (Int.le_of_lt hR)
      have a8 : (q + 3) * dt ≤ g * dt := Int.mul_le_mul_of_nonneg_right hc (Int.le_of_lt hd)
      have a9 : (q + 3) * dt = q * dt + 3 * dt := Int.add_mul ..
      have b1 : (dt + 1) * (q + 1) = q * dt + dt + q + 1 := by rw [Int.add_mul, Int.mul_add, Int.mul_comm dt q]; omega
      omega
    · have c1 : g * dt * R + p0 < (dt * R + d0) * (q + 1) := by
        have a4 : (dt * R + d0) * q + (dt * R + d0) = (dt * R + d0) * (q + 1) := by rw [Int.mul_add, Int.mul_one]
        omega
      have c2 : (q + 3) * dt ≤ g * dt := Int.mul_le_mul_of_nonneg_right hc (Int.le_of_lt hd)
      have c3 : (q + 3) * dt * R ≤ g * dt * R := Int.mul_le_mul_of_nonneg_right c2 (Int.le_of_lt hR)
      have c4 : (dt * R + d0) * (q + 1) ≤ dt * R * (q + 1) := by
        rw [Int.add_mul]
        have : d0 * (q + 1) ≤ 0 := Int.mul_nonpos_of_nonneg_of_nonpos h0 (by omega)
        omega
      have c5 : (q + 3) * dt * R = dt * R * (q + 1) + 2 * (dt * R) := by
        rw [Int.mul_assoc, Int.mul_comm (q + 3), show q + 3 = (q + 1) + 2 from by omega, Int.mul_add, Int.mul_comm (dt * R) 2]
      have c6 := Int.mul_pos hd hR
      omega
end Go.Wd
