/-
  Con2, Con3, ShN
-/
import Derived.Test.YtgefjidphfdhdabGreatDoorG20
namespace Go.Proofs.YtgefjidphfdhdabGreatDoor
open Go.KRun Go.Wd
/-- of a number and an int -/
def g1n (k : W4 → Int → List Dec → Option (Value × List Dec × Log)) : Ans := fun vals s =>
  match vals with
  | [x, .int .i64 n] =>
    match w4 x with
    | some a =>
      match k a n s with
      | some r => some (r.1, r.2.1, (decide (a.ok ∧ -9223372036854775808 ≤ n ∧ n ≤ 9223372036854775807), true) :: r.2.2)
      | none => none
    | none => none
  | _ => none
theorem g1n_ok {f : Nat} {k : W4 → Int → List Dec → Option (Value × List Dec × Log)}
    (hk : ∀ (x : W4) (n : Int), x.ok → -9223372036854775808 ≤ n → n ≤ 9223372036854775807 → ∀ s v s' lg, k x n s = some (v, s', lg) → okLog lg → ∀ w, Calls Tryz.prog f #[vW x, .int .i64 n] w fun e w' => e = .returned v ∧ Tidy w w') : AnsOk f (g1n k) := by
  intro vals s v s' lg h hl w
  unfold g1n at h
  split at h
  · split at h
    · rename_i a ha
      split at h
      · rename_i r hr
        cases h
        have h1 := hl _ (List.mem_cons_self)
        simp only [decide_eq_true_eq] at h1
        rw [w4_spec ha]
        exact hk a _ h1.1 h1.2.1 h1.2.2 s r.1 r.2.1 r.2.2 hr (fun p hp => hl p (List.mem_cons_of_mem _ hp)) w
      · cases h
    · cases h
  · cases h
def plain1n (k : W4 → Int → Value) : W4 → Int → List Dec → Option (Value × List Dec × Log) := fun x n s => some (k x n, s, [])
theorem plain1n_ok {f : Nat} {k : W4 → Int → Value} (hk : ∀ (x : W4) (n : Int), x.ok → -9223372036854775808 ≤ n → n ≤ 9223372036854775807 → ∀ w, Calls Tryz.prog f #[vW x, .int .i64 n] w fun e w' => e = .returned (k x n) ∧ Tidy w w') : AnsOk f (g1n (plain1n k)) :=
  g1n_ok fun x n hx h0 h1 s v s' lg h _ w => by
    unfold plain1n at h
    cases h
    exact hk x n hx h0 h1 w
theorem okP1 {p : Bool × Bool} (h : p.1 = p.2) : okLog [p] := fun x hx => by rw [List.mem_singleton.1 hx]; exact h
theorem okPC {p : Bool × Bool} {l : Log} (h : p.1 = p.2) (hl : okLog l) : okLog (p :: l) := fun x hx => by
  rcases List.mem_cons.1 hx with rfl | hx
  · exact h
  · exact hl x hx
/-! ### Shl -/
def lu (n : Int) : Bool × Bool := (decide (prt n < 0), false)
def ld (n : Int) : Bool × Bool := (decide (rem n < 0), false)
def lq (n k : Int) : Log := [(decide ((64 : Int) = 0), false), (decide (IntKind.i64.wrap (n.tdiv 64) = k), true), (decide (n ≥ 256), false), (decide (n < 1), false)]
theorem shl_low (x : W4) (n : Int) : Fits (reckon (tabOf Tryz.prog extY conN true) 3000 75 [vW x, .int .i64 n] [tst true]) (vW x) [(decide (n < 1), true)] := ⟨by kernel_rfl, by kernel_rfl, by kernel_rfl, by kernel_rfl⟩
theorem shl_high (x : W4) (n : Int) : Fits (reckon (tabOf Tryz.prog extY conN true) 3000 75 [vW x, .int .i64 n] [tst false, tst true]) (vW ⟨0, 0, 0, 0⟩) [(decide (n ≥ 256), true), (decide (n < 1), false)] := ⟨by kernel_rfl, by kernel_rfl, by kernel_rfl, by kernel_rfl⟩
theorem shl_0 (x : W4) (n : Int) : Fits (reckon (tabOf Tryz.prog extY conN true) 3000 75 [vW x, .int .i64 n] [tst false, tst false, num 0]) (vW (shl0 x n)) (ld n :: lu n :: ld n :: lu n :: ld n :: lu n :: lu n :: lq n 0) := ⟨by kernel_rfl, by kernel_rfl, by kernel_rfl, by kernel_rfl⟩
theorem shl_1 (x : W4) (n : Int) : Fits (reckon (tabOf Tryz.prog extY conN true) 3000 75 [vW x, .int .i64 n] [tst false, tst false, num 1]) (vW (shl1 x n)) (ld n :: lu n :: ld n :: lu n :: lu n :: lq n 1) := ⟨by kernel_rfl, by kernel_rfl, by kernel_rfl, by kernel_rfl⟩
theorem shl_2 (x : W4) (n : Int) : Fits (reckon (tabOf Tryz.prog extY conN true) 3000 75 [vW x, .int .i64 n] [tst false, tst false, num 2]) (vW (shl2 x n)) (ld n :: lu n :: lu n :: lq n 2) := ⟨by kernel_rfl, by kernel_rfl, by kernel_rfl, by kernel_rfl⟩
theorem shl_3 (x : W4) (n : Int) : Fits (reckon (tabOf Tryz.prog extY conN true) 3000 75 [vW x, .int .i64 n] [tst false, tst false, num 3]) (vW (shl3 x n)) (lu n :: lq n 3) := ⟨by kernel_rfl, by kernel_rfl, by kernel_rfl, by kernel_rfl⟩
def shlW (x : W4) (n : Int) : W4 := if n < 1 then x else if 256 ≤ n then ⟨0, 0, 0, 0⟩ else W4.of (x.val * 2 ^ n.toNat)
def shlV4 (x : W4) (n : Int) : Value := vW (shlW x n)
theorem lu_ok {n : Int} (h : 0 ≤ n) : (lu n).1 = (lu n).2 := by
  have := prt_eq h
  exact decide_eq_false (by omega)
theorem ld_ok {n : Int} (h : 0 ≤ n) : (ld n).1 = (ld n).2 := by
  have := rem_eq h
  exact decide_eq_false (by omega)
theorem lq_ok {n k : Int} (h1 : ¬ n < 1) (h2 : ¬ 256 ≤ n) (h3 : n / 64 = k) : okLog (lq n k) := by
  refine okPC (by rfl) (okPC (decide_eq_true ?_) (okPC (decide_eq_false h2) (okP1 (decide_eq_false h1))))
  rw [Int.tdiv_eq_ediv_of_nonneg (by omega), wrap_i64' (by omega) (by omega)]
  exact h3
theorem shl_calls (x : W4) (n : Int) (hx : x.ok) (_h0 : -9223372036854775808 ≤ n) (_h9 : n ≤ 9223372036854775807) (w : World) : Calls Tryz.prog 75 #[vW x, .int .i64 n] w fun e w' => e = .returned (shlV4 x n) ∧ Tidy w w' := by
  unfold shlV4 shlW
  by_cases h1 : n < 1
  · rw [if_pos h1]
    exact fits_calls (tabY_ok conN_ok) (shl_low x n) (okP1 (decide_eq_true h1)) (by rfl) (by rfl) w
  · rw [if_neg h1]
    by_cases h2 : 256 ≤ n
    · rw [if_pos h2]
      exact fits_calls (tabY_ok conN_ok) (shl_high x n) (okPC (decide_eq_true h2) (okP1 (decide_eq_false h1))) (by rfl) (by rfl) w
    · rw [if_neg h2]
      have hn : 0 ≤ n := by omega
      have u := lu_ok hn
      have d := ld_ok hn
      have hj : n / 64 = 0 ∨ n / 64 = 1 ∨ n / 64 = 2 ∨ n / 64 = 3 := by omega
      rcases hj with hj | hj | hj | hj
      · rw [← shl0_eq hx hn hj]
        exact fits_calls (tabY_ok conN_ok) (shl_0 x n) (okPC d (okPC u (okPC d (okPC u (okPC d (okPC u (okPC u (lq_ok h1 h2 hj)))))))) (by rfl) (by rfl) w
      · rw [← shl1_eq hx hn hj]
        exact fits_calls (tabY_ok conN_ok) (shl_1 x n) (okPC d (okPC u (okPC d (okPC u (okPC u (lq_ok h1 h2 hj)))))) (by rfl) (by rfl) w
      · rw [← shl2_eq hx hn hj]
        exact fits_calls (tabY_ok conN_ok) (shl_2 x n) (okPC d (okPC u (okPC u (lq_ok h1 h2 hj)))) (by rfl) (by rfl) w
      · rw [← shl3_eq hx hn hj]
        exact fits_calls (tabY_ok conN_ok) (shl_3 x n) (okPC u (lq_ok h1 h2 hj)) (by rfl) (by rfl) w
/-! ### Shr -/
def conSh : Con := alt 75 (g1n (plain1n shlV4)) conN
theorem conSh_ok : ConOk conSh := alt_ok Tryz.func75 rfl (plain1n_ok shl_calls) conN_ok
def lk (x : W4) (n : Int) : Bool × Bool := (decide (x.ok ∧ -9223372036854775808 ≤ n ∧ n ≤ 9223372036854775807), true)
def shrR (m x : W4) (n : Int) : Value := .tuple #[vW m, .bool (!(eqW (shlW m n) x))]
theorem shr_low (x : W4) (n : Int) : Fits (reckon (tabOf Tryz.prog extY conSh true) 3000 102 [vW x, .int .i64 n] [tst true]) (.tuple #[vW x, .bool false]) [(decide (n < 1), true)] := ⟨by kernel_rfl, by kernel_rfl, by kernel_rfl, by kernel_rfl⟩
theorem shr_high (x : W4) (n : Int) : Fits (reckon (tabOf Tryz.prog extY conSh true) 3000 102 [vW x, .int .i64 n] [tst false, tst true]) (.tuple #[vW ⟨0, 0, 0, 0⟩, .bool (!(eqW x ⟨0, 0, 0, 0⟩))]) [(decide (n ≥ 256), true), (decide (n < 1), false)] := ⟨by kernel_rfl, by kernel_rfl, by kernel_rfl, by kernel_rfl⟩
theorem shr_0 (x : W4) (n : Int) : Fits (reckon (tabOf Tryz.prog extY conSh true) 3000 102 [vW x, .int .i64 n] [tst false, tst false, num 0]) (shrR (shr0 x n) x n) (lk (shr0 x n) n :: lu n :: ld n :: lu n :: ld n :: lu n :: ld n :: lu n :: lq n 0) := ⟨by kernel_rfl, by kernel_rfl, by kernel_rfl, by kernel_rfl⟩
theorem shr_1 (x : W4) (n : Int) : Fits (reckon (tabOf Tryz.prog extY conSh true) 3000 102 [vW x, .int .i64 n] [tst false, tst false, num 1]) (shrR (shr1 x n) x n) (lk (shr1 x n) n :: lu n :: ld n :: lu n :: ld n :: lu n :: lq n 1) := ⟨by kernel_rfl, by kernel_rfl, by kernel_rfl, by kernel_rfl⟩
theorem shr_2 (x : W4) (n : Int) : Fits (reckon (tabOf Tryz.prog extY conSh true) 3000 102 [vW x, .int .i64 n] [tst false, tst false, num 2]) (shrR (shr2 x n) x n) (lk (shr2 x n) n :: lu n :: ld n :: lu n :: lq n 2) := ⟨by kernel_rfl, by kernel_rfl, by kernel_rfl, by kernel_rfl⟩
theorem shr_3 (x : W4) (n : Int) : Fits (reckon (tabOf Tryz.prog extY conSh true) 3000 102 [vW x, .int .i64 n] [tst false, tst false, num 3]) (shrR (shr3 x n) x n) (lk (shr3 x n) n :: lu n :: lq n 3) := ⟨by kernel_rfl, by kernel_rfl, by kernel_rfl, by kernel_rfl⟩
def shrW (x : W4) (n : Int) : W4 := if n < 1 then x else if 256 ≤ n then ⟨0, 0, 0, 0⟩ else W4.of (x.val / 2 ^ n.toNat)
/-- whether a bit is lost -/
def shrL (x : W4) (n : Int) : Bool := if n < 1 then false else if 256 ≤ n then decide (x.val ≠ 0) else decide (x.val % 2 ^ n.toNat ≠ 0)
def shrV4 (x : W4) (n : Int) : Value := .tuple #[vW (shrW x n), .bool (shrL x n)]
theorem zero_iff {x : W4} (hx : x.ok) : (!(eqW x ⟨0, 0, 0, 0⟩)) = decide (x.val ≠ 0) := by
  rw [Bool.eq_iff_iff]
  simp only [Bool.not_eq_true', decide_eq_true_eq, ← Bool.not_eq_true, eqW_iff]
  constructor
  · intro h h0
    exact h (W4.val_inj hx ⟨z64, z64, z64, z64⟩ (h0.trans (by rfl)))
  · intro h h0
    exact h (by rw [h0]; rfl)
theorem lost_iff {x : W4} (hx : x.ok) {n : Int} (h1 : ¬ n < 1) (h2 : ¬ 256 ≤ n) : (!(eqW (shlW (W4.of (x.val / 2 ^ n.toNat)) n) x)) = decide (x.val % 2 ^ n.toNat ≠ 0) := by
  have hp : (0 : Int) < 2 ^ n.toNat := Int.pow_pos (by omega)
  have b := W4.val_bd hx
  have hm := Int.mul_ediv_add_emod x.val (2 ^ n.toNat)
  have h3 := Int.emod_nonneg x.val (Int.ne_of_gt hp)
  have h4 : 0 ≤ x.val / 2 ^ n.toNat := Int.ediv_nonneg b.1 (by omega)
  have h5 : x.val / 2 ^ n.toNat ≤ x.val := by
    have := mul_le_of 1 (2 ^ n.toNat) (x.val / 2 ^ n.toNat) h4 (by omega)
    rw [Int.mul_one, Int.mul_comm] at this
    omega
  have e : shlW (W4.of (x.val / 2 ^ n.toNat)) n = W4.of (x.val - x.val % 2 ^ n.toNat) := by
    unfold shlW
    rw [if_neg h1, if_neg h2, W4.val_of, Int.emod_eq_of_lt h4 (by omega), Int.mul_comm]
    congr 1
    omega
  rw [e, Bool.eq_iff_iff]
  simp only [Bool.not_eq_true', decide_eq_true_eq, ← Bool.not_eq_true, eqW_iff]
  generalize x.val % 2 ^ n.toNat = l at *
  have h6 : 0 ≤ 2 ^ n.toNat * (x.val / 2 ^ n.toNat) := Int.mul_nonneg (by omega) h4
  constructor
  · intro h h0
    apply h
    rw [h0, Int.sub_zero, W4.of_val hx]
  · intro h h0
    have h7 := congrArg W4.val h0
    rw [W4.val_of, Int.emod_eq_of_lt (by omega) (by omega)] at h7
    omega
theorem lk_ok {x : W4} {n : Int} (h : x.ok) (h0 : -9223372036854775808 ≤ n) (h9 : n ≤ 9223372036854775807) : (lk x n).1 = (lk x n).2 := by
  unfold lk
  exact decide_eq_true ⟨h, h0, h9⟩
set_option maxRecDepth 100000 in
theorem shr_calls (x : W4) (n : Int) (hx : x.ok) (h0 : -9223372036854775808 ≤ n) (h9 : n ≤ 9223372036854775807) (w : World) : Calls Tryz.prog 102 #[vW x, .int .i64 n] w fun e w' => e = .returned (shrV4 x n) ∧ Tidy w w' := by
  unfold shrV4 shrW shrL
  by_cases h1 : n < 1
  · rw [if_pos h1, if_pos h1]
    exact fits_calls (tabY_ok conSh_ok) (shr_low x n) (okP1 (decide_eq_true h1)) (by rfl) (by rfl) w
  · rw [if_neg h1, if_neg h1]
    by_cases h2 : 256 ≤ n
    · rw [if_pos h2, if_pos h2, ← zero_iff hx]
      exact fits_calls (tabY_ok conSh_ok) (shr_high x n) (okPC (decide_eq_true h2) (okP1 (decide_eq_false h1))) (by rfl) (by rfl) w
    · rw [if_neg h2, if_neg h2]
      have hn : 0 ≤ n := by omega
      have u := lu_ok hn
      have d := ld_ok hn
      have hl := lost_iff hx h1 h2
      have hj : n / 64 = 0 ∨ n / 64 = 1 ∨ n / 64 = 2 ∨ n / 64 = 3 := by omega
      rw [← hl]
      rcases hj with hj | hj | hj | hj
      · obtain ⟨e1, e2⟩ := shr0_eq hx hn hj
        rw [← e1]
        exact fits_calls (tabY_ok conSh_ok) (shr_0 x n) (okPC (lk_ok e2 h0 h9) (okPC u (okPC d (okPC u (okPC d (okPC u (okPC d (okPC u (lq_ok h1 h2 hj))))))))) (by rfl) (by rfl) w
      · obtain ⟨e1, e2⟩ := shr1_eq hx hn hj
        rw [← e1]
        exact fits_calls (tabY_ok conSh_ok) (shr_1 x n) (okPC (lk_ok e2 h0 h9) (okPC u (okPC d (okPC u (okPC d (okPC u (lq_ok h1 h2 hj))))))) (by rfl) (by rfl) w
      · obtain ⟨e1, e2⟩ := shr2_eq hx hn hj
        rw [← e1]
        exact fits_calls (tabY_ok conSh_ok) (shr_2 x n) (okPC (lk_ok e2 h0 h9) (okPC u (okPC d (okPC u (lq_ok h1 h2 hj))))) (by rfl) (by rfl) w
      · obtain ⟨e1, e2⟩ := shr3_eq hx hn hj
        rw [← e1]
        exact fits_calls (tabY_ok conSh_ok) (shr_3 x n) (okPC (lk_ok e2 h0 h9) (okPC u (lq_ok h1 h2 hj))) (by rfl) (by rfl) w
/-- a test that is decided ahead, by another word -/
def pickC (b : Bool) : List Dec → Bool × List Dec × Log
  | .inr (.inr (.inr (.inl d))) :: s => (d, s, [(b, d)])
  | s => (b, s, [])
theorem pickC_ok {b : Bool} {s : List Dec} (h : okLog (pickC b s).2.2) : (pickC b s).1 = b := by
  unfold pickC at *
  split at h
  · rename_i d s
    exact (h (b, d) (List.mem_singleton.2 rfl)).symm
  · rfl
/-- whether a bit is lost is decided ahead -/
def shrB : W4 → Int → List Dec → Option (Value × List Dec × Log) := fun x n s => some (.tuple #[vW (shrW x n), .bool (pickC (shrL x n) s).1], (pickC (shrL x n) s).2.1, (pickC (shrL x n) s).2.2)
theorem shrB_ok : AnsOk 102 (g1n shrB) := g1n_ok fun x n hx h0 h1 s v s' lg h hl w => by
  unfold shrB at h
  cases h
  rw [pickC_ok hl]
  exact shr_calls x n hx h0 h1 w
/-! ### Len64 -/
/-- the table of the library: how many bits a byte has -/
def lenTab : List UInt8 := (List.range 256).map fun i => UInt8.ofNat (bitLen i)
def byteLen (z : Int) : Int := ((lenTab.getD (IntKind.u8.wrap z).toNat 0).toNat : Int)
def lt8 (z : Int) : Bool × Bool := (decide (0 ≤ IntKind.u8.wrap z ∧ (IntKind.u8.wrap z).toNat < lenTab.length), true)
def sh (z : Int) (k : Nat) : Int := z.fdiv (2 ^ k)
def ge (z k : Int) (d : Bool) : Bool × Bool := (decide (z ≥ k), d)
def lenE (m z : Int) : Value := .int .i64 (IntKind.i64.wrap (m + IntKind.i64.wrap (byteLen z)))
def nz : Bool × Bool := (false, false)
theorem len_000 (u : Int) : Fits (reckon (tabOf Tryz.prog extY conN true) 3000 89 [.int .u64 u] [tst false, tst false, tst false]) (lenE 0 u) [lt8 u, ge u 256 false, ge u 65536 false, ge u 4294967296 false] := ⟨by kernel_rfl, by kernel_rfl, by kernel_rfl, by kernel_rfl⟩
theorem len_001 (u : Int) : Fits (reckon (tabOf Tryz.prog extY conN true) 3000 89 [.int .u64 u] [tst false, tst false, tst true]) (lenE 8 (sh u 8)) [lt8 (sh u 8), nz, ge u 256 true, ge u 65536 false, ge u 4294967296 false] := ⟨by kernel_rfl, by kernel_rfl, by kernel_rfl, by kernel_rfl⟩
theorem len_010 (u : Int) : Fits (reckon (tabOf Tryz.prog extY conN true) 3000 89 [.int .u64 u] [tst false, tst true, tst false]) (lenE 16 (sh u 16)) [lt8 (sh u 16), ge (sh u 16) 256 false, nz, ge u 65536 true, ge u 4294967296 false] := ⟨by kernel_rfl, by kernel_rfl, by kernel_rfl, by kernel_rfl⟩
theorem len_011 (u : Int) : Fits (reckon (tabOf Tryz.prog extY conN true) 3000 89 [.int .u64 u] [tst false, tst true, tst true]) (lenE 24 (sh (sh u 16) 8)) [lt8 (sh (sh u 16) 8), nz, ge (sh u 16) 256 true, nz, ge u 65536 true, ge u 4294967296 false] := ⟨by kernel_rfl, by kernel_rfl, by kernel_rfl, by kernel_rfl⟩
theorem len_100 (u : Int) : Fits (reckon (tabOf Tryz.prog extY conN true) 3000 89 [.int .u64 u] [tst true, tst false, tst false]) (lenE 32 (sh u 32)) [lt8 (sh u 32), ge (sh u 32) 256 false, ge (sh u 32) 65536 false, nz, ge u 4294967296 true] := ⟨by kernel_rfl, by kernel_rfl, by kernel_rfl, by kernel_rfl⟩
theorem len_101 (u : Int) : Fits (reckon (tabOf Tryz.prog extY conN true) 3000 89 [.int .u64 u] [tst true, tst false, tst true]) (lenE 40 (sh (sh u 32) 8)) [lt8 (sh (sh u 32) 8), nz, ge (sh u 32) 256 true, ge (sh u 32) 65536 false, nz, ge u 4294967296 true] := ⟨by kernel_rfl, by kernel_rfl, by kernel_rfl, by kernel_rfl⟩
theorem len_110 (u : Int) : Fits (reckon (tabOf Tryz.prog extY conN true) 3000 89 [.int .u64 u] [tst true, tst true, tst false]) (lenE 48 (sh (sh u 32) 16)) [lt8 (sh (sh u 32) 16), ge (sh (sh u 32) 16) 256 false, nz, ge (sh u 32) 65536 true, nz, ge u 4294967296 true] := ⟨by kernel_rfl, by kernel_rfl, by kernel_rfl, by kernel_rfl⟩
theorem len_111 (u : Int) : Fits (reckon (tabOf Tryz.prog extY conN true) 3000 89 [.int .u64 u] [tst true, tst true, tst true]) (lenE 56 (sh (sh (sh u 32) 16) 8)) [lt8 (sh (sh (sh u 32) 16) 8), nz, ge (sh (sh u 32) 16) 256 true, nz, ge (sh u 32) 65536 true, nz, ge u 4294967296 true] := ⟨by kernel_rfl, by kernel_rfl, by kernel_rfl, by kernel_rfl⟩
theorem lenTab_len : lenTab.length = 256 := by unfold lenTab; rw [List.length_map, List.length_range]
theorem lenTab_get (b : Nat) (h : b < 256) : (lenTab.getD b 0).toNat = bitLen b := by
  have h1 : lenTab.getD b 0 = UInt8.ofNat (bitLen b) := by
    unfold lenTab
    rw [List.getD, List.getElem?_map, List.getElem?_range h]
    rfl
  have h2 := bitLen_le8 b h
  rw [h1, UInt8.toNat_ofNat']
  omega
theorem u8_wrap {z : Int} (h0 : 0 ≤ z) (h1 : z < 256) : IntKind.u8.wrap z = z := by
  simp [IntKind.wrap, IntKind.bits, IntKind.signed]; omega
theorem lenE_eq {m : Int} {Z : Nat} (hm : 0 ≤ m) (hm' : m ≤ 56) (h1 : Z < 256) : lenE m (Z : Int) = .int .i64 (m + bitLen Z) ∧ (lt8 (Z : Int)).1 = (lt8 (Z : Int)).2 := by
  have hb := bitLen_le8 Z h1
  have e := u8_wrap (z := (Z : Int)) (by omega) (by omega)
  refine ⟨?_, ?_⟩
  · unfold lenE byteLen
    rw [e, Int.toNat_natCast, lenTab_get Z h1, wrap_i64' (n := ((bitLen Z : Nat) : Int)) (by omega) (by omega), wrap_i64' (by omega) (by omega)]
  · unfold lt8
    rw [e, Int.toNat_natCast]
    rw [lenTab_len]
    exact decide_eq_true (And.intro (by omega) h1)
theorem sh_eq (Z k : Nat) : sh (Z : Int) k = ((Z / 2 ^ k : Nat) : Int) := by
  unfold sh
  rw [Int.fdiv_eq_ediv_of_nonneg _ (Int.le_of_lt (Int.pow_pos (by omega)))]
  simp
theorem ge_t {z k : Int} (h : k ≤ z) : (ge z k true).1 = (ge z k true).2 := decide_eq_true h
theorem ge_f {z k : Int} (h : z < k) : (ge z k false).1 = (ge z k false).2 := decide_eq_false (by omega)
theorem nz_ok : nz.1 = nz.2 := rfl
theorem len_up (x b : Nat) (h : 2 ^ b ≤ x) : bitLen x = b + bitLen (x / 2 ^ b) := bitLen_shift x b (by
  have : 0 < x / 2 ^ b := Nat.div_pos h (Nat.two_pow_pos b)
  omega)
def len64V (u : Int) : Value := .int .i64 (bitLen u.toNat : Nat)
set_option maxRecDepth 100000 in
theorem len64_calls (u : Int) (h0 : 0 ≤ u) (h1 : u < 18446744073709551616) (w : World) : Calls Tryz.prog 89 #[.int .u64 u] w fun e w' => e = .returned (len64V u) ∧ Tidy w w' := by
  obtain ⟨U, rfl⟩ := Int.eq_ofNat_of_zero_le h0
  unfold len64V
  rw [Int.toNat_natCast]
  have p8 : (2 : Nat) ^ 8 = 256 := rfl
  have p16 : (2 : Nat) ^ 16 = 65536 := rfl
  have p32 : (2 : Nat) ^ 32 = 4294967296 := rfl
  have step : ∀ {v : Value} {m : Int} {Z : Nat} {s : List Dec} {cs : Log}, Fits (reckon (tabOf Tryz.prog extY conN true) 3000 89 [.int .u64 (U : Int)] s) v cs → okLog cs → v = .int .i64 (bitLen U : Nat) → Calls Tryz.prog 89 #[.int .u64 (U : Int)] w fun e w' => e = .returned (.int .i64 (bitLen U : Nat)) ∧ Tidy w w' :=
    fun {v m Z s cs} hf hc hv => by subst hv; exact fits_calls (tabY_ok conN_ok) hf hc (by rfl) (by rfl) w
  by_cases a : U < 4294967296
  · by_cases b : U < 65536
    · by_cases c : U < 256
      · obtain ⟨e1, e2⟩ := lenE_eq (m := 0) (by omega) (by omega) c
        exact step (m := 0) (Z := 0) (len_000 U) (okPC e2 (okPC (ge_f (by omega)) (okPC (ge_f (by omega)) (okP1 (ge_f (by omega)))))) (by rw [e1]; congr 1; omega)
      · have l := len_up U 8 (by omega)
        obtain ⟨e1, e2⟩ := lenE_eq (m := 8) (Z := U / 2 ^ 8) (by omega) (by omega) (by omega)
        rw [← sh_eq] at e1 e2
        exact step (m := 0) (Z := 0) (len_001 U) (okPC e2 (okPC nz_ok (okPC (ge_t (by omega)) (okPC (ge_f (by omega)) (okP1 (ge_f (by omega))))))) (by rw [e1]; congr 1; omega)
    · have l := len_up U 16 (by omega)
      by_cases c : U / 2 ^ 16 < 256
      · obtain ⟨e1, e2⟩ := lenE_eq (m := 16) (Z := U / 2 ^ 16) (by omega) (by omega) c
        rw [← sh_eq] at e1 e2
        exact step (m := 0) (Z := 0) (len_010 U) (okPC e2 (okPC (ge_f (by rw [sh_eq]; omega)) (okPC nz_ok (okPC (ge_t (by omega)) (okP1 (ge_f (by omega))))))) (by rw [e1]; congr 1; omega)
      · have l2 := len_up (U / 2 ^ 16) 8 (by omega)
        obtain ⟨e1, e2⟩ := lenE_eq (m := 24) (Z := U / 2 ^ 16 / 2 ^ 8) (by omega) (by omega) (by omega)
        rw [← sh_eq, ← sh_eq] at e1 e2
        exact step (m := 0) (Z := 0) (len_011 U) (okPC e2 (okPC nz_ok (okPC (ge_t (by rw [sh_eq]; omega)) (okPC nz_ok (okPC (ge_t (by omega)) (okP1 (ge_f (by omega)))))))) (by rw [e1]; congr 1; omega)
  · have l0 := len_up U 32 (by omega)
    have q : U / 2 ^ 32 < 4294967296 := by omega
    by_cases b : U / 2 ^ 32 < 65536
    · by_cases c : U / 2 ^ 32 < 256
      · obtain ⟨e1, e2⟩ := lenE_eq (m := 32) (Z := U / 2 ^ 32) (by omega) (by omega) c
        rw [← sh_eq] at e1 e2
        exact step (m := 0) (Z := 0) (len_100 U) (okPC e2 (okPC (ge_f (by rw [sh_eq]; omega)) (okPC (ge_f (by rw [sh_eq]; omega)) (okPC nz_ok (okP1 (ge_t (by omega))))))) (by rw [e1]; congr 1; omega)
      · have l := len_up (U / 2 ^ 32) 8 (by omega)
        obtain ⟨e1, e2⟩ := lenE_eq (m := 40) (Z := U / 2 ^ 32 / 2 ^ 8) (by omega) (by omega) (by omega)
        rw [← sh_eq, ← sh_eq] at e1 e2
        exact step (m := 0) (Z := 0) (len_101 U) (okPC e2 (okPC nz_ok (okPC (ge_t (by rw [sh_eq]; omega)) (okPC (ge_f (by rw [sh_eq]; omega)) (okPC nz_ok (okP1 (ge_t (by omega)))))))) (by rw [e1]; congr 1; omega)
    · have l := len_up (U / 2 ^ 32) 16 (by omega)
      by_cases c : U / 2 ^ 32 / 2 ^ 16 < 256
      · obtain ⟨e1, e2⟩ := lenE_eq (m := 48) (Z := U / 2 ^ 32 / 2 ^ 16) (by omega) (by omega) c
        rw [← sh_eq, ← sh_eq] at e1 e2
        exact step (m := 0) (Z := 0) (len_110 U) (okPC e2 (okPC (ge_f (by rw [sh_eq, sh_eq]; omega)) (okPC nz_ok (okPC (ge_t (by rw [sh_eq]; omega)) (okPC nz_ok (okP1 (ge_t (by omega)))))))) (by rw [e1]; congr 1; omega)
      · have l2 := len_up (U / 2 ^ 32 / 2 ^ 16) 8 (by omega)
        obtain ⟨e1, e2⟩ := lenE_eq (m := 56) (Z := U / 2 ^ 32 / 2 ^ 16 / 2 ^ 8) (by omega) (by omega) (by omega)
        rw [← sh_eq, ← sh_eq, ← sh_eq] at e1 e2
        exact step (m := 0) (Z := 0) (len_111 U) (okPC e2 (okPC nz_ok (okPC (ge_t (by rw [sh_eq, sh_eq]; omega)) (okPC nz_ok (okPC (ge_t (by rw [sh_eq]; omega)) (okPC nz_ok (okP1 (ge_t (by omega))))))))) (by rw [e1]; congr 1; omega)
/-! ### Len -/
/-- of a word -/
def gu (k : Int → Value) : Ans := fun vals s =>
  match vals with
  | [.int .u64 u] => some (k u, s, [(decide (0 ≤ u ∧ u < 18446744073709551616), true)])
  | _ => none
theorem gu_ok {f : Nat} {k : Int → Value} (hk : ∀ u, 0 ≤ u → u < 18446744073709551616 → ∀ w, Calls Tryz.prog f #[.int .u64 u] w fun e w' => e = .returned (k u) ∧ Tidy w w') : AnsOk f (gu k) := by
  intro vals s v s' lg h hl w
  unfold gu at h
  split at h
  · cases h
    have h1 := hl _ (List.mem_singleton.2 rfl)
    simp only [decide_eq_true_eq] at h1
    exact hk _ h1.1 h1.2 w
  · cases h
def conL : Con := alt 89 (gu len64V) conN
theorem conL_ok : ConOk conL := alt_ok Tryz.func89 rfl (gu_ok len64_calls) conN_ok
def ne0 (a : Int) (d : Bool) : Bool × Bool := (a != 0, d)
def yes : Bool × Bool := (true, true)
def no : Bool × Bool := (false, false)
def wd (u : Int) : Bool × Bool := (decide (0 ≤ u ∧ u < 18446744073709551616), true)
def lenB (m u : Int) : Value := .int .i64 (IntKind.i64.wrap (m + (bitLen u.toNat : Nat)))
theorem wlen_3 (x : W4) : Fits (reckon (tabOf Tryz.prog extY conL true) 3000 74 [vW x] [tst true, tst true]) (lenB 192 x.d) [wd x.d, ne0 x.d true, yes] := ⟨by kernel_rfl, by kernel_rfl, by kernel_rfl, by kernel_rfl⟩
theorem wlen_2 (x : W4) : Fits (reckon (tabOf Tryz.prog extY conL true) 3000 74 [vW x] [tst true, tst false, tst true, tst true]) (lenB 128 x.c) [wd x.c, ne0 x.c true, yes, ne0 x.d false, yes] := ⟨by kernel_rfl, by kernel_rfl, by kernel_rfl, by kernel_rfl⟩
theorem wlen_1 (x : W4) : Fits (reckon (tabOf Tryz.prog extY conL true) 3000 74 [vW x] [tst true, tst false, tst true, tst false, tst true, tst true]) (lenB 64 x.b) [wd x.b, ne0 x.b true, yes, ne0 x.c false, yes, ne0 x.d false, yes] := ⟨by kernel_rfl, by kernel_rfl, by kernel_rfl, by kernel_rfl⟩
theorem wlen_0 (x : W4) : Fits (reckon (tabOf Tryz.prog extY conL true) 3000 74 [vW x] [tst true, tst false, tst true, tst false, tst true, tst false, tst true, tst true]) (lenB 0 x.a) [wd x.a, ne0 x.a true, yes, ne0 x.b false, yes, ne0 x.c false, yes, ne0 x.d false, yes] := ⟨by kernel_rfl, by kernel_rfl, by kernel_rfl, by kernel_rfl⟩
theorem wlen_n (x : W4) : Fits (reckon (tabOf Tryz.prog extY conL true) 3000 74 [vW x] [tst true, tst false, tst true, tst false, tst true, tst false, tst true, tst false, tst false]) (.int .i64 0) [no, ne0 x.a false, yes, ne0 x.b false, yes, ne0 x.c false, yes, ne0 x.d false, yes] := ⟨by kernel_rfl, by kernel_rfl, by kernel_rfl, by kernel_rfl⟩
def lenI (x : W4) : Int := (bitLen x.val.toNat : Nat)
def lenV4 (x : W4) : Value := .int .i64 (lenI x)
theorem lenB_eq {m u : Int} (h0 : 0 ≤ m) (h1 : m ≤ 192) (hu : 0 ≤ u ∧ u < 18446744073709551616) : lenB m u = .int .i64 (m + (bitLen u.toNat : Nat)) := by
  have : bitLen u.toNat ≤ 64 := by
    unfold bitLen
    split
    · omega
    · rename_i h
      have := (Nat.log2_lt h).2 (show u.toNat < 2 ^ 64 by have : (2 : Nat) ^ 64 = 18446744073709551616 := rfl; omega)
      omega
  unfold lenB
  rw [wrap_i64' (by omega) (by omega)]
theorem ne_t {a : Int} (h : a ≠ 0) : (ne0 a true).1 = (ne0 a true).2 := bne_iff_ne.2 h
theorem ne_f {a : Int} (h : a = 0) : (ne0 a false).1 = (ne0 a false).2 := by subst h; rfl
theorem wd_ok {u : Int} (h : 0 ≤ u ∧ u < 18446744073709551616) : (wd u).1 = (wd u).2 := decide_eq_true h
theorem yes_ok : yes.1 = yes.2 := rfl
theorem no_ok : no.1 = no.2 := rfl
theorem len_high {X b U : Nat} (hU : U ≠ 0) (h : X / 2 ^ b = U) : bitLen X = b + bitLen U := by
  rw [← h]
  exact bitLen_shift X b (by omega)
set_option maxRecDepth 100000 in
theorem wlen_calls (x : W4) (hx : x.ok) (w : World) : Calls Tryz.prog 74 #[vW x] w fun e w' => e = .returned (lenV4 x) ∧ Tidy w w' := by
  have hx' := hx
  obtain ⟨a, b, c, d⟩ := x
  obtain ⟨h1, h2, h3, h4⟩ := hx
  unfold lenV4 lenI W4.val
  dsimp only at *
  by_cases e4 : d = 0
  · by_cases e3 : c = 0
    · by_cases e2 : b = 0
      · by_cases e1 : a = 0
        · subst e1 e2 e3 e4
          exact fits_calls (tabY_ok conL_ok) (wlen_n ⟨0, 0, 0, 0⟩) (okPC no_ok (okPC (ne_f rfl) (okPC yes_ok (okPC (ne_f rfl) (okPC yes_ok (okPC (ne_f rfl) (okPC yes_ok (okPC (ne_f rfl) (okP1 yes_ok))))))))) (by rfl) (by rfl) w
        · have h := fits_calls (tabY_ok conL_ok) (wlen_0 ⟨a, b, c, d⟩) (okPC (wd_ok h1) (okPC (ne_t e1) (okPC yes_ok (okPC (ne_f e2) (okPC yes_ok (okPC (ne_f e3) (okPC yes_ok (okPC (ne_f e4) (okP1 yes_ok))))))))) (by rfl) (by rfl) w
          rw [lenB_eq (by omega) (by omega) h1] at h
          subst e2 e3 e4
          simp at h ⊢
          exact h
      · have h := fits_calls (tabY_ok conL_ok) (wlen_1 ⟨a, b, c, d⟩) (okPC (wd_ok h2) (okPC (ne_t e2) (okPC yes_ok (okPC (ne_f e3) (okPC yes_ok (okPC (ne_f e4) (okP1 yes_ok))))))) (by rfl) (by rfl) w
        rw [lenB_eq (by omega) (by omega) h2] at h
        have p : (2 : Nat) ^ 64 = 18446744073709551616 := rfl
        have l := len_high (X := (a + 18446744073709551616 * b + 340282366920938463463374607431768211456 * c + 6277101735386680763835789423207666416102355444464034512896 * d).toNat) (b := 64) (U := b.toNat) (by omega) (by rw [p]; omega)
        rw [l]
        simp at h ⊢
        exact h
    · have h := fits_calls (tabY_ok conL_ok) (wlen_2 ⟨a, b, c, d⟩) (okPC (wd_ok h3) (okPC (ne_t e3) (okPC yes_ok (okPC (ne_f e4) (okP1 yes_ok))))) (by rfl) (by rfl) w
      rw [lenB_eq (by omega) (by omega) h3] at h
      have p : (2 : Nat) ^ 128 = 340282366920938463463374607431768211456 := rfl
      have l := len_high (X := (a + 18446744073709551616 * b + 340282366920938463463374607431768211456 * c + 6277101735386680763835789423207666416102355444464034512896 * d).toNat) (b := 128) (U := c.toNat) (by omega) (by rw [p]; omega)
      rw [l]
      simp at h ⊢
      exact h
  · have h := fits_calls (tabY_ok conL_ok) (wlen_3 ⟨a, b, c, d⟩) (okPC (wd_ok h4) (okPC (ne_t e4) (okP1 yes_ok))) (by rfl) (by rfl) w
    rw [lenB_eq (by omega) (by omega) h4] at h
    have p : (2 : Nat) ^ 192 = 6277101735386680763835789423207666416102355444464034512896 := rfl
    have l := len_high (X := (a + 18446744073709551616 * b + 340282366920938463463374607431768211456 * c + 6277101735386680763835789423207666416102355444464034512896 * d).toNat) (b := 192) (U := d.toNat) (by omega) (by rw [p]; omega)
    rw [l]
    simp at h ⊢
    exact h
/-- of one number -/
def g1 (k : W4 → Value) : Ans := fun vals s =>
  match vals with
  | [x] =>
    match w4 x with
    | some a => some (k a, s, [(decide a.ok, true)])
    | none => none
  | _ => none
theorem g1_ok {f : Nat} {k : W4 → Value} (hk : ∀ x : W4, x.ok → ∀ w, Calls Tryz.prog f #[vW x] w fun e w' => e = .returned (k x) ∧ Tidy w w') : AnsOk f (g1 k) := by
  intro vals s v s' lg h hl w
  unfold g1 at h
  split at h
  · split at h
    · rename_i a ha
      cases h
      have h1 := hl _ (List.mem_singleton.2 rfl)
      simp only [decide_eq_true_eq] at h1
      rw [w4_spec ha]
      exact hk a h1 w
    · cases h
  · cases h
/-! ### Bit -/
def andd (z : Int) : Int := IntKind.u64.wrap ((BitVec.ofInt 64 z &&& BitVec.ofInt 64 1).toNat : Nat)
theorem andd_eq {z : Int} (h0 : 0 ≤ z) (h1 : z < 18446744073709551616) : andd z = z % 2 := by
  obtain ⟨Z, rfl⟩ := Int.eq_ofNat_of_zero_le h0
  unfold andd
  have e1 : (BitVec.ofInt 64 (Z : Int)).toNat = Z := by simp; omega
  have e2 : (BitVec.ofInt 64 1).toNat = 1 := rfl
  rw [BitVec.toNat_and, e1, e2, Nat.and_one_is_mod, wrap_u64]
  omega
def lb (n k : Int) : Log := [(decide ((64 : Int) = 0), false), (decide (IntKind.i64.wrap (n.tdiv 64) = k), true), (decide (n ≥ 256), false), (decide (n < 0), false)]
theorem bit_low (x : W4) (n : Int) : Fits (reckon (tabOf Tryz.prog extY conN true) 3000 79 [vW x, .int .i64 n] [cmp true]) (.int .u64 0) [(decide (n < 0), true)] := ⟨by kernel_rfl, by kernel_rfl, by kernel_rfl, by kernel_rfl⟩
theorem bit_high (x : W4) (n : Int) : Fits (reckon (tabOf Tryz.prog extY conN true) 3000 79 [vW x, .int .i64 n] [cmp false, cmp true]) (.int .u64 0) [(decide (n ≥ 256), true), (decide (n < 0), false)] := ⟨by kernel_rfl, by kernel_rfl, by kernel_rfl, by kernel_rfl⟩
theorem bit_0 (x : W4) (n : Int) : Fits (reckon (tabOf Tryz.prog extY conN true) 3000 79 [vW x, .int .i64 n] [cmp false, cmp false, num 0]) (.int .u64 (andd (dn' x.a n))) (lu n :: lb n 0) := ⟨by kernel_rfl, by kernel_rfl, by kernel_rfl, by kernel_rfl⟩
theorem bit_1 (x : W4) (n : Int) : Fits (reckon (tabOf Tryz.prog extY conN true) 3000 79 [vW x, .int .i64 n] [cmp false, cmp false, num 1]) (.int .u64 (andd (dn' x.b n))) (lu n :: lb n 1) := ⟨by kernel_rfl, by kernel_rfl, by kernel_rfl, by kernel_rfl⟩
theorem bit_2 (x : W4) (n : Int) : Fits (reckon (tabOf Tryz.prog extY conN true) 3000 79 [vW x, .int .i64 n] [cmp false, cmp false, num 2]) (.int .u64 (andd (dn' x.c n))) (lu n :: lb n 2) := ⟨by kernel_rfl, by kernel_rfl, by kernel_rfl, by kernel_rfl⟩
theorem bit_3 (x : W4) (n : Int) : Fits (reckon (tabOf Tryz.prog extY conN true) 3000 79 [vW x, .int .i64 n] [cmp false, cmp false, num 3]) (.int .u64 (andd (dn' x.d n))) (lu n :: lb n 3) := ⟨by kernel_rfl, by kernel_rfl, by kernel_rfl, by kernel_rfl⟩
def bitI (x : W4) (n : Int) : Int := if n < 0 then 0 else if 256 ≤ n then 0 else x.val / 2 ^ n.toNat % 2
def bitV4 (x : W4) (n : Int) : Value := .int .u64 (bitI x n)
theorem lb_ok {n k : Int} (h1 : ¬ n < 0) (h2 : ¬ 256 ≤ n) (h3 : n / 64 = k) : okLog (lb n k) := by
  refine okPC (by rfl) (okPC (decide_eq_true ?_) (okPC (decide_eq_false h2) (okP1 (decide_eq_false h1))))
  rw [Int.tdiv_eq_ediv_of_nonneg (by omega), wrap_i64' (by omega) (by omega)]
  exact h3
/-- the lowest bit of a word moved down is that of the number moved down -/
theorem low_bit {x : W4} {n : Int} {a b : Int} (hn : 0 ≤ n) (ha : 0 ≤ a ∧ a < 18446744073709551616) (hb : 0 ≤ b ∧ b < 18446744073709551616) (h : (W4.of (x.val / 2 ^ n.toNat)).a = orr (dn' a n) (up' b n)) :
    andd (dn' a n) = x.val / 2 ^ n.toNat % 2 := by
  obtain ⟨l, o, d, s, m, l0, l1, e⟩ := pieces' hn ha hb
  have ev := up'_even hn hb
  rw [andd_eq d.1 d.2]
  rw [o] at h
  unfold W4.of at h
  dsimp only at h
  omega
theorem low_bit' {x : W4} {n : Int} {a : Int} (hn : 0 ≤ n) (ha : 0 ≤ a ∧ a < 18446744073709551616) (h : (W4.of (x.val / 2 ^ n.toNat)).a = dn' a n) : andd (dn' a n) = x.val / 2 ^ n.toNat % 2 := by
  obtain ⟨l, o, d, s, m, l0, l1, e⟩ := pieces' hn ha ha
  rw [andd_eq d.1 d.2]
  unfold W4.of at h
  dsimp only at h
  omega
set_option maxRecDepth 100000 in
theorem bit_calls (x : W4) (n : Int) (hx : x.ok) (_h0 : -9223372036854775808 ≤ n) (_h9 : n ≤ 9223372036854775807) (w : World) : Calls Tryz.prog 79 #[vW x, .int .i64 n] w fun e w' => e = .returned (bitV4 x n) ∧ Tidy w w' := by
  unfold bitV4 bitI
  by_cases h1 : n < 0
  · rw [if_pos h1]
    exact fits_calls (tabY_ok conN_ok) (bit_low x n) (okP1 (decide_eq_true h1)) (by rfl) (by rfl) w
  · rw [if_neg h1]
    by_cases h2 : 256 ≤ n
    · rw [if_pos h2]
      exact fits_calls (tabY_ok conN_ok) (bit_high x n) (okPC (decide_eq_true h2) (okP1 (decide_eq_false h1))) (by rfl) (by rfl) w
    · rw [if_neg h2]
      have hn : 0 ≤ n := by omega
      have u := lu_ok hn
      obtain ⟨k1, k2, k3, k4⟩ := hx
      have hj : n / 64 = 0 ∨ n / 64 = 1 ∨ n / 64 = 2 ∨ n / 64 = 3 := by omega
      rcases hj with hj | hj | hj | hj
      · obtain ⟨e1, _⟩ := shr0_eq (x := x) ⟨k1, k2, k3, k4⟩ hn hj
        rw [← low_bit hn k1 k2 (by rw [← e1]; rfl)]
        exact fits_calls (tabY_ok conN_ok) (bit_0 x n) (okPC u (lb_ok h1 h2 hj)) (by rfl) (by rfl) w
      · obtain ⟨e1, _⟩ := shr1_eq (x := x) ⟨k1, k2, k3, k4⟩ hn hj
        rw [← low_bit hn k2 k3 (by rw [← e1]; rfl)]
        exact fits_calls (tabY_ok conN_ok) (bit_1 x n) (okPC u (lb_ok h1 h2 hj)) (by rfl) (by rfl) w
      · obtain ⟨e1, _⟩ := shr2_eq (x := x) ⟨k1, k2, k3, k4⟩ hn hj
        rw [← low_bit hn k3 k4 (by rw [← e1]; rfl)]
        exact fits_calls (tabY_ok conN_ok) (bit_2 x n) (okPC u (lb_ok h1 h2 hj)) (by rfl) (by rfl) w
      · obtain ⟨e1, _⟩ := shr3_eq (x := x) ⟨k1, k2, k3, k4⟩ hn hj
        rw [← low_bit' hn k4 (by rw [← e1]; rfl)]
        exact fits_calls (tabY_ok conN_ok) (bit_3 x n) (okPC u (lb_ok h1 h2 hj)) (by rfl) (by rfl) w
end Go.Proofs.YtgefjidphfdhdabGreatDoor
namespace Go.Proofs.YtgefjidphfdhdabGreatDoor
open Go.KRun Go.Nt Go.Rd Go.Wd Go.Pt
set_option maxRecDepth 100000
set_option linter.unusedVariables false
theorem lb14 (m : Bool) (c e q : Int) : Fits (reckon (tabOf Tryz.prog extY conL true) 200 95 [vP m c e q] []) (.int .i64 ((IntKind.i64.wrap (IntKind.i64.wrap (IntKind.i64.wrap (e + ((Go.bitLen q.toNat : Nat) : Int)) - 1) * 78913)).fdiv 262144)) [(false, false), (decide (0 ≤ q ∧ q < 18446744073709551616), true)] := ⟨by kernel_rfl, by kernel_rfl, by kernel_rfl, by kernel_rfl⟩
def okF14 (E q : Int) : Bool := decide (1 ≤ q ∧ q < 9007199254740992 ∧ -1074 ≤ E ∧ E ≤ 972)
def gLgb : Ans := fun vals s =>
  match vals with
  | [v] =>
    match vP4 v with
    | some (_, _, E, q) => some (.int .i64 (lgS q.toNat E), s, [(okF14 E q, true)])
    | none => none
  | _ => none
theorem gLgb_ok : AnsOk 95 gLgb := by
  intro vals s v s' lg h hl w
  unfold gLgb at h
  split at h
  · split at h
    · rename_i o m c E q hv
      rw [vP4_spec hv]
      cases h
      obtain ⟨h1, h2, h3, h4⟩ := of_decide_eq_true (hl _ (List.mem_singleton.2 rfl))
      have hb : bitLen q.toNat ≤ 53 := Go.Rn.len_le (k := 53) (show q.toNat < 9007199254740992 by omega)
      have f := lb14 m c E q
      rw [wrapI (n := E + ((Go.bitLen q.toNat : Nat) : Int)) (by omega) (by omega), wrapI (n := E + ((Go.bitLen q.toNat : Nat) : Int) - 1) (by omega) (by omega), wrapI (by omega) (by omega), Int.fdiv_eq_ediv_of_nonneg _ (by omega)] at f
      exact fits_calls (tabY_ok conL_ok) f (okCons rfl (okL1 (decide_eq_true (by omega)))) (by rfl) (by rfl) w
    · cases h
  · cases h
def conSg : Con := alt 95 gLgb conN
theorem conSg_ok : ConOk conSg := alt_ok Tryz.func95 rfl gLgb_ok conN_ok
def hcSg : Hc := altH 97 gTim (altH 28 Na.gPowN (altH 29 Na.gShlT hcN))
theorem hcSg_ok : HcOk hcSg := altH_ok Tryz.func97 rfl gTim_ok (altH_ok Tryz.func28 rfl Na.gPowN_ok (altH_ok Tryz.func29 rfl Na.gShlT_ok hcN_ok))
theorem tabSg : TabOk (tabH Tryz.prog extY conSg hcSg) := tabH_ok conSg_ok hcSg_ok
/-! ### the memory -/
def spT (e q : Int) : Int := IntKind.i64.wrap (lgS q.toNat e - 17)
def spN (e q : Int) : Int := IntKind.i64.wrap (0 - spT e q)
def spW (e : Int) : Int := IntKind.i64.wrap (e - 2)
def spcP (e q : Int) : Nat := Na.pMi 10 (mx0 (spN e q))
def spcQ (e q : Int) : Nat := Na.pMi 10 (mx0 (IntKind.i64.wrap (0 - spN e q)))
def spcO (e q : Int) (P : Nat) : Nat := Na.sM (t14 (spcP e q) P) (mx0 (spW e))
def spcU (e q : Int) (P' : Nat) : Nat := Na.sM (t14 (spcQ e q) P') (mx0 (IntKind.i64.wrap (0 - spW e)))
def vSp (l h a : Int) (d : Bool) (t : Int) : Value := .agg #[.int .u64 l, .int .u64 h, .int .u64 a, .bool d, .int .i64 t]
def bSp (l h a : Int) (d : Bool) (t : Int) : List Value × TypeId := ([.int .u64 l, .int .u64 h, .int .u64 a, .bool d, .int .i64 t], 101)
def bPa (m : Bool) (c e q : Int) : List Value × TypeId := ([.bool m, .int .i64 c, .int .i64 e, .int .u64 q], 36)
def bSc (e q : Int) (P P' O U : Nat) : List Value × TypeId := ([sl 6 0 (t14 (spcO e q P) O) (spcO e q P), sl 7 0 (t14 (spcU e q P') U) (spcU e q P')], 131)
def spM5 (m : Bool) (c e q : Int) (P P' : Nat) : Hp := ⟨6, [r14 (spcQ e q) P', r14 (spcP e q) P, ([.slice none 0 0, .slice none 0 0], 131), bSp 0 0 0 false (spT e q), bSp 0 0 0 false 0, bPa m c e q]⟩
def spM6 (m : Bool) (c e q : Int) (P P' O : Nat) : Hp := ⟨7, [r14 (spcO e q P) O, r14 (spcQ e q) P', r14 (spcP e q) P, ([.slice none 0 0, .slice none 0 0], 131), bSp 0 0 0 false (spT e q), bSp 0 0 0 false 0, bPa m c e q]⟩
def spM8 (m : Bool) (c e q : Int) (P P' O U : Nat) (l a : Int) (d : Bool) : Hp := ⟨9, [bSc e q P P' O U, r14 (spcU e q P') U, r14 (spcO e q P) O, r14 (spcQ e q) P', r14 (spcP e q) P, bSc e q P P' O U, bSp l 0 a d (spT e q), bSp 0 0 0 false 0, bPa m c e q]⟩
def lTi (e q : Int) (P P' O U : Nat) (H : Hp) (x : Int) (V : Nat) (d : Bool) (l : Log) : Log := (isRB H (a14 6) (t14 (spcO e q P) O) (spcO e q P) O, true) :: (isRB H (a14 7) (t14 (spcU e q P') U) (spcU e q P') U, true) :: (decide (((x.toNat * O / U : Nat) : Int) = (V : Int)), true) :: (decide (x.toNat * O % U ≠ 0), d) :: (decide (1 ≤ x ∧ x < 18446744073709551616 ∧ O ≠ 0 ∧ U ≠ 0 ∧ (4294967296 : Int) ≤ (V : Int) ∧ (V : Int) < 18446744073709551616), true) :: l
def lPre (m : Bool) (c e q : Int) (P P' O U : Nat) (cl : Bool) (l : Log) : Log := (q.tmod 2 == 0, cl) :: (decide ((2 : Int) = 0), false) :: lSh14 (spM6 m c e q P P' O) (a14 5) (t14 (spcQ e q) P') (spcQ e q) (mx0 (IntKind.i64.wrap (0 - spW e))) U (lSh14 (spM5 m c e q P P') (a14 4) (t14 (spcP e q) P) (spcP e q) (mx0 (spW e)) O (lPw14 10 (mx0 (IntKind.i64.wrap (0 - spN e q))) P' (lPw14 10 (mx0 (spN e q)) P ((okF14 e q, true) :: l))))
def sp4 (q : Int) : Int := IntKind.u64.wrap (4 * q)
def spHi (q : Int) : Int := IntKind.u64.wrap (sp4 q + 2)
def spLo (pw : Bool) (q : Int) : Int := if pw = true then IntKind.u64.wrap (sp4 q - 1) else IntKind.u64.wrap (sp4 q - 2)
def lPo (e q : Int) (k : Nat) : Log := match k with | 0 => [(q == 4503599627370496, false)] | 1 => [(decide (e > -1074), true), (q == 4503599627370496, true)] | _ => [(decide (e > -1074), false), (q == 4503599627370496, true)]
/-- one way: the step below, whether the ends are in, whether something is lost of either end -/
def lSp14 (m : Bool) (c e q : Int) (P P' O U A L H : Nat) (d0 : Bool) (k : Nat) (cl d1 d2 : Bool) (L' : Int) : Log := lTi e q P P' O U (spM8 m c e q P P' O U L' A d0) (spHi q) H d2 (lTi e q P P' O U (spM8 m c e q P P' O U 0 A d0) (spLo (Nat.beq k 1) q) L d1 (lTi e q P P' O U (spM8 m c e q P P' O U 0 0 false) (sp4 q) A d0 (lPre m c e q P P' O U cl (lPo e q k))))
theorem sp14_0ttt (m : Bool) (c e q : Int) (P P' O U A L H : Nat) (d0 : Bool) : Fits (reckon (tabH Tryz.prog extY conSg hcSg) 200 65 [vP m c e q] [cmp false, cmp false, cmp false, num P, cmp false, cmp false, num P', cmp false, cmp false, cmp false, num O, cmp false, cmp false, cmp false, num U, cmp false, cmp true, num O, num U, num A, cmp d0, num O, num U, num L, cmp true, num O, num U, num H, cmp true]) (vSp (IntKind.u64.wrap (L + 1)) (H : Int) A d0 (spT e q)) (lSp14 m c e q P P' O U A L H d0 0 true true true (IntKind.u64.wrap (L + 1))) := ⟨by kernel_rfl, by kernel_rfl, by kernel_rfl, by kernel_rfl⟩
theorem sp14_0ttf (m : Bool) (c e q : Int) (P P' O U A L H : Nat) (d0 : Bool) : Fits (reckon (tabH Tryz.prog extY conSg hcSg) 200 65 [vP m c e q] [cmp false, cmp false, cmp false, num P, cmp false, cmp false, num P', cmp false, cmp false, cmp false, num O, cmp false, cmp false, cmp false, num U, cmp false, cmp true, num O, num U, num A, cmp d0, num O, num U, num L, cmp true, num O, num U, num H, cmp false]) (vSp (IntKind.u64.wrap (L + 1)) (H : Int) A d0 (spT e q)) (lSp14 m c e q P P' O U A L H d0 0 true true false (IntKind.u64.wrap (L + 1))) := ⟨by kernel_rfl, by kernel_rfl, by kernel_rfl, by kernel_rfl⟩
theorem sp14_0tft (m : Bool) (c e q : Int) (P P' O U A L H : Nat) (d0 : Bool) : Fits (reckon (tabH Tryz.prog extY conSg hcSg) 200 65 [vP m c e q] [cmp false, cmp false, cmp false, num P, cmp false, cmp false, num P', cmp false, cmp false, cmp false, num O, cmp false, cmp false, cmp false, num U, cmp false, cmp true, num O, num U, num A, cmp d0, num O, num U, num L, cmp false, num O, num U, num H, cmp true]) (vSp (L : Int) (H : Int) A d0 (spT e q)) (lSp14 m c e q P P' O U A L H d0 0 true false true (L : Int)) := ⟨by kernel_rfl, by kernel_rfl, by kernel_rfl, by kernel_rfl⟩
theorem sp14_0tff (m : Bool) (c e q : Int) (P P' O U A L H : Nat) (d0 : Bool) : Fits (reckon (tabH Tryz.prog extY conSg hcSg) 200 65 [vP m c e q] [cmp false, cmp false, cmp false, num P, cmp false, cmp false, num P', cmp false, cmp false, cmp false, num O, cmp false, cmp false, cmp false, num U, cmp false, cmp true, num O, num U, num A, cmp d0, num O, num U, num L, cmp false, num O, num U, num H, cmp false]) (vSp (L : Int) (H : Int) A d0 (spT e q)) (lSp14 m c e q P P' O U A L H d0 0 true false false (L : Int)) := ⟨by kernel_rfl, by kernel_rfl, by kernel_rfl, by kernel_rfl⟩
theorem sp14_0ftt (m : Bool) (c e q : Int) (P P' O U A L H : Nat) (d0 : Bool) : Fits (reckon (tabH Tryz.prog extY conSg hcSg) 200 65 [vP m c e q] [cmp false, cmp false, cmp false, num P, cmp false, cmp false, num P', cmp false, cmp false, cmp false, num O, cmp false, cmp false, cmp false, num U, cmp false, cmp false, num O, num U, num A, cmp d0, num O, num U, num L, cmp true, num O, num U, num H, cmp true]) (vSp (IntKind.u64.wrap (L + 1)) (H : Int) A d0 (spT e q)) (lSp14 m c e q P P' O U A L H d0 0 false true true (IntKind.u64.wrap (L + 1))) := ⟨by kernel_rfl, by kernel_rfl, by kernel_rfl, by kernel_rfl⟩
theorem sp14_0ftf (m : Bool) (c e q : Int) (P P' O U A L H : Nat) (d0 : Bool) : Fits (reckon (tabH Tryz.prog extY conSg hcSg) 200 65 [vP m c e q] [cmp false, cmp false, cmp false, num P, cmp false, cmp false, num P', cmp false, cmp false, cmp false, num O, cmp false, cmp false, cmp false, num U, cmp false, cmp false, num O, num U, num A, cmp d0, num O, num U, num L, cmp true, num O, num U, num H, cmp false]) (vSp (IntKind.u64.wrap (L + 1)) (IntKind.u64.wrap (H - 1)) A d0 (spT e q)) (lSp14 m c e q P P' O U A L H d0 0 false true false (IntKind.u64.wrap (L + 1))) := ⟨by kernel_rfl, by kernel_rfl, by kernel_rfl, by kernel_rfl⟩
theorem sp14_0fft (m : Bool) (c e q : Int) (P P' O U A L H : Nat) (d0 : Bool) : Fits (reckon (tabH Tryz.prog extY conSg hcSg) 200 65 [vP m c e q] [cmp false, cmp false, cmp false, num P, cmp false, cmp false, num P', cmp false, cmp false, cmp false, num O, cmp false, cmp false, cmp false, num U, cmp false, cmp false, num O, num U, num A, cmp d0, num O, num U, num L, cmp false, num O, num U, num H, cmp true]) (vSp (IntKind.u64.wrap (L + 1)) (H : Int) A d0 (spT e q)) (lSp14 m c e q P P' O U A L H d0 0 false false true (IntKind.u64.wrap (L + 1))) := ⟨by kernel_rfl, by kernel_rfl, by kernel_rfl, by kernel_rfl⟩
theorem sp14_0fff (m : Bool) (c e q : Int) (P P' O U A L H : Nat) (d0 : Bool) : Fits (reckon (tabH Tryz.prog extY conSg hcSg) 200 65 [vP m c e q] [cmp false, cmp false, cmp false, num P, cmp false, cmp false, num P', cmp false, cmp false, cmp false, num O, cmp false, cmp false, cmp false, num U, cmp false, cmp false, num O, num U, num A, cmp d0, num O, num U, num L, cmp false, num O, num U, num H, cmp false]) (vSp (IntKind.u64.wrap (L + 1)) (IntKind.u64.wrap (H - 1)) A d0 (spT e q)) (lSp14 m c e q P P' O U A L H d0 0 false false false (IntKind.u64.wrap (L + 1))) := ⟨by kernel_rfl, by kernel_rfl, by kernel_rfl, by kernel_rfl⟩
theorem sp14_1ttt (m : Bool) (c e q : Int) (P P' O U A L H : Nat) (d0 : Bool) : Fits (reckon (tabH Tryz.prog extY conSg hcSg) 200 65 [vP m c e q] [cmp true, cmp true, cmp false, cmp false, num P, cmp false, cmp false, num P', cmp false, cmp false, cmp false, num O, cmp false, cmp false, cmp false, num U, cmp false, cmp true, num O, num U, num A, cmp d0, num O, num U, num L, cmp true, num O, num U, num H, cmp true]) (vSp (IntKind.u64.wrap (L + 1)) (H : Int) A d0 (spT e q)) (lSp14 m c e q P P' O U A L H d0 1 true true true (IntKind.u64.wrap (L + 1))) := ⟨by kernel_rfl, by kernel_rfl, by kernel_rfl, by kernel_rfl⟩
theorem sp14_1ttf (m : Bool) (c e q : Int) (P P' O U A L H : Nat) (d0 : Bool) : Fits (reckon (tabH Tryz.prog extY conSg hcSg) 200 65 [vP m c e q] [cmp true, cmp true, cmp false, cmp false, num P, cmp false, cmp false, num P', cmp false, cmp false, cmp false, num O, cmp false, cmp false, cmp false, num U, cmp false, cmp true, num O, num U, num A, cmp d0, num O, num U, num L, cmp true, num O, num U, num H, cmp false]) (vSp (IntKind.u64.wrap (L + 1)) (H : Int) A d0 (spT e q)) (lSp14 m c e q P P' O U A L H d0 1 true true false (IntKind.u64.wrap (L + 1))) := ⟨by kernel_rfl, by kernel_rfl, by kernel_rfl, by kernel_rfl⟩
theorem sp14_1tft (m : Bool) (c e q : Int) (P P' O U A L H : Nat) (d0 : Bool) : Fits (reckon (tabH Tryz.prog extY conSg hcSg) 200 65 [vP m c e q] [cmp true, cmp true, cmp false, cmp false, num P, cmp false, cmp false, num P', cmp false, cmp false, cmp false, num O, cmp false, cmp false, cmp false, num U, cmp false, cmp true, num O, num U, num A, cmp d0, num O, num U, num L, cmp false, num O, num U, num H, cmp true]) (vSp (L : Int) (H : Int) A d0 (spT e q)) (lSp14 m c e q P P' O U A L H d0 1 true false true (L : Int)) := ⟨by kernel_rfl, by kernel_rfl, by kernel_rfl, by kernel_rfl⟩
theorem sp14_1tff (m : Bool) (c e q : Int) (P P' O U A L H : Nat) (d0 : Bool) : Fits (reckon (tabH Tryz.prog extY conSg hcSg) 200 65 [vP m c e q] [cmp true, cmp true, cmp false, cmp false, num P, cmp false, cmp false, num P', cmp false, cmp false, cmp false, num O, cmp false, cmp false, cmp false, num U, cmp false, cmp true, num O, num U, num A, cmp d0, num O, num U, num L, cmp false, num O, num U, num H, cmp false]) (vSp (L : Int) (H : Int) A d0 (spT e q)) (lSp14 m c e q P P' O U A L H d0 1 true false false (L : Int)) := ⟨by kernel_rfl, by kernel_rfl, by kernel_rfl, by kernel_rfl⟩
theorem sp14_2ttt (m : Bool) (c e q : Int) (P P' O U A L H : Nat) (d0 : Bool) : Fits (reckon (tabH Tryz.prog extY conSg hcSg) 200 65 [vP m c e q] [cmp true, cmp false, cmp false, cmp false, num P, cmp false, cmp false, num P', cmp false, cmp false, cmp false, num O, cmp false, cmp false, cmp false, num U, cmp false, cmp true, num O, num U, num A, cmp d0, num O, num U, num L, cmp true, num O, num U, num H, cmp true]) (vSp (IntKind.u64.wrap (L + 1)) (H : Int) A d0 (spT e q)) (lSp14 m c e q P P' O U A L H d0 2 true true true (IntKind.u64.wrap (L + 1))) := ⟨by kernel_rfl, by kernel_rfl, by kernel_rfl, by kernel_rfl⟩
theorem sp14_2ttf (m : Bool) (c e q : Int) (P P' O U A L H : Nat) (d0 : Bool) : Fits (reckon (tabH Tryz.prog extY conSg hcSg) 200 65 [vP m c e q] [cmp true, cmp false, cmp false, cmp false, num P, cmp false, cmp false, num P', cmp false, cmp false, cmp false, num O, cmp false, cmp false, cmp false, num U, cmp false, cmp true, num O, num U, num A, cmp d0, num O, num U, num L, cmp true, num O, num U, num H, cmp false]) (vSp (IntKind.u64.wrap (L + 1)) (H : Int) A d0 (spT e q)) (lSp14 m c e q P P' O U A L H d0 2 true true false (IntKind.u64.wrap (L + 1))) := ⟨by kernel_rfl, by kernel_rfl, by kernel_rfl, by kernel_rfl⟩
theorem sp14_2tft (m : Bool) (c e q : Int) (P P' O U A L H : Nat) (d0 : Bool) : Fits (reckon (tabH Tryz.prog extY conSg hcSg) 200 65 [vP m c e q] [cmp true, cmp false, cmp false, cmp false, num P, cmp false, cmp false, num P', cmp false, cmp false, cmp false, num O, cmp false, cmp false, cmp false, num U, cmp false, cmp true, num O, num U, num A, cmp d0, num O, num U, num L, cmp false, num O, num U, num H, cmp true]) (vSp (L : Int) (H : Int) A d0 (spT e q)) (lSp14 m c e q P P' O U A L H d0 2 true false true (L : Int)) := ⟨by kernel_rfl, by kernel_rfl, by kernel_rfl, by kernel_rfl⟩
theorem sp14_2tff (m : Bool) (c e q : Int) (P P' O U A L H : Nat) (d0 : Bool) : Fits (reckon (tabH Tryz.prog extY conSg hcSg) 200 65 [vP m c e q] [cmp true, cmp false, cmp false, cmp false, num P, cmp false, cmp false, num P', cmp false, cmp false, cmp false, num O, cmp false, cmp false, cmp false, num U, cmp false, cmp true, num O, num U, num A, cmp d0, num O, num U, num L, cmp false, num O, num U, num H, cmp false]) (vSp (L : Int) (H : Int) A d0 (spT e q)) (lSp14 m c e q P P' O U A L H d0 2 true false false (L : Int)) := ⟨by kernel_rfl, by kernel_rfl, by kernel_rfl, by kernel_rfl⟩
end Go.Proofs.YtgefjidphfdhdabGreatDoor
