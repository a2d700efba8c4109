/-
  Con2, Con3, NumZ, NumU, NumY, NumX4
-/
import Derived.Test.YtjkgnbdeklploaaGreatDoorG09
import Derived.Laws.MathBits
namespace Go.Proofs.YtjkgnbdeklploaaGreatDoor
open Go.KRun Go.Wd
/-- of a number and an int -/
def g1n (k : W4 → Int → List Dec → Option (Value × List Dec × Log)) : Ans := fun vals s =>
  match vals with
  | [x, .int .i64 n] =>
    match w4 x with
    | some a =>
      match k a n s with
      | some r => some (r.1, r.2.1, (decide (a.ok ∧ -9223372036854775808 ≤ n ∧ n ≤ 9223372036854775807), true) :: r.2.2)
      | none => none
    | none => none
  | _ => none
theorem g1n_ok {f : Nat} {k : W4 → Int → List Dec → Option (Value × List Dec × Log)}
    (hk : ∀ (x : W4) (n : Int), x.ok → -9223372036854775808 ≤ n → n ≤ 9223372036854775807 → ∀ s v s' lg, k x n s = some (v, s', lg) → okLog lg → ∀ w, Calls Tryz.prog f #[vW x, .int .i64 n] w fun e w' => e = .returned v ∧ Tidy w w') : AnsOk f (g1n k) := by
  intro vals s v s' lg h hl w
  unfold g1n at h
  split at h
  · split at h
    · rename_i a ha
      split at h
      · rename_i r hr
        cases h
        have h1 := hl _ (List.mem_cons_self)
        simp only [decide_eq_true_eq] at h1
        rw [w4_spec ha]
        exact hk a _ h1.1 h1.2.1 h1.2.2 s r.1 r.2.1 r.2.2 hr (fun p hp => hl p (List.mem_cons_of_mem _ hp)) w
      · cases h
    · cases h
  · cases h
def plain1n (k : W4 → Int → Value) : W4 → Int → List Dec → Option (Value × List Dec × Log) := fun x n s => some (k x n, s, [])
theorem plain1n_ok {f : Nat} {k : W4 → Int → Value} (hk : ∀ (x : W4) (n : Int), x.ok → -9223372036854775808 ≤ n → n ≤ 9223372036854775807 → ∀ w, Calls Tryz.prog f #[vW x, .int .i64 n] w fun e w' => e = .returned (k x n) ∧ Tidy w w') : AnsOk f (g1n (plain1n k)) :=
  g1n_ok fun x n hx h0 h1 s v s' lg h _ w => by
    unfold plain1n at h
    cases h
    exact hk x n hx h0 h1 w
theorem okP1 {p : Bool × Bool} (h : p.1 = p.2) : okLog [p] := fun x hx => by rw [List.mem_singleton.1 hx]; exact h
theorem okPC {p : Bool × Bool} {l : Log} (h : p.1 = p.2) (hl : okLog l) : okLog (p :: l) := fun x hx => by
  rcases List.mem_cons.1 hx with rfl | hx
  · exact h
  · exact hl x hx
/-! ### Shl -/
def lu (n : Int) : Bool × Bool := (decide (prt n < 0), false)
def ld (n : Int) : Bool × Bool := (decide (rem n < 0), false)
def lq (n k : Int) : Log := [(decide ((64 : Int) = 0), false), (decide (IntKind.i64.wrap (n.tdiv 64) = k), true), (decide (n ≥ 256), false), (decide (n < 1), false)]
theorem shl_low (x : W4) (n : Int) : Fits (reckon (tabOf Tryz.prog extY conN true) 3000 141 [vW x, .int .i64 n] [tst true]) (vW x) [(decide (n < 1), true)] := ⟨by kernel_rfl, by kernel_rfl, by kernel_rfl, by kernel_rfl⟩
theorem shl_high (x : W4) (n : Int) : Fits (reckon (tabOf Tryz.prog extY conN true) 3000 141 [vW x, .int .i64 n] [tst false, tst true]) (vW ⟨0, 0, 0, 0⟩) [(decide (n ≥ 256), true), (decide (n < 1), false)] := ⟨by kernel_rfl, by kernel_rfl, by kernel_rfl, by kernel_rfl⟩
theorem shl_0 (x : W4) (n : Int) : Fits (reckon (tabOf Tryz.prog extY conN true) 3000 141 [vW x, .int .i64 n] [tst false, tst false, num 0]) (vW (shl0 x n)) (ld n :: lu n :: ld n :: lu n :: ld n :: lu n :: lu n :: lq n 0) := ⟨by kernel_rfl, by kernel_rfl, by kernel_rfl, by kernel_rfl⟩
theorem shl_1 (x : W4) (n : Int) : Fits (reckon (tabOf Tryz.prog extY conN true) 3000 141 [vW x, .int .i64 n] [tst false, tst false, num 1]) (vW (shl1 x n)) (ld n :: lu n :: ld n :: lu n :: lu n :: lq n 1) := ⟨by kernel_rfl, by kernel_rfl, by kernel_rfl, by kernel_rfl⟩
theorem shl_2 (x : W4) (n : Int) : Fits (reckon (tabOf Tryz.prog extY conN true) 3000 141 [vW x, .int .i64 n] [tst false, tst false, num 2]) (vW (shl2 x n)) (ld n :: lu n :: lu n :: lq n 2) := ⟨by kernel_rfl, by kernel_rfl, by kernel_rfl, by kernel_rfl⟩
theorem shl_3 (x : W4) (n : Int) : Fits (reckon (tabOf Tryz.prog extY conN true) 3000 141 [vW x, .int .i64 n] [tst false, tst false, num 3]) (vW (shl3 x n)) (lu n :: lq n 3) := ⟨by kernel_rfl, by kernel_rfl, by kernel_rfl, by kernel_rfl⟩
def shlW (x : W4) (n : Int) : W4 := if n < 1 then x else if 256 ≤ n then ⟨0, 0, 0, 0⟩ else W4.of (x.val * 2 ^ n.toNat)
def shlV4 (x : W4) (n : Int) : Value := vW (shlW x n)
theorem lu_ok {n : Int} (h : 0 ≤ n) : (lu n).1 = (lu n).2 := by
  have := prt_eq h
  exact decide_eq_false (by omega)
theorem ld_ok {n : Int} (h : 0 ≤ n) : (ld n).1 = (ld n).2 := by
  have := rem_eq h
  exact decide_eq_false (by omega)
theorem lq_ok {n k : Int} (h1 : ¬ n < 1) (h2 : ¬ 256 ≤ n) (h3 : n / 64 = k) : okLog (lq n k) := by
  refine okPC (by rfl) (okPC (decide_eq_true ?_) (okPC (decide_eq_false h2) (okP1 (decide_eq_false h1))))
  rw [Int.tdiv_eq_ediv_of_nonneg (by omega), wrap_i64' (by omega) (by omega)]
  exact h3
theorem shl_calls (x : W4) (n : Int) (hx : x.ok) (_h0 : -9223372036854775808 ≤ n) (_h9 : n ≤ 9223372036854775807) (w : World) : Calls Tryz.prog 141 #[vW x, .int .i64 n] w fun e w' => e = .returned (shlV4 x n) ∧ Tidy w w' := by
  unfold shlV4 shlW
  by_cases h1 : n < 1
  · rw [if_pos h1]
    exact fits_calls (tabY_ok conN_ok) (shl_low x n) (okP1 (decide_eq_true h1)) (by rfl) (by rfl) w
  · rw [if_neg h1]
    by_cases h2 : 256 ≤ n
    · rw [if_pos h2]
      exact fits_calls (tabY_ok conN_ok) (shl_high x n) (okPC (decide_eq_true h2) (okP1 (decide_eq_false h1))) (by rfl) (by rfl) w
    · rw [if_neg h2]
      have hn : 0 ≤ n := by omega
      have u := lu_ok hn
      have d := ld_ok hn
      have hj : n / 64 = 0 ∨ n / 64 = 1 ∨ n / 64 = 2 ∨ n / 64 = 3 := by omega
      rcases hj with hj | hj | hj | hj
      · rw [← shl0_eq hx hn hj]
        exact fits_calls (tabY_ok conN_ok) (shl_0 x n) (okPC d (okPC u (okPC d (okPC u (okPC d (okPC u (okPC u (lq_ok h1 h2 hj)))))))) (by rfl) (by rfl) w
      · rw [← shl1_eq hx hn hj]
        exact fits_calls (tabY_ok conN_ok) (shl_1 x n) (okPC d (okPC u (okPC d (okPC u (okPC u (lq_ok h1 h2 hj)))))) (by rfl) (by rfl) w
      · rw [← shl2_eq hx hn hj]
        exact fits_calls (tabY_ok conN_ok) (shl_2 x n) (okPC d (okPC u (okPC u (lq_ok h1 h2 hj)))) (by rfl) (by rfl) w
      · rw [← shl3_eq hx hn hj]
        exact fits_calls (tabY_ok conN_ok) (shl_3 x n) (okPC u (lq_ok h1 h2 hj)) (by rfl) (by rfl) w
/-! ### Shr -/
def conSh : Con := alt 141 (g1n (plain1n shlV4)) conN
theorem conSh_ok : ConOk conSh := alt_ok Tryz.func141 rfl (plain1n_ok shl_calls) conN_ok
def lk (x : W4) (n : Int) : Bool × Bool := (decide (x.ok ∧ -9223372036854775808 ≤ n ∧ n ≤ 9223372036854775807), true)
def shrR (m x : W4) (n : Int) : Value := .tuple #[vW m, .bool (!(eqW (shlW m n) x))]
theorem shr_low (x : W4) (n : Int) : Fits (reckon (tabOf Tryz.prog extY conSh true) 3000 142 [vW x, .int .i64 n] [tst true]) (.tuple #[vW x, .bool false]) [(decide (n < 1), true)] := ⟨by kernel_rfl, by kernel_rfl, by kernel_rfl, by kernel_rfl⟩
theorem shr_high (x : W4) (n : Int) : Fits (reckon (tabOf Tryz.prog extY conSh true) 3000 142 [vW x, .int .i64 n] [tst false, tst true]) (.tuple #[vW ⟨0, 0, 0, 0⟩, .bool (!(eqW x ⟨0, 0, 0, 0⟩))]) [(decide (n ≥ 256), true), (decide (n < 1), false)] := ⟨by kernel_rfl, by kernel_rfl, by kernel_rfl, by kernel_rfl⟩
theorem shr_0 (x : W4) (n : Int) : Fits (reckon (tabOf Tryz.prog extY conSh true) 3000 142 [vW x, .int .i64 n] [tst false, tst false, num 0]) (shrR (shr0 x n) x n) (lk (shr0 x n) n :: lu n :: ld n :: lu n :: ld n :: lu n :: ld n :: lu n :: lq n 0) := ⟨by kernel_rfl, by kernel_rfl, by kernel_rfl, by kernel_rfl⟩
theorem shr_1 (x : W4) (n : Int) : Fits (reckon (tabOf Tryz.prog extY conSh true) 3000 142 [vW x, .int .i64 n] [tst false, tst false, num 1]) (shrR (shr1 x n) x n) (lk (shr1 x n) n :: lu n :: ld n :: lu n :: ld n :: lu n :: lq n 1) := ⟨by kernel_rfl, by kernel_rfl, by kernel_rfl, by kernel_rfl⟩
theorem shr_2 (x : W4) (n : Int) : Fits (reckon (tabOf Tryz.prog extY conSh true) 3000 142 [vW x, .int .i64 n] [tst false, tst false, num 2]) (shrR (shr2 x n) x n) (lk (shr2 x n) n :: lu n :: ld n :: lu n :: lq n 2) := ⟨by kernel_rfl, by kernel_rfl, by kernel_rfl, by kernel_rfl⟩
theorem shr_3 (x : W4) (n : Int) : Fits (reckon (tabOf Tryz.prog extY conSh true) 3000 142 [vW x, .int .i64 n] [tst false, tst false, num 3]) (shrR (shr3 x n) x n) (lk (shr3 x n) n :: lu n :: lq n 3) := ⟨by kernel_rfl, by kernel_rfl, by kernel_rfl, by kernel_rfl⟩
def shrW (x : W4) (n : Int) : W4 := if n < 1 then x else if 256 ≤ n then ⟨0, 0, 0, 0⟩ else W4.of (x.val / 2 ^ n.toNat)
/-- whether a bit is lost -/
def shrL (x : W4) (n : Int) : Bool := if n < 1 then false else if 256 ≤ n then decide (x.val ≠ 0) else decide (x.val % 2 ^ n.toNat ≠ 0)
def shrV4 (x : W4) (n : Int) : Value := .tuple #[vW (shrW x n), .bool (shrL x n)]
theorem zero_iff {x : W4} (hx : x.ok) : (!(eqW x ⟨0, 0, 0, 0⟩)) = decide (x.val ≠ 0) := by
  rw [Bool.eq_iff_iff]
  simp only [Bool.not_eq_true', decide_eq_true_eq, ← Bool.not_eq_true, eqW_iff]
  constructor
  · intro h h0
    exact h (W4.val_inj hx ⟨z64, z64, z64, z64⟩ (h0.trans (by rfl)))
  · intro h h0
    exact h (by rw [h0]; rfl)
theorem lost_iff {x : W4} (hx : x.ok) {n : Int} (h1 : ¬ n < 1) (h2 : ¬ 256 ≤ n) : (!(eqW (shlW (W4.of (x.val / 2 ^ n.toNat)) n) x)) = decide (x.val % 2 ^ n.toNat ≠ 0) := by
  have hp : (0 : Int) < 2 ^ n.toNat := Int.pow_pos (by omega)
  have b := W4.val_bd hx
  have hm := Int.mul_ediv_add_emod x.val (2 ^ n.toNat)
  have h3 := Int.emod_nonneg x.val (Int.ne_of_gt hp)
  have h4 : 0 ≤ x.val / 2 ^ n.toNat := Int.ediv_nonneg b.1 (by omega)
  have h5 : x.val / 2 ^ n.toNat ≤ x.val := by
    have := mul_le_of 1 (2 ^ n.toNat) (x.val / 2 ^ n.toNat) h4 (by omega)
    rw [Int.mul_one, Int.mul_comm] at this
    omega
  have e : shlW (W4.of (x.val / 2 ^ n.toNat)) n = W4.of (x.val - x.val % 2 ^ n.toNat) := by
    unfold shlW
    rw [if_neg h1, if_neg h2, W4.val_of, Int.emod_eq_of_lt h4 (by omega), Int.mul_comm]
    congr 1
    omega
  rw [e, Bool.eq_iff_iff]
  simp only [Bool.not_eq_true', decide_eq_true_eq, ← Bool.not_eq_true, eqW_iff]
  generalize x.val % 2 ^ n.toNat = l at *
  have h6 : 0 ≤ 2 ^ n.toNat * (x.val / 2 ^ n.toNat) := Int.mul_nonneg (by omega) h4
  constructor
  · intro h h0
    apply h
    rw [h0, Int.sub_zero, W4.of_val hx]
  · intro h h0
    have h7 := congrArg W4.val h0
    rw [W4.val_of, Int.emod_eq_of_lt (by omega) (by omega)] at h7
    omega
theorem lk_ok {x : W4} {n : Int} (h : x.ok) (h0 : -9223372036854775808 ≤ n) (h9 : n ≤ 9223372036854775807) : (lk x n).1 = (lk x n).2 := by
  unfold lk
  exact decide_eq_true ⟨h, h0, h9⟩
set_option maxRecDepth 100000 in
theorem shr_calls (x : W4) (n : Int) (hx : x.ok) (h0 : -9223372036854775808 ≤ n) (h9 : n ≤ 9223372036854775807) (w : World) : Calls Tryz.prog 142 #[vW x, .int .i64 n] w fun e w' => e = .returned (shrV4 x n) ∧ Tidy w w' := by
  unfold shrV4 shrW shrL
  by_cases h1 : n < 1
  · rw [if_pos h1, if_pos h1]
    exact fits_calls (tabY_ok conSh_ok) (shr_low x n) (okP1 (decide_eq_true h1)) (by rfl) (by rfl) w
  · rw [if_neg h1, if_neg h1]
    by_cases h2 : 256 ≤ n
    · rw [if_pos h2, if_pos h2, ← zero_iff hx]
      exact fits_calls (tabY_ok conSh_ok) (shr_high x n) (okPC (decide_eq_true h2) (okP1 (decide_eq_false h1))) (by rfl) (by rfl) w
    · rw [if_neg h2, if_neg h2]
      have hn : 0 ≤ n := by omega
      have u := lu_ok hn
      have d := ld_ok hn
      have hl := lost_iff hx h1 h2
      have hj : n / 64 = 0 ∨ n / 64 = 1 ∨ n / 64 = 2 ∨ n / 64 = 3 := by omega
      rw [← hl]
      rcases hj with hj | hj | hj | hj
      · obtain ⟨e1, e2⟩ := shr0_eq hx hn hj
        rw [← e1]
        exact fits_calls (tabY_ok conSh_ok) (shr_0 x n) (okPC (lk_ok e2 h0 h9) (okPC u (okPC d (okPC u (okPC d (okPC u (okPC d (okPC u (lq_ok h1 h2 hj))))))))) (by rfl) (by rfl) w
      · obtain ⟨e1, e2⟩ := shr1_eq hx hn hj
        rw [← e1]
        exact fits_calls (tabY_ok conSh_ok) (shr_1 x n) (okPC (lk_ok e2 h0 h9) (okPC u (okPC d (okPC u (okPC d (okPC u (lq_ok h1 h2 hj))))))) (by rfl) (by rfl) w
      · obtain ⟨e1, e2⟩ := shr2_eq hx hn hj
        rw [← e1]
        exact fits_calls (tabY_ok conSh_ok) (shr_2 x n) (okPC (lk_ok e2 h0 h9) (okPC u (okPC d (okPC u (lq_ok h1 h2 hj))))) (by rfl) (by rfl) w
      · obtain ⟨e1, e2⟩ := shr3_eq hx hn hj
        rw [← e1]
        exact fits_calls (tabY_ok conSh_ok) (shr_3 x n) (okPC (lk_ok e2 h0 h9) (okPC u (lq_ok h1 h2 hj))) (by rfl) (by rfl) w
/-- a test that is decided ahead, by another word -/
def pickC (b : Bool) : List Dec → Bool × List Dec × Log
  | .inr (.inr (.inr (.inl d))) :: s => (d, s, [(b, d)])
  | s => (b, s, [])
theorem pickC_ok {b : Bool} {s : List Dec} (h : okLog (pickC b s).2.2) : (pickC b s).1 = b := by
  unfold pickC at *
  split at h
  · rename_i d s
    exact (h (b, d) (List.mem_singleton.2 rfl)).symm
  · rfl
/-- whether a bit is lost is decided ahead -/
def shrB : W4 → Int → List Dec → Option (Value × List Dec × Log) := fun x n s => some (.tuple #[vW (shrW x n), .bool (pickC (shrL x n) s).1], (pickC (shrL x n) s).2.1, (pickC (shrL x n) s).2.2)
theorem shrB_ok : AnsOk 142 (g1n shrB) := g1n_ok fun x n hx h0 h1 s v s' lg h hl w => by
  unfold shrB at h
  cases h
  rw [pickC_ok hl]
  exact shr_calls x n hx h0 h1 w
/-! ### Len64 -/
/-- the table of the library: how many bits a byte has -/
def lenTab : List UInt8 := (List.range 256).map fun i => UInt8.ofNat (bitLen i)
def byteLen (z : Int) : Int := ((lenTab.getD (IntKind.u8.wrap z).toNat 0).toNat : Int)
def lt8 (z : Int) : Bool × Bool := (decide (0 ≤ IntKind.u8.wrap z ∧ (IntKind.u8.wrap z).toNat < lenTab.length), true)
def sh (z : Int) (k : Nat) : Int := z.fdiv (2 ^ k)
def ge (z k : Int) (d : Bool) : Bool × Bool := (decide (z ≥ k), d)
def lenE (m z : Int) : Value := .int .i64 (IntKind.i64.wrap (m + IntKind.i64.wrap (byteLen z)))
def nz : Bool × Bool := (false, false)
theorem len_000 (u : Int) : Fits (reckon (tabOf Tryz.prog extY conN true) 3000 155 [.int .u64 u] [tst false, tst false, tst false]) (lenE 0 u) [lt8 u, ge u 256 false, ge u 65536 false, ge u 4294967296 false] := ⟨by kernel_rfl, by kernel_rfl, by kernel_rfl, by kernel_rfl⟩
theorem len_001 (u : Int) : Fits (reckon (tabOf Tryz.prog extY conN true) 3000 155 [.int .u64 u] [tst false, tst false, tst true]) (lenE 8 (sh u 8)) [lt8 (sh u 8), nz, ge u 256 true, ge u 65536 false, ge u 4294967296 false] := ⟨by kernel_rfl, by kernel_rfl, by kernel_rfl, by kernel_rfl⟩
theorem len_010 (u : Int) : Fits (reckon (tabOf Tryz.prog extY conN true) 3000 155 [.int .u64 u] [tst false, tst true, tst false]) (lenE 16 (sh u 16)) [lt8 (sh u 16), ge (sh u 16) 256 false, nz, ge u 65536 true, ge u 4294967296 false] := ⟨by kernel_rfl, by kernel_rfl, by kernel_rfl, by kernel_rfl⟩
theorem len_011 (u : Int) : Fits (reckon (tabOf Tryz.prog extY conN true) 3000 155 [.int .u64 u] [tst false, tst true, tst true]) (lenE 24 (sh (sh u 16) 8)) [lt8 (sh (sh u 16) 8), nz, ge (sh u 16) 256 true, nz, ge u 65536 true, ge u 4294967296 false] := ⟨by kernel_rfl, by kernel_rfl, by kernel_rfl, by kernel_rfl⟩
theorem len_100 (u : Int) : Fits (reckon (tabOf Tryz.prog extY conN true) 3000 155 [.int .u64 u] [tst true, tst false, tst false]) (lenE 32 (sh u 32)) [lt8 (sh u 32), ge (sh u 32) 256 false, ge (sh u 32) 65536 false, nz, ge u 4294967296 true] := ⟨by kernel_rfl, by kernel_rfl, by kernel_rfl, by kernel_rfl⟩
theorem len_101 (u : Int) : Fits (reckon (tabOf Tryz.prog extY conN true) 3000 155 [.int .u64 u] [tst true, tst false, tst true]) (lenE 40 (sh (sh u 32) 8)) [lt8 (sh (sh u 32) 8), nz, ge (sh u 32) 256 true, ge (sh u 32) 65536 false, nz, ge u 4294967296 true] := ⟨by kernel_rfl, by kernel_rfl, by kernel_rfl, by kernel_rfl⟩
theorem len_110 (u : Int) : Fits (reckon (tabOf Tryz.prog extY conN true) 3000 155 [.int .u64 u] [tst true, tst true, tst false]) (lenE 48 (sh (sh u 32) 16)) [lt8 (sh (sh u 32) 16), ge (sh (sh u 32) 16) 256 false, nz, ge (sh u 32) 65536 true, nz, ge u 4294967296 true] := ⟨by kernel_rfl, by kernel_rfl, by kernel_rfl, by kernel_rfl⟩
theorem len_111 (u : Int) : Fits (reckon (tabOf Tryz.prog extY conN true) 3000 155 [.int .u64 u] [tst true, tst true, tst true]) (lenE 56 (sh (sh (sh u 32) 16) 8)) [lt8 (sh (sh (sh u 32) 16) 8), nz, ge (sh (sh u 32) 16) 256 true, nz, ge (sh u 32) 65536 true, nz, ge u 4294967296 true] := ⟨by kernel_rfl, by kernel_rfl, by kernel_rfl, by kernel_rfl⟩
theorem lenTab_len : lenTab.length = 256 := by unfold lenTab; rw [List.length_map, List.length_range]
theorem lenTab_get (b : Nat) (h : b < 256) : (lenTab.getD b 0).toNat = bitLen b := by
  have h1 : lenTab.getD b 0 = UInt8.ofNat (bitLen b) := by
    unfold lenTab
    rw [List.getD, List.getElem?_map, List.getElem?_range h]
    rfl
  have h2 := bitLen_le8 b h
  rw [h1, UInt8.toNat_ofNat']
  omega
theorem u8_wrap {z : Int} (h0 : 0 ≤ z) (h1 : z < 256) : IntKind.u8.wrap z = z := by
  simp [IntKind.wrap, IntKind.bits, IntKind.signed]; omega
theorem lenE_eq {m : Int} {Z : Nat} (hm : 0 ≤ m) (hm' : m ≤ 56) (h1 : Z < 256) : lenE m (Z : Int) = .int .i64 (m + bitLen Z) ∧ (lt8 (Z : Int)).1 = (lt8 (Z : Int)).2 := by
  have hb := bitLen_le8 Z h1
  have e := u8_wrap (z := (Z : Int)) (by omega) (by omega)
  refine ⟨?_, ?_⟩
  · unfold lenE byteLen
    rw [e, Int.toNat_natCast, lenTab_get Z h1, wrap_i64' (n := ((bitLen Z : Nat) : Int)) (by omega) (by omega), wrap_i64' (by omega) (by omega)]
  · unfold lt8
    rw [e, Int.toNat_natCast]
    rw [lenTab_len]
    exact decide_eq_true (And.intro (by omega) h1)
theorem sh_eq (Z k : Nat) : sh (Z : Int) k = ((Z / 2 ^ k : Nat) : Int) := by
  unfold sh
  rw [Int.fdiv_eq_ediv_of_nonneg _ (Int.le_of_lt (Int.pow_pos (by omega)))]
  simp
theorem ge_t {z k : Int} (h : k ≤ z) : (ge z k true).1 = (ge z k true).2 := decide_eq_true h
theorem ge_f {z k : Int} (h : z < k) : (ge z k false).1 = (ge z k false).2 := decide_eq_false (by omega)
theorem nz_ok : nz.1 = nz.2 := rfl
theorem len_up (x b : Nat) (h : 2 ^ b ≤ x) : bitLen x = b + bitLen (x / 2 ^ b) := bitLen_shift x b (by
  have : 0 < x / 2 ^ b := Nat.div_pos h (Nat.two_pow_pos b)
  omega)
def len64V (u : Int) : Value := .int .i64 (bitLen u.toNat : Nat)
set_option maxRecDepth 100000 in
theorem len64_calls (u : Int) (h0 : 0 ≤ u) (h1 : u < 18446744073709551616) (w : World) : Calls Tryz.prog 155 #[.int .u64 u] w fun e w' => e = .returned (len64V u) ∧ Tidy w w' := by
  obtain ⟨U, rfl⟩ := Int.eq_ofNat_of_zero_le h0
  unfold len64V
  rw [Int.toNat_natCast]
  have p8 : (2 : Nat) ^ 8 = 256 := rfl
  have p16 : (2 : Nat) ^ 16 = 65536 := rfl
  have p32 : (2 : Nat) ^ 32 = 4294967296 := rfl
  have step : ∀ {v : Value} {m : Int} {Z : Nat} {s : List Dec} {cs : Log}, Fits (reckon (tabOf Tryz.prog extY conN true) 3000 155 [.int .u64 (U : Int)] s) v cs → okLog cs → v = .int .i64 (bitLen U : Nat) → Calls Tryz.prog 155 #[.int .u64 (U : Int)] w fun e w' => e = .returned (.int .i64 (bitLen U : Nat)) ∧ Tidy w w' :=
    fun {v m Z s cs} hf hc hv => by subst hv; exact fits_calls (tabY_ok conN_ok) hf hc (by rfl) (by rfl) w
  by_cases a : U < 4294967296
  · by_cases b : U < 65536
    · by_cases c : U < 256
      · obtain ⟨e1, e2⟩ := lenE_eq (m := 0) (by omega) (by omega) c
        exact step (m := 0) (Z := 0) (len_000 U) (okPC e2 (okPC (ge_f (by omega)) (okPC (ge_f (by omega)) (okP1 (ge_f (by omega)))))) (by rw [e1]; congr 1; omega)
      · have l := len_up U 8 (by omega)
        obtain ⟨e1, e2⟩ := lenE_eq (m := 8) (Z := U / 2 ^ 8) (by omega) (by omega) (by omega)
        rw [← sh_eq] at e1 e2
        exact step (m := 0) (Z := 0) (len_001 U) (okPC e2 (okPC nz_ok (okPC (ge_t (by omega)) (okPC (ge_f (by omega)) (okP1 (ge_f (by omega))))))) (by rw [e1]; congr 1; omega)
    · have l := len_up U 16 (by omega)
      by_cases c : U / 2 ^ 16 < 256
      · obtain ⟨e1, e2⟩ := lenE_eq (m := 16) (Z := U / 2 ^ 16) (by omega) (by omega) c
        rw [← sh_eq] at e1 e2
        exact step (m := 0) (Z := 0) (len_010 U) (okPC e2 (okPC (ge_f (by rw [sh_eq]; omega)) (okPC nz_ok (okPC (ge_t (by omega)) (okP1 (ge_f (by omega))))))) (by rw [e1]; congr 1; omega)
      · have l2 := len_up (U / 2 ^ 16) 8 (by omega)
        obtain ⟨e1, e2⟩ := lenE_eq (m := 24) (Z := U / 2 ^ 16 / 2 ^ 8) (by omega) (by omega) (by omega)
        rw [← sh_eq, ← sh_eq] at e1 e2
        exact step (m := 0) (Z := 0) (len_011 U) (okPC e2 (okPC nz_ok (okPC (ge_t (by rw [sh_eq]; omega)) (okPC nz_ok (okPC (ge_t (by omega)) (okP1 (ge_f (by omega)))))))) (by rw [e1]; congr 1; omega)
  · have l0 := len_up U 32 (by omega)
    have q : U / 2 ^ 32 < 4294967296 := by omega
    by_cases b : U / 2 ^ 32 < 65536
    · by_cases c : U / 2 ^ 32 < 256
      · obtain ⟨e1, e2⟩ := lenE_eq (m := 32) (Z := U / 2 ^ 32) (by omega) (by omega) c
        rw [← sh_eq] at e1 e2
        exact step (m := 0) (Z := 0) (len_100 U) (okPC e2 (okPC (ge_f (by rw [sh_eq]; omega)) (okPC (ge_f (by rw [sh_eq]; omega)) (okPC nz_ok (okP1 (ge_t (by omega))))))) (by rw [e1]; congr 1; omega)
      · have l := len_up (U / 2 ^ 32) 8 (by omega)
        obtain ⟨e1, e2⟩ := lenE_eq (m := 40) (Z := U / 2 ^ 32 / 2 ^ 8) (by omega) (by omega) (by omega)
        rw [← sh_eq, ← sh_eq] at e1 e2
        exact step (m := 0) (Z := 0) (len_101 U) (okPC e2 (okPC nz_ok (okPC (ge_t (by rw [sh_eq]; omega)) (okPC (ge_f (by rw [sh_eq]; omega)) (okPC nz_ok (okP1 (ge_t (by omega)))))))) (by rw [e1]; congr 1; omega)
    · have l := len_up (U / 2 ^ 32) 16 (by omega)
      by_cases c : U / 2 ^ 32 / 2 ^ 16 < 256
      · obtain ⟨e1, e2⟩ := lenE_eq (m := 48) (Z := U / 2 ^ 32 / 2 ^ 16) (by omega) (by omega) c
        rw [← sh_eq, ← sh_eq] at e1 e2
        exact step (m := 0) (Z := 0) (len_110 U) (okPC e2 (okPC (ge_f (by rw [sh_eq, sh_eq]; omega)) (okPC nz_ok (okPC (ge_t (by rw [sh_eq]; omega)) (okPC nz_ok (okP1 (ge_t (by omega)))))))) (by rw [e1]; congr 1; omega)
      · have l2 := len_up (U / 2 ^ 32 / 2 ^ 16) 8 (by omega)
        obtain ⟨e1, e2⟩ := lenE_eq (m := 56) (Z := U / 2 ^ 32 / 2 ^ 16 / 2 ^ 8) (by omega) (by omega) (by omega)
        rw [← sh_eq, ← sh_eq, ← sh_eq] at e1 e2
        exact step (m := 0) (Z := 0) (len_111 U) (okPC e2 (okPC nz_ok (okPC (ge_t (by rw [sh_eq, sh_eq]; omega)) (okPC nz_ok (okPC (ge_t (by rw [sh_eq]; omega)) (okPC nz_ok (okP1 (ge_t (by omega))))))))) (by rw [e1]; congr 1; omega)
/-! ### Len -/
/-- of a word -/
def gu (k : Int → Value) : Ans := fun vals s =>
  match vals with
  | [.int .u64 u] => some (k u, s, [(decide (0 ≤ u ∧ u < 18446744073709551616), true)])
  | _ => none
theorem gu_ok {f : Nat} {k : Int → Value} (hk : ∀ u, 0 ≤ u → u < 18446744073709551616 → ∀ w, Calls Tryz.prog f #[.int .u64 u] w fun e w' => e = .returned (k u) ∧ Tidy w w') : AnsOk f (gu k) := by
  intro vals s v s' lg h hl w
  unfold gu at h
  split at h
  · cases h
    have h1 := hl _ (List.mem_singleton.2 rfl)
    simp only [decide_eq_true_eq] at h1
    exact hk _ h1.1 h1.2 w
  · cases h
def conL : Con := alt 155 (gu len64V) conN
theorem conL_ok : ConOk conL := alt_ok Tryz.func155 rfl (gu_ok len64_calls) conN_ok
def ne0 (a : Int) (d : Bool) : Bool × Bool := (a != 0, d)
def yes : Bool × Bool := (true, true)
def no : Bool × Bool := (false, false)
def wd (u : Int) : Bool × Bool := (decide (0 ≤ u ∧ u < 18446744073709551616), true)
def lenB (m u : Int) : Value := .int .i64 (IntKind.i64.wrap (m + (bitLen u.toNat : Nat)))
theorem wlen_3 (x : W4) : Fits (reckon (tabOf Tryz.prog extY conL true) 3000 140 [vW x] [tst true, tst true]) (lenB 192 x.d) [wd x.d, ne0 x.d true, yes] := ⟨by kernel_rfl, by kernel_rfl, by kernel_rfl, by kernel_rfl⟩
theorem wlen_2 (x : W4) : Fits (reckon (tabOf Tryz.prog extY conL true) 3000 140 [vW x] [tst true, tst false, tst true, tst true]) (lenB 128 x.c) [wd x.c, ne0 x.c true, yes, ne0 x.d false, yes] := ⟨by kernel_rfl, by kernel_rfl, by kernel_rfl, by kernel_rfl⟩
theorem wlen_1 (x : W4) : Fits (reckon (tabOf Tryz.prog extY conL true) 3000 140 [vW x] [tst true, tst false, tst true, tst false, tst true, tst true]) (lenB 64 x.b) [wd x.b, ne0 x.b true, yes, ne0 x.c false, yes, ne0 x.d false, yes] := ⟨by kernel_rfl, by kernel_rfl, by kernel_rfl, by kernel_rfl⟩
theorem wlen_0 (x : W4) : Fits (reckon (tabOf Tryz.prog extY conL true) 3000 140 [vW x] [tst true, tst false, tst true, tst false, tst true, tst false, tst true, tst true]) (lenB 0 x.a) [wd x.a, ne0 x.a true, yes, ne0 x.b false, yes, ne0 x.c false, yes, ne0 x.d false, yes] := ⟨by kernel_rfl, by kernel_rfl, by kernel_rfl, by kernel_rfl⟩
theorem wlen_n (x : W4) : Fits (reckon (tabOf Tryz.prog extY conL true) 3000 140 [vW x] [tst true, tst false, tst true, tst false, tst true, tst false, tst true, tst false, tst false]) (.int .i64 0) [no, ne0 x.a false, yes, ne0 x.b false, yes, ne0 x.c false, yes, ne0 x.d false, yes] := ⟨by kernel_rfl, by kernel_rfl, by kernel_rfl, by kernel_rfl⟩
def lenI (x : W4) : Int := (bitLen x.val.toNat : Nat)
def lenV4 (x : W4) : Value := .int .i64 (lenI x)
theorem lenB_eq {m u : Int} (h0 : 0 ≤ m) (h1 : m ≤ 192) (hu : 0 ≤ u ∧ u < 18446744073709551616) : lenB m u = .int .i64 (m + (bitLen u.toNat : Nat)) := by
  have : bitLen u.toNat ≤ 64 := by
    unfold bitLen
    split
    · omega
    · rename_i h
      have := (Nat.log2_lt h).2 (show u.toNat < 2 ^ 64 by have : (2 : Nat) ^ 64 = 18446744073709551616 := rfl; omega)
      omega
  unfold lenB
  rw [wrap_i64' (by omega) (by omega)]
theorem ne_t {a : Int} (h : a ≠ 0) : (ne0 a true).1 = (ne0 a true).2 := bne_iff_ne.2 h
theorem ne_f {a : Int} (h : a = 0) : (ne0 a false).1 = (ne0 a false).2 := by subst h; rfl
theorem wd_ok {u : Int} (h : 0 ≤ u ∧ u < 18446744073709551616) : (wd u).1 = (wd u).2 := decide_eq_true h
theorem yes_ok : yes.1 = yes.2 := rfl
theorem no_ok : no.1 = no.2 := rfl
theorem len_high {X b U : Nat} (hU : U ≠ 0) (h : X / 2 ^ b = U) : bitLen X = b + bitLen U := by
  rw [← h]
  exact bitLen_shift X b (by omega)
set_option maxRecDepth 100000 in
theorem wlen_calls (x : W4) (hx : x.ok) (w : World) : Calls Tryz.prog 140 #[vW x] w fun e w' => e = .returned (lenV4 x) ∧ Tidy w w' := by
  have hx' := hx
  obtain ⟨a, b, c, d⟩ := x
  obtain ⟨h1, h2, h3, h4⟩ := hx
  unfold lenV4 lenI W4.val
  dsimp only at *
  by_cases e4 : d = 0
  · by_cases e3 : c = 0
    · by_cases e2 : b = 0
      · by_cases e1 : a = 0
        · subst e1 e2 e3 e4
          exact fits_calls (tabY_ok conL_ok) (wlen_n ⟨0, 0, 0, 0⟩) (okPC no_ok (okPC (ne_f rfl) (okPC yes_ok (okPC (ne_f rfl) (okPC yes_ok (okPC (ne_f rfl) (okPC yes_ok (okPC (ne_f rfl) (okP1 yes_ok))))))))) (by rfl) (by rfl) w
        · have h := fits_calls (tabY_ok conL_ok) (wlen_0 ⟨a, b, c, d⟩) (okPC (wd_ok h1) (okPC (ne_t e1) (okPC yes_ok (okPC (ne_f e2) (okPC yes_ok (okPC (ne_f e3) (okPC yes_ok (okPC (ne_f e4) (okP1 yes_ok))))))))) (by rfl) (by rfl) w
          rw [lenB_eq (by omega) (by omega) h1] at h
          subst e2 e3 e4
          simp at h ⊢
          exact h
      · have h := fits_calls (tabY_ok conL_ok) (wlen_1 ⟨a, b, c, d⟩) (okPC (wd_ok h2) (okPC (ne_t e2) (okPC yes_ok (okPC (ne_f e3) (okPC yes_ok (okPC (ne_f e4) (okP1 yes_ok))))))) (by rfl) (by rfl) w
        rw [lenB_eq (by omega) (by omega) h2] at h
        have p : (2 : Nat) ^ 64 = 18446744073709551616 := rfl
        have l := len_high (X := (a + 18446744073709551616 * b + 340282366920938463463374607431768211456 * c + 6277101735386680763835789423207666416102355444464034512896 * d).toNat) (b := 64) (U := b.toNat) (by omega) (by rw [p]; omega)
        rw [l]
        simp at h ⊢
        exact h
    · have h := fits_calls (tabY_ok conL_ok) (wlen_2 ⟨a, b, c, d⟩) (okPC (wd_ok h3) (okPC (ne_t e3) (okPC yes_ok (okPC (ne_f e4) (okP1 yes_ok))))) (by rfl) (by rfl) w
      rw [lenB_eq (by omega) (by omega) h3] at h
      have p : (2 : Nat) ^ 128 = 340282366920938463463374607431768211456 := rfl
      have l := len_high (X := (a + 18446744073709551616 * b + 340282366920938463463374607431768211456 * c + 6277101735386680763835789423207666416102355444464034512896 * d).toNat) (b := 128) (U := c.toNat) (by omega) (by rw [p]; omega)
      rw [l]
      simp at h ⊢
      exact h
  · have h := fits_calls (tabY_ok conL_ok) (wlen_3 ⟨a, b, c, d⟩) (okPC (wd_ok h4) (okPC (ne_t e4) (okP1 yes_ok))) (by rfl) (by rfl) w
    rw [lenB_eq (by omega) (by omega) h4] at h
    have p : (2 : Nat) ^ 192 = 6277101735386680763835789423207666416102355444464034512896 := rfl
    have l := len_high (X := (a + 18446744073709551616 * b + 340282366920938463463374607431768211456 * c + 6277101735386680763835789423207666416102355444464034512896 * d).toNat) (b := 192) (U := d.toNat) (by omega) (by rw [p]; omega)
    rw [l]
    simp at h ⊢
    exact h
/-- of one number -/
def g1 (k : W4 → Value) : Ans := fun vals s =>
  match vals with
  | [x] =>
    match w4 x with
    | some a => some (k a, s, [(decide a.ok, true)])
    | none => none
  | _ => none
theorem g1_ok {f : Nat} {k : W4 → Value} (hk : ∀ x : W4, x.ok → ∀ w, Calls Tryz.prog f #[vW x] w fun e w' => e = .returned (k x) ∧ Tidy w w') : AnsOk f (g1 k) := by
  intro vals s v s' lg h hl w
  unfold g1 at h
  split at h
  · split at h
    · rename_i a ha
      cases h
      have h1 := hl _ (List.mem_singleton.2 rfl)
      simp only [decide_eq_true_eq] at h1
      rw [w4_spec ha]
      exact hk a h1 w
    · cases h
  · cases h
/-! ### Bit -/
def andd (z : Int) : Int := IntKind.u64.wrap ((BitVec.ofInt 64 z &&& BitVec.ofInt 64 1).toNat : Nat)
theorem andd_eq {z : Int} (h0 : 0 ≤ z) (h1 : z < 18446744073709551616) : andd z = z % 2 := by
  obtain ⟨Z, rfl⟩ := Int.eq_ofNat_of_zero_le h0
  unfold andd
  have e1 : (BitVec.ofInt 64 (Z : Int)).toNat = Z := by simp; omega
  have e2 : (BitVec.ofInt 64 1).toNat = 1 := rfl
  rw [BitVec.toNat_and, e1, e2, Nat.and_one_is_mod, wrap_u64]
  omega
def lb (n k : Int) : Log := [(decide ((64 : Int) = 0), false), (decide (IntKind.i64.wrap (n.tdiv 64) = k), true), (decide (n ≥ 256), false), (decide (n < 0), false)]
theorem bit_low (x : W4) (n : Int) : Fits (reckon (tabOf Tryz.prog extY conN true) 3000 148 [vW x, .int .i64 n] [cmp true]) (.int .u64 0) [(decide (n < 0), true)] := ⟨by kernel_rfl, by kernel_rfl, by kernel_rfl, by kernel_rfl⟩
theorem bit_high (x : W4) (n : Int) : Fits (reckon (tabOf Tryz.prog extY conN true) 3000 148 [vW x, .int .i64 n] [cmp false, cmp true]) (.int .u64 0) [(decide (n ≥ 256), true), (decide (n < 0), false)] := ⟨by kernel_rfl, by kernel_rfl, by kernel_rfl, by kernel_rfl⟩
theorem bit_0 (x : W4) (n : Int) : Fits (reckon (tabOf Tryz.prog extY conN true) 3000 148 [vW x, .int .i64 n] [cmp false, cmp false, num 0]) (.int .u64 (andd (dn' x.a n))) (lu n :: lb n 0) := ⟨by kernel_rfl, by kernel_rfl, by kernel_rfl, by kernel_rfl⟩
theorem bit_1 (x : W4) (n : Int) : Fits (reckon (tabOf Tryz.prog extY conN true) 3000 148 [vW x, .int .i64 n] [cmp false, cmp false, num 1]) (.int .u64 (andd (dn' x.b n))) (lu n :: lb n 1) := ⟨by kernel_rfl, by kernel_rfl, by kernel_rfl, by kernel_rfl⟩
theorem bit_2 (x : W4) (n : Int) : Fits (reckon (tabOf Tryz.prog extY conN true) 3000 148 [vW x, .int .i64 n] [cmp false, cmp false, num 2]) (.int .u64 (andd (dn' x.c n))) (lu n :: lb n 2) := ⟨by kernel_rfl, by kernel_rfl, by kernel_rfl, by kernel_rfl⟩
theorem bit_3 (x : W4) (n : Int) : Fits (reckon (tabOf Tryz.prog extY conN true) 3000 148 [vW x, .int .i64 n] [cmp false, cmp false, num 3]) (.int .u64 (andd (dn' x.d n))) (lu n :: lb n 3) := ⟨by kernel_rfl, by kernel_rfl, by kernel_rfl, by kernel_rfl⟩
def bitI (x : W4) (n : Int) : Int := if n < 0 then 0 else if 256 ≤ n then 0 else x.val / 2 ^ n.toNat % 2
def bitV4 (x : W4) (n : Int) : Value := .int .u64 (bitI x n)
theorem lb_ok {n k : Int} (h1 : ¬ n < 0) (h2 : ¬ 256 ≤ n) (h3 : n / 64 = k) : okLog (lb n k) := by
  refine okPC (by rfl) (okPC (decide_eq_true ?_) (okPC (decide_eq_false h2) (okP1 (decide_eq_false h1))))
  rw [Int.tdiv_eq_ediv_of_nonneg (by omega), wrap_i64' (by omega) (by omega)]
  exact h3
/-- the lowest bit of a word moved down is that of the number moved down -/
theorem low_bit {x : W4} {n : Int} {a b : Int} (hn : 0 ≤ n) (ha : 0 ≤ a ∧ a < 18446744073709551616) (hb : 0 ≤ b ∧ b < 18446744073709551616) (h : (W4.of (x.val / 2 ^ n.toNat)).a = orr (dn' a n) (up' b n)) :
    andd (dn' a n) = x.val / 2 ^ n.toNat % 2 := by
  obtain ⟨l, o, d, s, m, l0, l1, e⟩ := pieces' hn ha hb
  have ev := up'_even hn hb
  rw [andd_eq d.1 d.2]
  rw [o] at h
  unfold W4.of at h
  dsimp only at h
  omega
theorem low_bit' {x : W4} {n : Int} {a : Int} (hn : 0 ≤ n) (ha : 0 ≤ a ∧ a < 18446744073709551616) (h : (W4.of (x.val / 2 ^ n.toNat)).a = dn' a n) : andd (dn' a n) = x.val / 2 ^ n.toNat % 2 := by
  obtain ⟨l, o, d, s, m, l0, l1, e⟩ := pieces' hn ha ha
  rw [andd_eq d.1 d.2]
  unfold W4.of at h
  dsimp only at h
  omega
set_option maxRecDepth 100000 in
theorem bit_calls (x : W4) (n : Int) (hx : x.ok) (_h0 : -9223372036854775808 ≤ n) (_h9 : n ≤ 9223372036854775807) (w : World) : Calls Tryz.prog 148 #[vW x, .int .i64 n] w fun e w' => e = .returned (bitV4 x n) ∧ Tidy w w' := by
  unfold bitV4 bitI
  by_cases h1 : n < 0
  · rw [if_pos h1]
    exact fits_calls (tabY_ok conN_ok) (bit_low x n) (okP1 (decide_eq_true h1)) (by rfl) (by rfl) w
  · rw [if_neg h1]
    by_cases h2 : 256 ≤ n
    · rw [if_pos h2]
      exact fits_calls (tabY_ok conN_ok) (bit_high x n) (okPC (decide_eq_true h2) (okP1 (decide_eq_false h1))) (by rfl) (by rfl) w
    · rw [if_neg h2]
      have hn : 0 ≤ n := by omega
      have u := lu_ok hn
      obtain ⟨k1, k2, k3, k4⟩ := hx
      have hj : n / 64 = 0 ∨ n / 64 = 1 ∨ n / 64 = 2 ∨ n / 64 = 3 := by omega
      rcases hj with hj | hj | hj | hj
      · obtain ⟨e1, _⟩ := shr0_eq (x := x) ⟨k1, k2, k3, k4⟩ hn hj
        rw [← low_bit hn k1 k2 (by rw [← e1]; rfl)]
        exact fits_calls (tabY_ok conN_ok) (bit_0 x n) (okPC u (lb_ok h1 h2 hj)) (by rfl) (by rfl) w
      · obtain ⟨e1, _⟩ := shr1_eq (x := x) ⟨k1, k2, k3, k4⟩ hn hj
        rw [← low_bit hn k2 k3 (by rw [← e1]; rfl)]
        exact fits_calls (tabY_ok conN_ok) (bit_1 x n) (okPC u (lb_ok h1 h2 hj)) (by rfl) (by rfl) w
      · obtain ⟨e1, _⟩ := shr2_eq (x := x) ⟨k1, k2, k3, k4⟩ hn hj
        rw [← low_bit hn k3 k4 (by rw [← e1]; rfl)]
        exact fits_calls (tabY_ok conN_ok) (bit_2 x n) (okPC u (lb_ok h1 h2 hj)) (by rfl) (by rfl) w
      · obtain ⟨e1, _⟩ := shr3_eq (x := x) ⟨k1, k2, k3, k4⟩ hn hj
        rw [← low_bit' hn k4 (by rw [← e1]; rfl)]
        exact fits_calls (tabY_ok conN_ok) (bit_3 x n) (okPC u (lb_ok h1 h2 hj)) (by rfl) (by rfl) w
end Go.Proofs.YtjkgnbdeklploaaGreatDoor
namespace Go.Rn
/-- whether it goes up: c: what is beyond a multiple: 0 nothing, 1 below a half, 2 a half, 3 above it -/
def upR (m : Int) (neg odd : Bool) (c : Int) : Bool :=
  if c = 0 then false else if m = 2 then false else if m = 3 then !neg else if m = 4 then neg else if m = 1 then decide (2 ≤ c) else decide (2 < c) || (decide (c = 2) && odd)
def restC (r P : Nat) : Int := if r = 0 then 0 else if 2 * r < P then 1 else if 2 * r = P then 2 else 3
def odd (q : Nat) : Bool := decide (q % 2 = 1)
def rq (m : Int) (neg : Bool) (T k : Nat) : Nat := T / 2 ^ k + (if upR m neg (odd (T / 2 ^ k)) (restC (T % 2 ^ k) (2 ^ k)) = true then 1 else 0)
def toQ (m : Int) (neg : Bool) (T : Nat) (E e : Int) : Nat := if e ≤ E then T * 2 ^ (E - e).toNat else rq m neg T (e - E).toNat
def toL (T : Nat) (E e : Int) : Bool := if e ≤ E then false else decide (T % 2 ^ (e - E).toNat ≠ 0)
def lgN (T : Nat) (E : Int) : Int := E + (bitLen T : Nat) - 1
def lowE (T : Nat) (E : Int) : Int := if lgN T E - 52 ≤ -1074 then -1074 else lgN T E - 52
/-- the pattern, as if there were no greatest -/
def p0 (m : Int) (neg : Bool) (T : Nat) (E : Int) : Int := (lowE T E + 1074) * 4503599627370496 + (toQ m neg T E (lowE T E) : Nat)
def tiny (m : Int) (neg : Bool) (T : Nat) (E : Int) : Bool := if lgN T E = -1023 then decide (toQ m neg T E (-1075) < 9007199254740992) else decide (lgN T E < -1022)
def bey (m : Int) (neg : Bool) : Int := if upR m neg true 3 = true then 9218868437227405312 else 9218868437227405311
def rnP (m : Int) (neg : Bool) (T : Nat) (E : Int) : Int := if T = 0 then 0 else if 9218868437227405312 ≤ p0 m neg T E then bey m neg else p0 m neg T E
def rnF (m : Int) (neg : Bool) (T : Nat) (E : Int) : Int := if T = 0 then 0 else if 9218868437227405312 ≤ p0 m neg T E then 20 else if toL T E (lowE T E) = true then (if tiny m neg T E = true then 24 else 16) else 0
/-! ### the two signs -/
/-! ### bits -/
theorem len_pos {T : Nat} (h : T ≠ 0) : 1 ≤ bitLen T := by unfold bitLen; rw [if_neg h]; omega
theorem len_uniq {T k : Nat} (h0 : 2 ^ k ≤ T) (h1 : T < 2 ^ (k + 1)) : bitLen T = k + 1 := by
  have hp : 0 < 2 ^ k := Nat.pow_pos (by omega)
  obtain ⟨a1, a2⟩ := bitLen_spec T
  have a2 := a2 (by omega)
  have a3 := len_pos (show T ≠ 0 by omega)
  rcases Nat.lt_or_ge (bitLen T) (k + 1) with h | h
  · have := Nat.pow_le_pow_right (show 0 < 2 by omega) (show bitLen T ≤ k by omega)
    omega
  · rcases Nat.lt_or_ge (k + 1) (bitLen T) with h' | h'
    · have := Nat.pow_le_pow_right (show 0 < 2 by omega) (show k + 1 ≤ bitLen T - 1 by omega)
      omega
    · omega
theorem len_le {T k : Nat} (h : T < 2 ^ k) : bitLen T ≤ k := by
  by_cases h0 : T = 0
  · subst h0; simp [bitLen]
  · have a2 := (bitLen_spec T).2 h0
    rcases Nat.lt_or_ge k (bitLen T) with h' | h'
    · have := Nat.pow_le_pow_right (show 0 < 2 by omega) (show k ≤ bitLen T - 1 by omega)
      omega
    · exact h'
theorem le_len {T k : Nat} (h : 2 ^ k ≤ T) : k + 1 ≤ bitLen T := by
  have a1 := (bitLen_spec T).1
  rcases Nat.lt_or_ge (bitLen T) (k + 1) with h' | h'
  · have := Nat.pow_le_pow_right (show 0 < 2 by omega) (show bitLen T ≤ k by omega)
    omega
  · exact h'
theorem len_mul {T : Nat} (h : T ≠ 0) (j : Nat) : bitLen (T * 2 ^ j) = bitLen T + j := by
  have hp : 0 < 2 ^ j := Nat.pow_pos (by omega)
  obtain ⟨a1, a2⟩ := bitLen_spec T
  have a2 := a2 h
  have a3 := len_pos h
  have e : bitLen T + j = (bitLen T - 1 + j) + 1 := by omega
  rw [e]
  apply len_uniq
  · rw [Nat.pow_add]; exact Nat.mul_le_mul_right _ a2
  · rw [show bitLen T - 1 + j + 1 = bitLen T + j by omega, Nat.pow_add]; exact Nat.mul_lt_mul_of_pos_right a1 hp
/-! ### what is beyond -/
theorem upR_zero (m : Int) (neg o : Bool) : upR m neg o 0 = false := by simp [upR]
theorem restC_zero (P : Nat) : restC 0 P = 0 := by simp [restC]
theorem restC_iff {r P : Nat} : restC r P = 0 ↔ r = 0 := by
  unfold restC
  split
  · simp_all
  · rename_i h; simp only [h, iff_false]; split <;> (try split) <;> omega
theorem restC_scale (r P j : Nat) : restC (r * 2 ^ j) (P * 2 ^ j) = restC r P := by
  have hp : 0 < 2 ^ j := Nat.pow_pos (by omega)
  unfold restC
  have e0 : (r * 2 ^ j = 0) ↔ r = 0 := by rw [Nat.mul_eq_zero]; omega
  have e1 : (2 * (r * 2 ^ j) < P * 2 ^ j) ↔ 2 * r < P := by rw [← Nat.mul_assoc]; exact Nat.mul_lt_mul_right hp
  have e2 : (2 * (r * 2 ^ j) = P * 2 ^ j) ↔ 2 * r = P := by rw [← Nat.mul_assoc]; exact Nat.mul_left_inj (by omega)
  simp only [e0, e1, e2]
/-! ### multiples -/
theorem rq_bd (m : Int) (neg : Bool) (T k : Nat) : T / 2 ^ k ≤ rq m neg T k ∧ rq m neg T k ≤ T / 2 ^ k + 1 := by unfold rq; split <;> omega
theorem rq_exact {m : Int} {neg : Bool} {T k : Nat} (h : T % 2 ^ k = 0) : rq m neg T k = T / 2 ^ k := by
  unfold rq
  rw [h, restC_zero, upR_zero]
  simp
theorem rq_scale (m : Int) (neg : Bool) (T k j : Nat) : rq m neg (T * 2 ^ j) (k + j) = rq m neg T k := by
  have hp : 0 < 2 ^ j := Nat.pow_pos (by omega)
  unfold rq
  rw [Nat.pow_add, Nat.mul_div_mul_right _ _ hp, Nat.mul_mod_mul_right, restC_scale]
/-- scale: the same number told in two ways -/
theorem toQ_scale (m : Int) (neg : Bool) (T j : Nat) (E e : Int) : toQ m neg (T * 2 ^ j) (E - j) e = toQ m neg T E e := by
  unfold toQ
  by_cases h1 : e ≤ E
  · rw [if_pos h1]
    by_cases h2 : e ≤ E - j
    · rw [if_pos h2, Nat.mul_assoc, ← Nat.pow_add]
      congr 2; omega
    · rw [if_neg h2]
      have ej : j = (E - e).toNat + (e - (E - j)).toNat := by omega
      have e1 : T * 2 ^ j = T * 2 ^ (E - e).toNat * 2 ^ (e - (E - j)).toNat := by rw [Nat.mul_assoc, ← Nat.pow_add, ← ej]
      have hp : 0 < 2 ^ (e - (E - j)).toNat := Nat.pow_pos (by omega)
      rw [e1, rq_exact (Nat.mul_mod_left _ _), Nat.mul_div_cancel _ hp]
  · rw [if_neg h1, if_neg (by omega), show (e - (E - j)).toNat = (e - E).toNat + j by omega, rq_scale]
theorem toL_scale (T j : Nat) (E e : Int) : toL (T * 2 ^ j) (E - j) e = toL T E e := by
  have hp : 0 < 2 ^ j := Nat.pow_pos (by omega)
  unfold toL
  by_cases h1 : e ≤ E
  · rw [if_pos h1]
    by_cases h2 : e ≤ E - j
    · rw [if_pos h2]
    · rw [if_neg h2]
      have ej : j = (E - e).toNat + (e - (E - j)).toNat := by omega
      have e1 : T * 2 ^ j = T * 2 ^ (E - e).toNat * 2 ^ (e - (E - j)).toNat := by rw [Nat.mul_assoc, ← Nat.pow_add, ← ej]
      rw [e1, Nat.mul_mod_left]
      simp
  · rw [if_neg h1, if_neg (by omega), show (e - (E - j)).toNat = (e - E).toNat + j by omega, Nat.pow_add, Nat.mul_mod_mul_right]
    congr 1
    rw [ne_eq, ne_eq, Nat.mul_eq_zero]
    simp only [eq_iff_iff]
    omega
theorem lgN_scale {T : Nat} (h : T ≠ 0) (j : Nat) (E : Int) : lgN (T * 2 ^ j) (E - j) = lgN T E := by
  unfold lgN
  rw [len_mul h]
  omega
theorem lowE_scale {T : Nat} (h : T ≠ 0) (j : Nat) (E : Int) : lowE (T * 2 ^ j) (E - j) = lowE T E := by unfold lowE; rw [lgN_scale h]
theorem p0_scale {T : Nat} (h : T ≠ 0) (m : Int) (neg : Bool) (j : Nat) (E : Int) : p0 m neg (T * 2 ^ j) (E - j) = p0 m neg T E := by unfold p0; rw [lowE_scale h, toQ_scale]
theorem tiny_scale {T : Nat} (h : T ≠ 0) (m : Int) (neg : Bool) (j : Nat) (E : Int) : tiny m neg (T * 2 ^ j) (E - j) = tiny m neg T E := by unfold tiny; rw [lgN_scale h, toQ_scale]
theorem scale_ne {T : Nat} (j : Nat) : (T * 2 ^ j = 0) = (T = 0) := by
  have hp : 0 < 2 ^ j := Nat.pow_pos (by omega)
  rw [Nat.mul_eq_zero]
  simp only [eq_iff_iff]
  omega
theorem rnP_scale (m : Int) (neg : Bool) (T j : Nat) (E : Int) : rnP m neg (T * 2 ^ j) (E - j) = rnP m neg T E := by
  unfold rnP
  simp only [scale_ne]
  by_cases h : T = 0
  · rw [if_pos h, if_pos h]
  · rw [if_neg h, if_neg h, p0_scale h]
theorem rnF_scale (m : Int) (neg : Bool) (T j : Nat) (E : Int) : rnF m neg (T * 2 ^ j) (E - j) = rnF m neg T E := by
  unfold rnF
  simp only [scale_ne]
  by_cases h : T = 0
  · rw [if_pos h, if_pos h]
  · rw [if_neg h, if_neg h, p0_scale h, tiny_scale h, lowE_scale h, toL_scale]
end Go.Rn
namespace Go.Pt
def bAnd (x y : Int) : Int := IntKind.u64.wrap ((BitVec.ofInt 64 x &&& BitVec.ofInt 64 y).toNat : Nat)
def bOr (x y : Int) : Int := IntKind.u64.wrap ((BitVec.ofInt 64 x ||| BitVec.ofInt 64 y).toNat : Nat)
def bXor (x y : Int) : Int := IntKind.u64.wrap ((BitVec.ofInt 64 x ^^^ BitVec.ofInt 64 y).toNat : Nat)
def bNot (x y : Int) : Int := IntKind.u64.wrap ((BitVec.ofInt 64 x &&& ~~~(BitVec.ofInt 64 y)).toNat : Nat)
abbrev U (p : Int) : Prop := 0 ≤ p ∧ p < 18446744073709551616
abbrev I (n : Int) : Prop := -9223372036854775808 ≤ n ∧ n ≤ 9223372036854775807
theorem wrapU (n : Int) : IntKind.u64.wrap n = n % 18446744073709551616 := by simp [IntKind.wrap, IntKind.bits, IntKind.signed]
theorem wrapU' {n : Int} (h : U n) : IntKind.u64.wrap n = n := by rw [wrapU]; unfold U at h; omega
theorem wrapI' {n : Int} (h : I n) : IntKind.i64.wrap n = n := by
  unfold I at h
  simp [IntKind.wrap, IntKind.bits, IntKind.signed]; omega
theorem ofU {Z : Nat} (h : Z < 18446744073709551616) : (BitVec.ofInt 64 (Z : Int)).toNat = Z := by simp; omega
theorem back {V : BitVec 64} : IntKind.u64.wrap (V.toNat : Nat) = (V.toNat : Int) := by
  have := V.isLt
  exact wrapU' ⟨by omega, by omega⟩
theorem and_mask (x k j : Nat) : x &&& (2 ^ k * (2 ^ j - 1)) = 2 ^ k * (x / 2 ^ k % 2 ^ j) := by
  refine Nat.eq_of_testBit_eq fun i => ?_
  rw [Nat.testBit_and, Nat.testBit_two_pow_mul, Nat.testBit_two_pow_sub_one, Nat.testBit_two_pow_mul, Nat.testBit_mod_two_pow, Nat.testBit_div_two_pow]
  by_cases h : k ≤ i
  · have e : k + (i - k) = i := by omega
    have e' : i - k + k = i := by omega
    simp [h, e', Bool.and_comm]
  · simp [h]
theorem bAnd_mask {p m : Int} (k j : Nat) (hp : U p) (hm : m = ((2 ^ k * (2 ^ j - 1) : Nat) : Int)) (hk : 2 ^ k * (2 ^ j - 1) < 18446744073709551616) : bAnd p m = 2 ^ k * (p / 2 ^ k % 2 ^ j) := by
  obtain ⟨h0, h1⟩ := hp
  obtain ⟨Z, rfl⟩ := Int.eq_ofNat_of_zero_le h0
  unfold bAnd
  rw [back, BitVec.toNat_and, ofU (by omega), hm, ofU hk, and_mask]
  simp
theorem or_low {p q : Int} (k : Nat) {z : Int} (hz : 0 ≤ z) (hq : q = 2 ^ k * z) (hp : 0 ≤ p) (hk : p < 2 ^ k) (hs : q + p < 18446744073709551616) : bOr p q = q + p := by
  obtain ⟨Z, rfl⟩ := Int.eq_ofNat_of_zero_le hz
  obtain ⟨Y, rfl⟩ := Int.eq_ofNat_of_zero_le hp
  have ex : (2 : Int) ^ k * (Z : Nat) = ((2 ^ k * Z : Nat) : Int) := by simp
  have hY : Y < 2 ^ k := by
    have : ((Y : Nat) : Int) < ((2 ^ k : Nat) : Int) := by simpa using hk
    exact Int.ofNat_lt.1 this
  subst hq
  rw [ex] at hs ⊢
  have hX : 2 ^ k * Z + Y < 18446744073709551616 := by omega
  unfold bOr
  rw [back, BitVec.toNat_or, ofU (by omega), ofU (by omega), Nat.or_comm, ← Nat.two_pow_add_eq_or_of_lt hY]
  omega
theorem bNot_sign {p : Int} (hp : U p) : bNot p 9223372036854775808 = p % 9223372036854775808 := by
  obtain ⟨h0, h1⟩ := hp
  obtain ⟨Z, rfl⟩ := Int.eq_ofNat_of_zero_le h0
  unfold bNot
  have e : (~~~(BitVec.ofInt 64 9223372036854775808)).toNat = 2 ^ 63 - 1 := by decide
  rw [back, BitVec.toNat_and, ofU (by omega), e, Nat.and_two_pow_sub_one_eq_mod]
  omega
theorem xor_sign (r : Nat) (h : r < 2 ^ 63) : r ^^^ 2 ^ 63 = 2 ^ 63 + r := by
  have e : 2 ^ 63 + r = 2 ^ 63 ||| r := by
    have := Nat.two_pow_add_eq_or_of_lt h 1
    simpa using this
  rw [e]
  refine Nat.eq_of_testBit_eq fun i => ?_
  rw [Nat.testBit_xor, Nat.testBit_or, Nat.testBit_two_pow]
  by_cases hi : 63 = i
  · subst hi
    rw [Nat.testBit_lt_two_pow h]
    simp
  · simp [hi]
theorem bXor_sign {p : Int} (hp : U p) : bXor p 9223372036854775808 = (p + 9223372036854775808) % 18446744073709551616 := by
  obtain ⟨h0, h1⟩ := hp
  obtain ⟨Z, rfl⟩ := Int.eq_ofNat_of_zero_le h0
  unfold bXor
  have e : (BitVec.ofInt 64 9223372036854775808).toNat = 2 ^ 63 := by decide
  rw [back, BitVec.toNat_xor, ofU (by omega), e]
  by_cases hz : Z < 2 ^ 63
  · rw [xor_sign Z hz]
    omega
  · have h2 := xor_sign (Z - 2 ^ 63) (by omega)
    have e2 : Z = (Z - 2 ^ 63) ^^^ 2 ^ 63 := by rw [h2]; omega
    have e3 : Z ^^^ 2 ^ 63 = Z - 2 ^ 63 := by
      rw [e2, Nat.xor_assoc, Nat.xor_self, Nat.xor_zero, ← e2]
    rw [e3]
    omega
theorem bAnd_frac {p : Int} (hp : U p) : bAnd p 4503599627370495 = p % 4503599627370496 := by
  rw [bAnd_mask 0 52 hp (by rfl) (by decide)]
  simp
theorem bAnd_sign {p : Int} (hp : U p) : bAnd p 9223372036854775808 = 9223372036854775808 * (p / 9223372036854775808 % 2) := bAnd_mask 63 1 hp (by rfl) (by decide)
theorem bAnd_quiet {p : Int} (hp : U p) : bAnd p 2251799813685248 = 2251799813685248 * (p / 2251799813685248 % 2) := bAnd_mask 51 1 hp (by rfl) (by decide)
/-! ### a pattern's parts -/
def sgn (p : Int) : Bool := decide (9223372036854775808 ≤ p)
def mag (p : Int) : Int := p % 9223372036854775808
def ex (p : Int) : Int := p / 4503599627370496 % 2048
def fr (p : Int) : Int := p % 4503599627370496
def cl (p : Int) : Int := if ex p = 0 then (if fr p = 0 then 0 else 1) else if ex p = 2047 then (if fr p = 0 then 3 else if 2251799813685248 ≤ fr p then 4 else 5) else 2
def xp (p : Int) : Int := if ex p = 0 then -1074 else if ex p = 2047 then 0 else ex p - 1075
def sg (p : Int) : Int := if ex p = 0 then fr p else if ex p = 2047 then fr p else fr p + 4503599627370496
theorem ex_mag (p : Int) : mag p / 4503599627370496 = ex p := by unfold mag ex; omega
theorem ex_lt (p : Int) : 0 ≤ ex p ∧ ex p < 2048 := by unfold ex; omega
theorem fr_lt (p : Int) : 0 ≤ fr p ∧ fr p < 4503599627370496 := by unfold fr; omega
end Go.Pt
namespace Go.Rn
open Go.Pt
/-! ### how great a multiple's number is -/
theorem toQ_le {m : Int} {neg : Bool} {T : Nat} {E e : Int} {n : Nat} (h : (bitLen T : Int) + (E - e) ≤ n) : toQ m neg T E e ≤ 2 ^ n := by
  have a1 := (bitLen_spec T).1
  unfold toQ
  by_cases he : e ≤ E
  · rw [if_pos he]
    have hp : 0 < 2 ^ (E - e).toNat := Nat.pow_pos (by omega)
    have := Nat.mul_le_mul_right (2 ^ (E - e).toNat) (Nat.le_of_lt a1)
    rw [← Nat.pow_add] at this
    have h2 := Nat.pow_le_pow_right (show 0 < 2 by omega) (show bitLen T + (E - e).toNat ≤ n by omega)
    omega
  · rw [if_neg he]
    have b := (rq_bd m neg T (e - E).toNat).2
    have h2 := Nat.pow_le_pow_right (show 0 < 2 by omega) (show bitLen T ≤ n + (e - E).toNat by omega)
    have h3 : T / 2 ^ (e - E).toNat < 2 ^ n := by
      apply Nat.div_lt_of_lt_mul
      rw [Nat.pow_add, Nat.mul_comm] at h2
      omega
    omega
theorem toQ_ge {m : Int} {neg : Bool} {T : Nat} {E e : Int} {n : Nat} (hT : T ≠ 0) (h : (n : Int) + 1 ≤ (bitLen T : Int) + (E - e)) : 2 ^ n ≤ toQ m neg T E e := by
  have a2 := (bitLen_spec T).2 hT
  have a3 := len_pos hT
  unfold toQ
  by_cases he : e ≤ E
  · rw [if_pos he]
    have := Nat.mul_le_mul_right (2 ^ (E - e).toNat) a2
    rw [← Nat.pow_add] at this
    have h2 := Nat.pow_le_pow_right (show 0 < 2 by omega) (show n ≤ bitLen T - 1 + (E - e).toNat by omega)
    omega
  · rw [if_neg he]
    have b := (rq_bd m neg T (e - E).toNat).1
    have hp : 0 < 2 ^ (e - E).toNat := Nat.pow_pos (by omega)
    have h2 := Nat.pow_le_pow_right (show 0 < 2 by omega) (show n + (e - E).toNat ≤ bitLen T - 1 by omega)
    have h3 : 2 ^ n ≤ T / 2 ^ (e - E).toNat := by
      rw [Nat.le_div_iff_mul_le hp, ← Nat.pow_add]
      omega
    omega
theorem low_hi (m : Int) (neg : Bool) (T : Nat) (E : Int) : toQ m neg T E (lowE T E) ≤ 9007199254740992 := by
  refine toQ_le (n := 53) ?_
  unfold lowE lgN
  split <;> omega
theorem low_lo {m : Int} {neg : Bool} {T : Nat} {E : Int} (hT : T ≠ 0) (h : -1074 ≤ lgN T E - 52) : 4503599627370496 ≤ toQ m neg T E (lowE T E) := by
  refine toQ_ge (n := 52) hT ?_
  unfold lowE lgN at *
  split <;> omega
/-! ### order -/
theorem lowE_ge (T : Nat) (E : Int) : -1074 ≤ lowE T E := by unfold lowE; split <;> omega
theorem p0_nonneg (m : Int) (neg : Bool) (T : Nat) (E : Int) : 0 ≤ p0 m neg T E := by
  have := lowE_ge T E
  unfold p0
  omega
theorem bey_or (m : Int) (neg : Bool) : bey m neg = 9218868437227405312 ∨ bey m neg = 9218868437227405311 := by unfold bey; split <;> simp
theorem rnP_bd (m : Int) (neg : Bool) (T : Nat) (E : Int) : 0 ≤ rnP m neg T E ∧ rnP m neg T E ≤ 9218868437227405312 := by
  have h := p0_nonneg m neg T E
  have hb := bey_or m neg
  unfold rnP
  split
  · omega
  · split <;> omega
/-! ### between -/
/-! ### a pattern's own number -/
end Go.Rn
namespace Go.Wd
open Go.Rn
/-- a number of four words, as a whole number -/
def W4.nat (x : W4) : Nat := x.val.toNat
theorem W4.nat_val {x : W4} (h : x.ok) : x.val = (x.nat : Int) := by
  have := (W4.val_bd h).1
  unfold W4.nat
  omega
theorem W4.nat_lt {x : W4} (h : x.ok) : x.nat < 2 ^ 256 := by
  have := W4.val_bd h
  have e : (2 : Nat) ^ 256 = 115792089237316195423570985008687907853269984665640564039457584007913129639936 := rfl
  unfold W4.nat
  omega
def ofN (n : Nat) : W4 := W4.of (n : Int)
theorem ofN_ok (n : Nat) : (ofN n).ok := W4.ok_of _
theorem ofN_nat {n : Nat} (h : n < 2 ^ 256) : (ofN n).nat = n := by
  have e : (2 : Nat) ^ 256 = 115792089237316195423570985008687907853269984665640564039457584007913129639936 := rfl
  unfold W4.nat ofN
  rw [W4.val_of]
  omega
theorem ofN_self {x : W4} (h : x.ok) : ofN x.nat = x := by
  unfold ofN
  rw [← W4.nat_val h, W4.of_val h]
theorem of_mod (n : Int) : W4.of (n % 115792089237316195423570985008687907853269984665640564039457584007913129639936) = W4.of n := by
  unfold W4.of
  refine W4.ext' ?_ ?_ ?_ ?_ <;> dsimp only <;> omega
theorem ofN_mod (n : Nat) : ofN (n % 2 ^ 256) = ofN n := by
  have e : (2 : Nat) ^ 256 = 115792089237316195423570985008687907853269984665640564039457584007913129639936 := rfl
  unfold ofN
  rw [← of_mod (n : Int), e]
  congr 1
theorem ofN_zero : ofN 0 = ⟨0, 0, 0, 0⟩ := by rfl
theorem ofN_big {n k : Nat} (h : 256 ≤ k) : ofN (n * 2 ^ k) = ⟨0, 0, 0, 0⟩ := by
  rw [← ofN_mod]
  have : n * 2 ^ k % 2 ^ 256 = 0 := by
    obtain ⟨j, rfl⟩ : ∃ j, k = j + 256 := ⟨k - 256, by omega⟩
    rw [Nat.pow_add, ← Nat.mul_assoc, Nat.mul_mod_left]
  rw [this, ofN_zero]
theorem ofN_mul_mod (n k : Nat) : ofN (n % 2 ^ 256 * k) = ofN (n * k) := by
  rw [← ofN_mod (n % 2 ^ 256 * k), ← ofN_mod (n * k), Nat.mod_mul_mod]
theorem small_div {n k : Nat} (h : n < 2 ^ 256) (hk : 256 ≤ k) : n / 2 ^ k = 0 := by
  have := Nat.pow_le_pow_right (show 0 < 2 by omega) hk
  exact Nat.div_eq_of_lt (by omega)
theorem small_mod {n k : Nat} (h : n < 2 ^ 256) (hk : 256 ≤ k) : n % 2 ^ k = n := by
  have := Nat.pow_le_pow_right (show 0 < 2 by omega) hk
  exact Nat.mod_eq_of_lt (by omega)
theorem cast_pow (k : Nat) : ((2 : Int) ^ k) = ((2 ^ k : Nat) : Int) := by simp
/-- the size: a half more, if so -/
def tw (x : W4) (b : Bool) : Nat := 2 * x.nat + (match b with | true => 1 | false => 0)
theorem tw_div (x : W4) (b : Bool) (d : Nat) : tw x b / 2 ^ (d + 1) = x.nat / 2 ^ d := by
  unfold tw
  rw [Nat.pow_succ, Nat.mul_comm (2 ^ d) 2, ← Nat.div_div_eq_div_mul]
  congr 1
  cases b <;> simp only <;> omega
theorem tw_mod (x : W4) (b : Bool) (d : Nat) : tw x b % 2 ^ (d + 1) = 2 * (x.nat % 2 ^ d) + (match b with | true => 1 | false => 0) := by
  unfold tw
  rw [Nat.pow_succ, Nat.mul_comm (2 ^ d) 2, Nat.mod_mul]
  have e : (2 * x.nat + (match b with | true => 1 | false => 0)) / 2 = x.nat := by cases b <;> simp only <;> omega
  rw [e]
  cases b <;> simp only <;> omega
theorem tw_zero {x : W4} {b : Bool} (h : x.ok) : tw x b = 0 ↔ (eqW x ⟨0, 0, 0, 0⟩ && !b) = true := by
  have e : x.nat = 0 ↔ x = ⟨0, 0, 0, 0⟩ := by
    constructor
    · intro h0
      rw [← ofN_self h, h0, ofN_zero]
    · intro h0; rw [h0]; rfl
  rw [Bool.and_eq_true, eqW_iff, ← e]
  unfold tw
  cases b <;> simp <;> omega
/-- what is beyond, by bits: d: one bit fewer than the multiple has -/
theorem rc_none {x : W4} {d : Nat} (h : x.nat % 2 ^ d = 0) : restC (tw x false % 2 ^ (d + 1)) (2 ^ (d + 1)) = 0 := by
  rw [tw_mod, h]
  simp [restC]
theorem rc_zero {x : W4} : restC (tw x true % 2 ^ (0 + 1)) (2 ^ (0 + 1)) = 2 := by
  rw [tw_mod]
  simp [restC, Nat.mod_one]
theorem mod_bit (V j : Nat) : V % 2 ^ (j + 1) = V % 2 ^ j + 2 ^ j * (V / 2 ^ j % 2) := by rw [Nat.pow_succ, Nat.mod_mul]
theorem rc_below {x : W4} {b : Bool} {j : Nat} (h : x.nat / 2 ^ j % 2 = 0) (h0 : x.nat % 2 ^ (j + 1) ≠ 0 ∨ b = true) : restC (tw x b % 2 ^ (j + 1 + 1)) (2 ^ (j + 1 + 1)) = 1 := by
  have hp : 0 < 2 ^ j := Nat.pow_pos (by omega)
  have hm := mod_bit x.nat j
  rw [h, Nat.mul_zero, Nat.add_zero] at hm
  have hl := Nat.mod_lt x.nat hp
  rw [hm] at h0
  rw [tw_mod, hm, Nat.pow_succ, Nat.pow_succ]
  unfold restC
  cases b
  · simp only [Bool.false_eq_true, or_false] at *
    rw [if_neg (by omega), if_pos (by omega)]
  · simp only
    rw [if_neg (by omega), if_pos (by omega)]
theorem rc_above {x : W4} {b : Bool} {j : Nat} (h : x.nat / 2 ^ j % 2 = 1) (h0 : x.nat % 2 ^ j ≠ 0 ∨ b = true) : restC (tw x b % 2 ^ (j + 1 + 1)) (2 ^ (j + 1 + 1)) = 3 := by
  have hp : 0 < 2 ^ j := Nat.pow_pos (by omega)
  have hm := mod_bit x.nat j
  rw [h, Nat.mul_one] at hm
  rw [tw_mod, hm, Nat.pow_succ, Nat.pow_succ]
  unfold restC
  cases b
  · simp only [Bool.false_eq_true, or_false] at *
    rw [if_neg (by omega), if_neg (by omega), if_neg (by omega)]
  · simp only
    rw [if_neg (by omega), if_neg (by omega), if_neg (by omega)]
theorem rc_half {x : W4} {j : Nat} (h : x.nat / 2 ^ j % 2 = 1) (h0 : x.nat % 2 ^ j = 0) : restC (tw x false % 2 ^ (j + 1 + 1)) (2 ^ (j + 1 + 1)) = 2 := by
  have hp : 0 < 2 ^ j := Nat.pow_pos (by omega)
  have hm := mod_bit x.nat j
  rw [h, h0, Nat.mul_one] at hm
  rw [tw_mod, hm, Nat.pow_succ, Nat.pow_succ]
  unfold restC
  simp only
  rw [if_neg (by omega), if_neg (by omega), if_pos (by omega)]
/-- all below the first bit is nothing: then the number is told by what is above it -/
theorem back_iff {x : W4} (hx : x.ok) {j : Nat} (h : x.nat / 2 ^ j % 2 = 1) : eqW x (ofN ((2 * (x.nat / 2 ^ (j + 1)) + 1) * 2 ^ j)) = decide (x.nat % 2 ^ j = 0) := by
  have hl := W4.nat_lt hx
  have hm := mod_bit x.nat j
  rw [h, Nat.mul_one] at hm
  have hd := Nat.div_add_mod x.nat (2 ^ (j + 1))
  have e : (2 * (x.nat / 2 ^ (j + 1)) + 1) * 2 ^ j = x.nat - x.nat % 2 ^ j := by
    rw [Nat.pow_succ] at hd hm ⊢
    rw [Nat.add_mul, Nat.one_mul, Nat.mul_comm 2, Nat.mul_assoc, Nat.mul_comm 2, Nat.mul_comm]
    omega
  rw [e, Bool.eq_iff_iff, eqW_iff, decide_eq_true_eq]
  have hle : x.nat % 2 ^ j ≤ x.nat := Nat.mod_le _ _
  constructor
  · intro hh
    have := congrArg W4.nat hh
    rw [ofN_nat (by omega)] at this
    omega
  · intro hh
    rw [hh, Nat.sub_zero, ofN_self hx]
end Go.Wd
