/-
  What is known of calls, for rests and whole numbers; whole.cut, as a call in every world.
-/
import Derived.Test.YtbcpnpchioncbaaG20
import Derived.Test.YtbcpnpchioncbaaG30
import Derived.Test.YtbcpnpchioncbaaG31
import Derived.Test.YtbcpnpchioncbaaG33
namespace Go.Proofs.Ytbcpnpchioncbaa
open Go.KRun Go.Wd Go.Pt Go.Rn
set_option maxRecDepth 100000

def conW0 : Con := alt 39 (g1n (plain1n shlV4)) (alt 67 gQR (alt 68 (g1n (plain1n bitV4)) (alt 41 (g2 (plain2 cmpV4)) (alt 42 (g2 (plain2 subV4)) conG0))))
theorem conW0_ok : ConOk conW0 := alt_ok Try.func39 rfl (plain1n_ok shl_calls) (alt_ok Try.func67 rfl gQR_ok (alt_ok Try.func68 rfl (plain1n_ok bit_calls) (alt_ok Try.func41 rfl (plain2_ok cmp_calls) (alt_ok Try.func42 rfl (plain2_ok sub_calls) conG0_ok))))
theorem cu_t (x y : W4) : Fits (reckon (tabOf Try.prog extY conW0 true) 300 40 [vW x, vW y] [cmp true]) (.tuple #[vW (W4.of (x.val % y.val)), .bool true]) [(bitI (W4.of (x.val / y.val)) 0 != 0, true), (decide ((W4.of (x.val / y.val)).ok ∧ -9223372036854775808 ≤ (0 : Int) ∧ (0 : Int) ≤ 9223372036854775807), true), (decide (x.ok ∧ y.ok ∧ y.val ≠ 0), true)] := ⟨by kernel_rfl, by kernel_rfl, by kernel_rfl, by kernel_rfl⟩
theorem cu_f (x y : W4) : Fits (reckon (tabOf Try.prog extY conW0 true) 300 40 [vW x, vW y] [cmp false]) (.tuple #[vW (W4.of (x.val % y.val)), .bool false]) [(bitI (W4.of (x.val / y.val)) 0 != 0, false), (decide ((W4.of (x.val / y.val)).ok ∧ -9223372036854775808 ≤ (0 : Int) ∧ (0 : Int) ≤ 9223372036854775807), true), (decide (x.ok ∧ y.ok ∧ y.val ≠ 0), true)] := ⟨by kernel_rfl, by kernel_rfl, by kernel_rfl, by kernel_rfl⟩
def gCt : Ans := fun vals s =>
  match vals with
  | [x, y] =>
    match w4 x, w4 y, s with
    | some a, some b, .inr (.inr (.inr (.inl d))) :: s' => some (.tuple #[vW (W4.of (a.val % b.val)), .bool d], s', [(decide (a.val / b.val % 2 = 1), d), nz2 a b])
    | _, _, _ => none
  | _ => none
theorem bit0 {x : W4} (hx : x.ok) : (bitI x 0 != 0) = decide (x.val % 2 = 1) := by
  have h := W4.val_bd hx
  unfold bitI
  rw [if_neg (by omega), if_neg (by omega)]
  simp only [Int.toNat_zero, Int.pow_zero, Int.ediv_one]
  by_cases h1 : x.val % 2 = 1
  · rw [h1]; rfl
  · rw [show x.val % 2 = 0 by omega]; rfl
theorem gCt_ok : AnsOk 40 gCt := by
  intro vals s v s' lg h hl w
  unfold gCt at h
  split at h
  · split at h
    · rename_i a b d s2 ha hb
      cases h
      have l1 := hl _ List.mem_cons_self
      have l2 := hl _ (List.mem_cons_of_mem _ (List.mem_singleton.2 rfl))
      have k2 := l2
      simp only [nz2, decide_eq_true_eq] at k2
      obtain ⟨oa, ob, hz⟩ := k2
      have ba := W4.val_bd oa
      have bb := W4.val_bd ob
      have hq : (W4.of (a.val / b.val)).val = a.val / b.val := by
        have h0 : 0 ≤ a.val / b.val := Int.ediv_nonneg ba.1 bb.1
        have h1 : a.val / b.val ≤ a.val := Int.ediv_le_self _ ba.1
        rw [W4.val_of, Int.emod_eq_of_lt h0 (by omega)]
      have e := bit0 (W4.ok_of (a.val / b.val))
      rw [hq] at e
      rw [w4_spec ha, w4_spec hb]
      have k0 : decide ((W4.of (a.val / b.val)).ok ∧ -9223372036854775808 ≤ (0 : Int) ∧ (0 : Int) ≤ 9223372036854775807) = true := decide_eq_true ⟨W4.ok_of _, by omega, by omega⟩
      cases d with
      | true => exact fits_calls (tabY_ok conW0_ok) (cu_t a b) (okCons (e.trans l1) (okCons k0 (okL1 l2))) (by rfl) (by rfl) w
      | false => exact fits_calls (tabY_ok conW0_ok) (cu_f a b) (okCons (e.trans l1) (okCons k0 (okL1 l2))) (by rfl) (by rfl) w
    · cases h
  · cases h
def conW1 : Con := alt 40 gCt conW0
theorem conW1_ok : ConOk conW1 := alt_ok Try.func40 rfl gCt_ok conW0_ok
/-! ### whole.part, its pieces -/
def pC (F : Func) : Nat → Code
  | 0 => cBody F
  | n + 1 => cSnd (pC F n)
def pPre (F : Func) : List Code := [cFst (pC F 0), cFst (pC F 1), cFst (pC F 2), cFst (pC F 3), cFst (pC F 4), cFst (pC F 5)]
def pR6 (F : Func) : Code := cFst (cFst (pC F 6))
def pLoop (F : Func) : Code := cIn (cIn (cSnd (cFst (pC F 6))))
def pEnd (F : Func) : Code := pC F 7
theorem pa_body : Try.f18.body = some (seqs (pPre Try.f18) (.seq (.seq (pR6 Try.f18) (.block 0 (.loop (pLoop Try.f18)))) (pEnd Try.f18))) := by kernel_rfl
end Go.Proofs.Ytbcpnpchioncbaa

/-
  whole.part, as a call in every world: the rest of a quotient that is cut, found piece by piece, and whether the quotient is odd.
-/
namespace Go.Proofs.Ytbcpnpchioncbaa
open Go.KRun Go.Wd Go.Pt Go.Rn
set_option maxRecDepth 100000

def mn (x y : Int) : Int := if y < x then y else x
def paE (a b : Int) : Int := mn (xp a) (xp b)
def paS (a b : Int) : Int := mn (IntKind.i64.wrap (xp b - paE a b)) 64
def paBy (a b : Int) : W4 := shlW (wSg b) (paS a b)
def bWd (x : W4) : List Value × TypeId := ([.int .u64 x.a, .int .u64 x.b, .int .u64 x.c, .int .u64 x.d], 42)
def bNu (p : Int) : List Value × TypeId := ([.bool (sgn p), .int .i64 (xp p), .int .u64 (sg p), .int .u64 0, .int .u64 0, .int .u64 0, .bool false], 44)
def pzL (n : Bool) (e : Int) (r y : W4) (o : Bool) : List Value := [.bool n, .int .i64 e, .int .u64 r.a, .int .u64 r.b, .int .u64 r.c, .int .u64 r.d, .bool false, .int .u64 y.a, .int .u64 y.b, .int .u64 y.c, .int .u64 y.d, .bool o]
def w0 : W4 := ⟨0, 0, 0, 0⟩
def hPa (a b : Int) (y r : W4) (z : List Value) : Hp := ⟨5, [bWd r, bWd y, bNu b, bNu a, (z, 46)]⟩
def fPa (a b e : Int) (d : Bool) (l : Int) : List Value := [.int .u64 a, .int .u64 b, undef, undef, .pointer (some ⟨0, 0, none⟩), .pointer (some ⟨1, 0, none⟩), .nilIface, .pointer (some ⟨2, 0, none⟩), .nilIface, .int .i64 e, .pointer (some ⟨3, 0, none⟩), .pointer (some ⟨4, 0, none⟩), .bool d, .int .i64 l]
def lC2 (x y : W4) (d : Bool) : Bool × Bool := (decide (x.val / y.val % 2 = 1), d)
def fP0 (a b e : Int) (d : Bool) : List Value := [.int .u64 a, .int .u64 b, undef, undef, .pointer (some ⟨0, 0, none⟩), .pointer (some ⟨1, 0, none⟩), .nilIface, .pointer (some ⟨2, 0, none⟩), .nilIface, .int .i64 e, .pointer (some ⟨3, 0, none⟩), .pointer (some ⟨4, 0, none⟩), .bool d]
theorem pa_pre (a b : Int) (d : Bool) : GoesT (evL (tabOf Try.prog extY conW1 true) 300 (pPre Try.f18) ([.int .u64 a, .int .u64 b] ++ List.replicate 67 undef, ⟨0, []⟩, [cmp true, cmp true, cmp d]) ⟨[], [], []⟩) 13 56 none (fP0 a b (paE a b) d) (hPa a b (paBy a b) (W4.of ((wSg a).val % (paBy a b).val)) (pzL false 0 w0 w0 false)) [lC2 (wSg a) (paBy a b) d, nz2 (wSg a) (paBy a b), lk (wSg b) (paS a b), (decide (U b), true), (decide (cl b ≤ 2), true), (decide (U b), true), (decide (U a), true), (decide (cl a ≤ 2), true), (decide (U a), true)] := ⟨by kernel_rfl, by kernel_rfl, by kernel_rfl⟩
theorem pa_r6 (a b e : Int) (d : Bool) (y r : W4) (z : List Value) (g : Nat → Value) : GoesT (evC (tabOf Try.prog extY conW1 true) 300 false (pR6 Try.f18) (fP0 a b e d ++ tl 56 g, hPa a b y r z, []) ⟨[], [], []⟩) 14 55 none (fPa a b e d (IntKind.i64.wrap (xp a - e))) (hPa a b y r z) [] := ⟨by kernel_rfl, by kernel_rfl, by kernel_rfl⟩
def rdW (r y : W4) (l : Int) : W4 := W4.of ((shlW r (mn l 192)).val % y.val)
theorem pa_rd (a b e l : Int) (c d : Bool) (y r : W4) (z : List Value) (g : Nat → Value) : GoesT (evC (tabOf Try.prog extY conW1 true) 300 false (pLoop Try.f18) (fPa a b e c l ++ tl 55 g, hPa a b y r z, [cmp true, cmp d]) ⟨[], [], []⟩) 14 55 none (fPa a b e d (IntKind.i64.wrap (l - 192))) (hPa a b y (rdW r y l) z) [lC2 (shlW r (mn l 192)) y d, nz2 (shlW r (mn l 192)) y, lk r (mn l 192), (decide (l > 0), true)] := ⟨by kernel_rfl, by kernel_rfl, by kernel_rfl⟩
theorem pa_out (a b e l : Int) (c : Bool) (y r : W4) (z : List Value) (g : Nat → Value) : GoesT (evC (tabOf Try.prog extY conW1 true) 300 false (pLoop Try.f18) (fPa a b e c l ++ tl 55 g, hPa a b y r z, [cmp false]) ⟨[], [], []⟩) 14 55 (some (some 0)) (fPa a b e c l) (hPa a b y r z) [(decide (l > 0), false)] := ⟨by kernel_rfl, by kernel_rfl, by kernel_rfl⟩
theorem pa_end (a b e l : Int) (c : Bool) (y r : W4) (g : Nat → Value) : GoesT (evC (tabOf Try.prog extY conW1 true) 300 false (pEnd Try.f18) (fPa a b e c l ++ tl 55 g, hPa a b y r (pzL false 0 w0 w0 false), []) ⟨[], [], []⟩) 5 64 (some none) [.int .u64 a, .int .u64 b, undef, undef, .pointer (some ⟨0, 0, none⟩)] (hPa a b y r (pzL (sgn a) e r y c)) [] := ⟨by kernel_rfl, by kernel_rfl, by kernel_rfl⟩
end Go.Proofs.Ytbcpnpchioncbaa
