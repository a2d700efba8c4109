/-
  What is known of calls, for rests and whole numbers; whole.cut, as a call in every world.
-/
import Derived.Test.YtbcpnpchioncbaaG30
import Derived.Test.YtbcpnpchioncbaaG39
import Derived.Test.YtbcpnpchioncbaaG32
namespace Go.Proofs.Ytbcpnpchioncbaa
open Go.KRun Go.Wd Go.Pt Go.Rn
set_option maxRecDepth 100000

def conW0 : Con := alt 39 (g1n (plain1n shlV4)) (alt 67 gQR (alt 68 (g1n (plain1n bitV4)) (alt 41 (g2 (plain2 cmpV4)) (alt 42 (g2 (plain2 subV4)) conG0))))
theorem conW0_ok : ConOk conW0 := alt_ok Try.func39 rfl (plain1n_ok shl_calls) (alt_ok Try.func67 rfl gQR_ok (alt_ok Try.func68 rfl (plain1n_ok bit_calls) (alt_ok Try.func41 rfl (plain2_ok cmp_calls) (alt_ok Try.func42 rfl (plain2_ok sub_calls) conG0_ok))))
theorem cu_t (x y : W4) : Fits (reckon (tabOf Try.prog extY conW0 true) 300 40 [vW x, vW y] [cmp true]) (.tuple #[vW (W4.of (x.val % y.val)), .bool true]) [(bitI (W4.of (x.val / y.val)) 0 != 0, true), (decide ((W4.of (x.val / y.val)).ok ∧ -9223372036854775808 ≤ (0 : Int) ∧ (0 : Int) ≤ 9223372036854775807), true), (decide (x.ok ∧ y.ok ∧ y.val ≠ 0), true)] := ⟨by kernel_rfl, by kernel_rfl, by kernel_rfl, by kernel_rfl⟩
theorem cu_f (x y : W4) : Fits (reckon (tabOf Try.prog extY conW0 true) 300 40 [vW x, vW y] [cmp false]) (.tuple #[vW (W4.of (x.val % y.val)), .bool false]) [(bitI (W4.of (x.val / y.val)) 0 != 0, false), (decide ((W4.of (x.val / y.val)).ok ∧ -9223372036854775808 ≤ (0 : Int) ∧ (0 : Int) ≤ 9223372036854775807), true), (decide (x.ok ∧ y.ok ∧ y.val ≠ 0), true)] := ⟨by kernel_rfl, by kernel_rfl, by kernel_rfl, by kernel_rfl⟩
def gCt : Ans := fun vals s =>
  match vals with
  | [x, y] =>
    match w4 x, w4 y, s with
    | some a, some b, .inr (.inr (.inr (.inl d))) :: s' => some (.tuple #[vW (W4.of (a.val % b.val)), .bool d], s', [(decide (a.val / b.val % 2 = 1), d), nz2 a b])
    | _, _, _ => none
  | _ => none
theorem bit0 {x : W4} (hx : x.ok) : (bitI x 0 != 0) = decide (x.val % 2 = 1) := by
  have h := W4.val_bd hx
  unfold bitI
  rw [if_neg (by omega), if_neg (by omega)]
  simp only [Int.toNat_zero, Int.pow_zero, Int.ediv_one]
  by_cases h1 : x.val % 2 = 1
  · rw [h1]; rfl
  · rw [show x.val % 2 = 0 by omega]; rfl
theorem gCt_ok : AnsOk 40 gCt := by
  intro vals s v s' lg h hl w
  unfold gCt at h
  split at h
  · split at h
    · rename_i a b d s2 ha hb
      cases h
      have l1 := hl _ List.mem_cons_self
      have l2 := hl _ (List.mem_cons_of_mem _ (List.mem_singleton.2 rfl))
      have k2 := l2
      simp only [nz2, decide_eq_true_eq] at k2
      obtain ⟨oa, ob, hz⟩ := k2
      have ba := W4.val_bd oa
      have bb := W4.val_bd ob
      have hq : (W4.of (a.val / b.val)).val = a.val / b.val := by
        have h0 : 0 ≤ a.val / b.val := Int.ediv_nonneg ba.1 bb.1
        have h1 : a.val / b.val ≤ a.val := Int.ediv_le_self _ ba.1
        rw [W4.val_of, Int.emod_eq_of_lt h0 (by omega)]
      have e := bit0 (W4.ok_of (a.val / b.val))
      rw [hq] at e
      rw [w4_spec ha, w4_spec hb]
      have k0 : decide ((W4.of (a.val / b.val)).ok ∧ -9223372036854775808 ≤ (0 : Int) ∧ (0 : Int) ≤ 9223372036854775807) = true := decide_eq_true ⟨W4.ok_of _, by omega, by omega⟩
      cases d with
      | true => exact fits_calls (tabY_ok conW0_ok) (cu_t a b) (okCons (e.trans l1) (okCons k0 (okL1 l2))) (by rfl) (by rfl) w
      | false => exact fits_calls (tabY_ok conW0_ok) (cu_f a b) (okCons (e.trans l1) (okCons k0 (okL1 l2))) (by rfl) (by rfl) w
    · cases h
  · cases h
def conW1 : Con := alt 40 gCt conW0
theorem conW1_ok : ConOk conW1 := alt_ok Try.func40 rfl gCt_ok conW0_ok
/-! ### whole.part, its pieces -/
def pC (F : Func) : Nat → Code
  | 0 => cBody F
  | n + 1 => cSnd (pC F n)
def pPre (F : Func) : List Code := [cFst (pC F 0), cFst (pC F 1), cFst (pC F 2), cFst (pC F 3), cFst (pC F 4), cFst (pC F 5)]
def pR6 (F : Func) : Code := cFst (cFst (pC F 6))
def pLoop (F : Func) : Code := cIn (cIn (cSnd (cFst (pC F 6))))
def pEnd (F : Func) : Code := pC F 7
theorem wp_body : Try.f18.body = some (seqs (pPre Try.f18) (.seq (.seq (pR6 Try.f18) (.block 0 (.loop (pLoop Try.f18)))) (pEnd Try.f18))) := by kernel_rfl
end Go.Proofs.Ytbcpnpchioncbaa

/-
  whole.part, as a call in every world: the rest of a quotient that is cut, found piece by piece, and whether the quotient is odd.
-/
namespace Go.Proofs.Ytbcpnpchioncbaa
open Go.KRun Go.Wd Go.Pt Go.Rn
set_option maxRecDepth 100000

def mn (x y : Int) : Int := if y < x then y else x
def wpE (a b : Int) : Int := mn (xp a) (xp b)
def wpS (a b : Int) : Int := mn (IntKind.i64.wrap (xp b - wpE a b)) 64
def paBy (a b : Int) : W4 := shlW (wSg b) (wpS a b)
def bWd (x : W4) : List Value × TypeId := ([.int .u64 x.a, .int .u64 x.b, .int .u64 x.c, .int .u64 x.d], 42)
def bNu (p : Int) : List Value × TypeId := ([.bool (sgn p), .int .i64 (xp p), .int .u64 (sg p), .int .u64 0, .int .u64 0, .int .u64 0, .bool false], 44)
def pzL (n : Bool) (e : Int) (r y : W4) (o : Bool) : List Value := [.bool n, .int .i64 e, .int .u64 r.a, .int .u64 r.b, .int .u64 r.c, .int .u64 r.d, .bool false, .int .u64 y.a, .int .u64 y.b, .int .u64 y.c, .int .u64 y.d, .bool o]
def w0 : W4 := ⟨0, 0, 0, 0⟩
def hPa (a b : Int) (y r : W4) (z : List Value) : Hp := ⟨5, [bWd r, bWd y, bNu b, bNu a, (z, 46)]⟩
def fPa (a b e : Int) (d : Bool) (l : Int) : List Value := [.int .u64 a, .int .u64 b, undef, undef, .pointer (some ⟨0, 0, none⟩), .pointer (some ⟨1, 0, none⟩), .nilIface, .pointer (some ⟨2, 0, none⟩), .nilIface, .int .i64 e, .pointer (some ⟨3, 0, none⟩), .pointer (some ⟨4, 0, none⟩), .bool d, .int .i64 l]
def lC2 (x y : W4) (d : Bool) : Bool × Bool := (decide (x.val / y.val % 2 = 1), d)
def fP0 (a b e : Int) (d : Bool) : List Value := [.int .u64 a, .int .u64 b, undef, undef, .pointer (some ⟨0, 0, none⟩), .pointer (some ⟨1, 0, none⟩), .nilIface, .pointer (some ⟨2, 0, none⟩), .nilIface, .int .i64 e, .pointer (some ⟨3, 0, none⟩), .pointer (some ⟨4, 0, none⟩), .bool d]
theorem wp_pre (a b : Int) (d : Bool) : GoesT (evL (tabOf Try.prog extY conW1 true) 300 (pPre Try.f18) ([.int .u64 a, .int .u64 b] ++ List.replicate 67 undef, ⟨0, []⟩, [cmp true, cmp true, cmp d]) ⟨[], [], []⟩) 13 56 none (fP0 a b (wpE a b) d) (hPa a b (paBy a b) (W4.of ((wSg a).val % (paBy a b).val)) (pzL false 0 w0 w0 false)) [lC2 (wSg a) (paBy a b) d, nz2 (wSg a) (paBy a b), lk (wSg b) (wpS a b), (decide (U b), true), (decide (cl b ≤ 2), true), (decide (U b), true), (decide (U a), true), (decide (cl a ≤ 2), true), (decide (U a), true)] := ⟨by kernel_rfl, by kernel_rfl, by kernel_rfl⟩
theorem wp_r6 (a b e : Int) (d : Bool) (y r : W4) (z : List Value) (g : Nat → Value) : GoesT (evC (tabOf Try.prog extY conW1 true) 300 false (pR6 Try.f18) (fP0 a b e d ++ tl 56 g, hPa a b y r z, []) ⟨[], [], []⟩) 14 55 none (fPa a b e d (IntKind.i64.wrap (xp a - e))) (hPa a b y r z) [] := ⟨by kernel_rfl, by kernel_rfl, by kernel_rfl⟩
def rdW (r y : W4) (l : Int) : W4 := W4.of ((shlW r (mn l 192)).val % y.val)
theorem wp_rd (a b e l : Int) (c d : Bool) (y r : W4) (z : List Value) (g : Nat → Value) : GoesT (evC (tabOf Try.prog extY conW1 true) 300 false (pLoop Try.f18) (fPa a b e c l ++ tl 55 g, hPa a b y r z, [cmp true, cmp d]) ⟨[], [], []⟩) 14 55 none (fPa a b e d (IntKind.i64.wrap (l - 192))) (hPa a b y (rdW r y l) z) [lC2 (shlW r (mn l 192)) y d, nz2 (shlW r (mn l 192)) y, lk r (mn l 192), (decide (l > 0), true)] := ⟨by kernel_rfl, by kernel_rfl, by kernel_rfl⟩
theorem wp_out (a b e l : Int) (c : Bool) (y r : W4) (z : List Value) (g : Nat → Value) : GoesT (evC (tabOf Try.prog extY conW1 true) 300 false (pLoop Try.f18) (fPa a b e c l ++ tl 55 g, hPa a b y r z, [cmp false]) ⟨[], [], []⟩) 14 55 (some (some 0)) (fPa a b e c l) (hPa a b y r z) [(decide (l > 0), false)] := ⟨by kernel_rfl, by kernel_rfl, by kernel_rfl⟩
theorem wp_end (a b e l : Int) (c : Bool) (y r : W4) (g : Nat → Value) : GoesT (evC (tabOf Try.prog extY conW1 true) 300 false (pEnd Try.f18) (fPa a b e c l ++ tl 55 g, hPa a b y r (pzL false 0 w0 w0 false), []) ⟨[], [], []⟩) 5 64 (some none) [.int .u64 a, .int .u64 b, undef, undef, .pointer (some ⟨0, 0, none⟩)] (hPa a b y r (pzL (sgn a) e r y c)) [] := ⟨by kernel_rfl, by kernel_rfl, by kernel_rfl⟩
end Go.Proofs.Ytbcpnpchioncbaa

/-
  whole.part, as a call in every world: its loop.
-/
namespace Go.Proofs.Ytbcpnpchioncbaa
open Go.KRun Go.Wd Go.Pt Go.Rn
set_option maxRecDepth 100000

theorem wpE_eq (a b : Int) : wpE a b = wlE a b := by unfold wpE mn wlE; split <;> split <;> omega
theorem wpS_eq (a b : Int) : wpS a b = ((min (xp b - wlE a b).toNat 64 : Nat) : Int) := by
  obtain ⟨h0, h1, h2, h3, _⟩ := wlE_bd a b
  have xb := xp_bd b
  unfold wpS
  rw [wpE_eq, wrapI' ⟨by omega, by omega⟩]
  unfold mn
  split <;> omega
theorem shl_nat {x : W4} {X s : Nat} (hx : x.ok) (hX : x.val = (X : Int)) (hs : s < 256) (hb : X * 2 ^ s < 2 ^ 256) : (shlW x (s : Int)).ok ∧ (shlW x (s : Int)).val = ((X * 2 ^ s : Nat) : Int) := by
  unfold shlW
  by_cases h0 : (s : Int) < 1
  · rw [if_pos h0]
    have : s = 0 := by omega
    subst this
    exact ⟨hx, by rw [hX]; simp⟩
  · rw [if_neg h0, if_neg (by omega), Int.toNat_natCast]
    have e : x.val * 2 ^ s = ((X * 2 ^ s : Nat) : Int) := by rw [hX, Int.natCast_mul, ← cast_pow]
    have h2 : (2 : Nat) ^ 256 = 115792089237316195423570985008687907853269984665640564039457584007913129639936 := rfl
    rw [h2] at hb
    rw [e]
    exact ⟨W4.ok_of _, by rw [W4.val_of, Int.emod_eq_of_lt (by omega) (by omega)]⟩
theorem paBy_num (a b : Int) : (paBy a b).ok ∧ (paBy a b).val = (paV a b : Nat) := by
  have sb := sg_lt b
  have bd := (paV_bd a b).1
  unfold paBy
  rw [wpS_eq]
  exact shl_nat (X := (sg b).toNat) (wSg_ok b) (by rw [wSg_val]; omega) (Nat.lt_of_le_of_lt (Nat.min_le_right _ _) (by omega)) (Nat.lt_trans bd (by decide))
theorem of_nat (x : W4) (hx : x.ok) {X : Nat} (h : x.val = (X : Int)) : x = ofN X := by
  unfold ofN
  rw [← h, W4.of_val hx]
def paInv (a b : Int) (n : Nat) (x : Lf) : Prop := ∃ (k : Nat) (l : Int) (c : Bool) (r : W4) (g : Nat → Value), x.1 = fPa a b (wlE a b) c l ++ tl 55 g ∧ x.2.1 = hPa a b (paBy a b) r (pzL false 0 w0 w0 false) ∧ r.ok ∧ r.val = (((sg a).toNat * 2 ^ k % paV a b : Nat) : Int) ∧ c = decide ((sg a).toNat * 2 ^ k / paV a b % 2 = 1) ∧ ((k + l = paK a b ∧ 0 ≤ l) ∨ (k = paK a b ∧ l ≤ 0)) ∧ -192 ≤ l ∧ l ≤ 4000 ∧ n = l.toNat
def paOut (a b : Int) (x : Lf) : Prop := ∃ (l : Int) (g : Nat → Value), x.1 = fPa a b (wlE a b) (paO a b) l ++ tl 55 g ∧ x.2.1 = hPa a b (paBy a b) (ofN (rsM a b)) (pzL false 0 w0 w0 false)
theorem odd_int {x y : W4} {X Y : Nat} (hx : x.val = (X : Int)) (hy : y.val = (Y : Int)) : decide (x.val / y.val % 2 = 1) = decide (X / Y % 2 = 1) := by
  rw [hx, hy, ← Int.natCast_ediv]
  exact decide_eq_decide.2 (by omega)
theorem wp_loop {a b : Int} (hb : sg b ≠ 0) (n : Nat) (x : Lf) (h : paInv a b n x) : Runs (tabOf Try.prog extY conW1 true) (pLoop Try.f18) x fun e y => match e with | none => ∃ n', n' < n ∧ paInv a b n' y | some none => False | some (some id') => id' = 0 ∧ paOut a b y := by
  obtain ⟨k, l, c, r, g, e1, e2, hr, hv, hc, hk, hl1, hl2, hn⟩ := h
  obtain ⟨t, hh, s⟩ := x
  have e1 : t = _ := e1
  have e2 : hh = _ := e2
  subst e1 e2
  obtain ⟨oy, vy⟩ := paBy_num a b
  have pv := (paV_bd a b).2 hb
  have sb := sg_lt b
  by_cases h0 : l > 0
  · obtain ⟨_, v2, _⟩ := pa_small (a := a) (b := b) (by omega)
    obtain ⟨s, hs⟩ : ∃ s : Nat, s = min l.toNat 192 := ⟨_, rfl⟩
    have em : mn l 192 = (s : Int) := by unfold mn; split <;> omega
    have hp : 2 ^ s ≤ 2 ^ 192 := Nat.pow_le_pow_right (by omega) (by omega)
    have hlt := Nat.mod_lt ((sg a).toNat * 2 ^ k) pv
    have hb2 : (sg a).toNat * 2 ^ k % paV a b * 2 ^ s < 2 ^ 256 := by
      have := Nat.mul_le_mul (show (sg a).toNat * 2 ^ k % paV a b ≤ 9007199254740991 by omega) hp
      exact Nat.lt_of_le_of_lt this (by decide)
    obtain ⟨os, vs⟩ := shl_nat hr hv (s := s) (by omega) hb2
    have od := odd_int vs vy
    have ks : lk r (s : Int) = (decide (r.ok ∧ -9223372036854775808 ≤ (s : Int) ∧ (s : Int) ≤ 9223372036854775807), true) := rfl
    obtain ⟨d, hd⟩ : ∃ d, d = decide ((sg a).toNat * 2 ^ k % paV a b * 2 ^ s / paV a b % 2 = 1) := ⟨_, rfl⟩
    have G := wp_rd a b (wlE a b) l c d (paBy a b) r (pzL false 0 w0 w0 false) g
    rw [em] at G
    refine (goesT_runs (tabY_ok conW1_ok) G (okCons (od.trans hd.symm) (okCons (decide_eq_true ⟨os, oy, by rw [vy]; omega⟩) (okCons (decide_eq_true ⟨hr, by omega, by omega⟩) (okL1 (decide_eq_true h0)))))).mono fun e z he => ?_
    obtain ⟨rfl, ⟨g', z1⟩, z2⟩ := he
    have ew : IntKind.i64.wrap (l - 192) = l - 192 := wrapI' ⟨by omega, by omega⟩
    rw [ew] at z1
    have hvv : (rdW r (paBy a b) l).val = (((sg a).toNat * 2 ^ (k + s) % paV a b : Nat) : Int) := by
      unfold rdW
      have hm := Nat.mod_lt ((sg a).toNat * 2 ^ k % paV a b * 2 ^ s) pv
      have bd := (paV_bd a b).1
      have h117 : (2 : Nat) ^ 117 = 166153499473114484112975882535043072 := rfl
      rw [em, vs, vy, ← Int.natCast_emod, W4.val_of, Int.emod_eq_of_lt (by omega) (by omega), piece_mod]
    refine ⟨(l - 192).toNat, by omega, k + s, l - 192, d, rdW r (paBy a b) l, g', z1, z2, W4.ok_of _, hvv, ?_, ?_, by omega, by omega, rfl⟩
    · rw [hd]
      exact decide_eq_decide.2 (piece_odd pv (by omega))
    · rcases hk with ⟨k1, k2⟩ | ⟨k1, k2⟩ <;> omega
  · refine (goesT_runs (tabY_ok conW1_ok) (wp_out a b (wlE a b) l c (paBy a b) r (pzL false 0 w0 w0 false) g) (okL1 (decide_eq_false h0))).mono fun e z he => ?_
    obtain ⟨rfl, ⟨g', z1⟩, z2⟩ := he
    have hk' : k = paK a b := by omega
    obtain ⟨n1, n2⟩ := pa_num (a := a) hb
    rw [hk', n1] at hv
    have hc' : c = paO a b := by
      rw [hc, hk']
      exact decide_eq_decide.2 n2
    rw [hc'] at z1
    rw [of_nat r hr hv] at z2
    exact ⟨rfl, l, g', z1, z2⟩
/-- what part answers -/
def vPg (a b : Int) : Value := .agg (pzL (sgn a) (wlE a b) (ofN (rsM a b)) (ofN (paV a b)) (paO a b)).toArray
def okPg (a b : Int) : Bool := decide (cl a ≤ 2 ∧ cl b ≤ 2 ∧ cl b ≠ 0)
theorem part_calls8 (a b : Int) (ha : U a) (hb : U b) (h : okPg a b = true) (w : World) : Calls Try.prog 18 #[.int .u64 a, .int .u64 b] w fun r w' => r = .returned (vPg a b) ∧ Tidy w w' := by
  obtain ⟨ca, cb, cz⟩ := of_decide_eq_true h
  have ka : decide (U a) = true := decide_eq_true ha
  have kb : decide (U b) = true := decide_eq_true hb
  have nz : sg b ≠ 0 := fun h0 => cz ((sg_zero cb).1 h0)
  have sa := sg_lt a
  have sb := sg_lt b
  obtain ⟨oy, vy⟩ := paBy_num a b
  have pv := (paV_bd a b).2 nz
  obtain ⟨h0, h1, h2, h3, _⟩ := wlE_bd a b
  have xa := xp_bd a
  have ev : (wSg a).val = (((sg a).toNat : Nat) : Int) := by rw [wSg_val]; omega
  have od := odd_int ev vy
  obtain ⟨d, hd⟩ : ∃ d, d = decide ((sg a).toNat / paV a b % 2 = 1) := ⟨_, rfl⟩
  have ew : IntKind.i64.wrap (xp a - wpE a b) = paK a b := by
    rw [wpE_eq, wrapI' ⟨by omega, by omega⟩]
    unfold paK
    omega
  have bs := (paV_bd a b).1
  have h117 : (2 : Nat) ^ 117 = 166153499473114484112975882535043072 := rfl
  have eS := wpS_eq a b
  have hm := Nat.min_le_right (xp b - wlE a b).toNat 64
  have hl := Nat.mod_lt (sg a).toNat pv
  have r0 : (W4.of ((wSg a).val % (paBy a b).val)).val = (((sg a).toNat * 2 ^ 0 % paV a b : Nat) : Int) := by
    rw [ev, vy, ← Int.natCast_emod, W4.val_of, Int.emod_eq_of_lt (by omega) (by omega)]
    simp
  have hT := tabY_ok conW1_ok
  refine calls_of_runs (T := tabOf Try.prog extY conW1 true) Try.func18 wp_body (by rfl) (by rfl) ?_ w
  refine goesT_list hT (wp_pre a b d) (okCons (od.trans hd.symm) (okCons (decide_eq_true ⟨wSg_ok a, oy, by rw [vy]; omega⟩) (okCons (decide_eq_true ⟨wSg_ok b, by omega, by omega⟩) (okCons kb (okCons (decide_eq_true cb) (okCons kb (okCons ka (okCons (decide_eq_true ca) (okL1 ka))))))))) fun g => ?_
  refine Runs.seq (P1 := fun e y => e = none ∧ paOut a b y) ?_ ?_ (fun e y he => by cases he.1)
  · refine Runs.seq (goesT_runs hT (wp_r6 a b (wpE a b) d (paBy a b) _ _ g) okNil) ?_ (fun e y he => by cases he.1)
    intro y he
    obtain ⟨_, ⟨g', e1⟩, e2⟩ := he
    rw [ew, wpE_eq] at e1
    refine (Runs.forLoop (R := fun _ => False) (P := paOut a b) (paInv a b) (wp_loop nz) (n := (paK a b : Int).toNat) ⟨0, paK a b, d, _, g', e1, e2, W4.ok_of _, r0, ?_, .inl ⟨by simp, by omega⟩, by omega, by unfold paK; omega, rfl⟩).mono fun e z hz => ?_
    · rw [hd]; simp
    · match e, hz with
      | none, hz => exact ⟨rfl, hz⟩
  · intro y he
    obtain ⟨_, l, g', e1, e2⟩ := he
    obtain ⟨t, hh, s⟩ := y
    have e1 : t = _ := e1
    have e2 : hh = _ := e2
    subst e1 e2
    have ey := of_nat _ oy vy
    refine (goesT_runs hT (wp_end a b (wlE a b) l (paO a b) (paBy a b) (ofN (rsM a b)) g') okNil).mono fun e z hz => ?_
    obtain ⟨rfl, ⟨g2, z1⟩, z2⟩ := hz
    rw [ey] at z2
    exact ⟨.inr rfl, by rw [z1, z2]; rfl⟩
/-- whether the quotient is odd is told ahead -/
def gPg : Ans := fun vals s =>
  match vals, s with
  | [.int .u64 a, .int .u64 b], .inr (.inr (.inr (.inl d))) :: s' => some (.agg (pzL (sgn a) (wlE a b) (ofN (rsM a b)) (ofN (paV a b)) d).toArray, s', [(paO a b, d), (okPg a b, true), (decide (U a ∧ U b), true)])
  | _, _ => none
theorem gPg_ok : AnsOk 18 gPg := by
  intro vals s v s' lg h hl w
  unfold gPg at h
  split at h
  · cases h
    have e := hl _ (List.mem_cons_self)
    have e2 := hl _ (List.mem_cons_of_mem _ List.mem_cons_self)
    obtain ⟨h1, h2⟩ := of_decide_eq_true (hl _ (List.mem_cons_of_mem _ (List.mem_cons_of_mem _ (List.mem_singleton.2 rfl))))
    simp only at e
    rw [← e]
    exact part_calls8 _ _ h1 h2 e2 w
  · cases h
def conW2 : Con := alt 18 gPg (alt 41 (g2 cmpN) (alt 33 gWh conW1))
theorem conW2_ok : ConOk conW2 := alt_ok Try.func18 rfl gPg_ok (alt_ok Try.func41 rfl cmpN_ok (alt_ok Try.func33 rfl gWh_ok conW1_ok))
end Go.Proofs.Ytbcpnpchioncbaa
