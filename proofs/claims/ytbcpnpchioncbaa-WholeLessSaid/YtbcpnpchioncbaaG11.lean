/-
  Layer 4's helpers, as calls in every world: goesUp, halves, cut, next, nearer, log.
-/
import Derived.Test.YtbcpnpchioncbaaG08
import Derived.Test.YtbcpnpchioncbaaG10
namespace Go.Proofs.Ytbcpnpchioncbaa
open Go.KRun Go.Wd Go.Pt Go.Rn
set_option maxRecDepth 100000

/-! ### goesUp -/
theorem u0 (c m : Int) (o n : Bool) : Fits (reckon (tabOf Try.prog extY conN true) 300 72 [.int .i64 c, .bool o, .bool n, .int .i64 m] [cmp true]) (Value.bool false) [(c == 0, true)] := ⟨by kernel_rfl, by kernel_rfl, by kernel_rfl, by kernel_rfl⟩
theorem u2 (c m : Int) (o n : Bool) : Fits (reckon (tabOf Try.prog extY conN true) 300 72 [.int .i64 c, .bool o, .bool n, .int .i64 m] [cmp false, cmp true]) (Value.bool false) [(m == 2, true), (c == 0, false)] := ⟨by kernel_rfl, by kernel_rfl, by kernel_rfl, by kernel_rfl⟩
theorem u3 (c m : Int) (o n : Bool) : Fits (reckon (tabOf Try.prog extY conN true) 300 72 [.int .i64 c, .bool o, .bool n, .int .i64 m] [cmp false, cmp false, cmp true]) (Value.bool !n) [(m == 3, true), (m == 2, false), (c == 0, false)] := ⟨by kernel_rfl, by kernel_rfl, by kernel_rfl, by kernel_rfl⟩
theorem u4 (c m : Int) (o n : Bool) : Fits (reckon (tabOf Try.prog extY conN true) 300 72 [.int .i64 c, .bool o, .bool n, .int .i64 m] [cmp false, cmp false, cmp false, cmp true]) (Value.bool n) [(m == 4, true), (m == 3, false), (m == 2, false), (c == 0, false)] := ⟨by kernel_rfl, by kernel_rfl, by kernel_rfl, by kernel_rfl⟩
theorem u1 (c m : Int) (o n : Bool) : Fits (reckon (tabOf Try.prog extY conN true) 300 72 [.int .i64 c, .bool o, .bool n, .int .i64 m] [cmp false, cmp false, cmp false, cmp false, cmp true]) (Value.bool (decide (c ≥ 2))) [(m == 1, true), (m == 4, false), (m == 3, false), (m == 2, false), (c == 0, false)] := ⟨by kernel_rfl, by kernel_rfl, by kernel_rfl, by kernel_rfl⟩
theorem ua (c m : Int) (o n : Bool) : Fits (reckon (tabOf Try.prog extY conN true) 300 72 [.int .i64 c, .bool o, .bool n, .int .i64 m] [cmp false, cmp false, cmp false, cmp false, cmp false, cmp true]) (Value.bool true) [(decide (c > 2), true), (m == 1, false), (m == 4, false), (m == 3, false), (m == 2, false), (c == 0, false)] := ⟨by kernel_rfl, by kernel_rfl, by kernel_rfl, by kernel_rfl⟩
theorem ub (c m : Int) (o n : Bool) : Fits (reckon (tabOf Try.prog extY conN true) 300 72 [.int .i64 c, .bool o, .bool n, .int .i64 m] [cmp false, cmp false, cmp false, cmp false, cmp false, cmp false, cmp true]) (Value.bool o) [(c == 2, true), (decide (c > 2), false), (m == 1, false), (m == 4, false), (m == 3, false), (m == 2, false), (c == 0, false)] := ⟨by kernel_rfl, by kernel_rfl, by kernel_rfl, by kernel_rfl⟩
theorem uc (c m : Int) (o n : Bool) : Fits (reckon (tabOf Try.prog extY conN true) 300 72 [.int .i64 c, .bool o, .bool n, .int .i64 m] [cmp false, cmp false, cmp false, cmp false, cmp false, cmp false, cmp false]) (Value.bool false) [(c == 2, false), (decide (c > 2), false), (m == 1, false), (m == 4, false), (m == 3, false), (m == 2, false), (c == 0, false)] := ⟨by kernel_rfl, by kernel_rfl, by kernel_rfl, by kernel_rfl⟩
def gUp : Ans := fun vals s =>
  match vals with
  | [.int .i64 c, .bool o, .bool n, .int .i64 m] => some (.bool (upR m n o c), s, [])
  | _ => none
theorem up_calls (c m : Int) (o n : Bool) (w : World) : Calls Try.prog 72 #[.int .i64 c, .bool o, .bool n, .int .i64 m] w fun e w' => e = .returned (.bool (upR m n o c)) ∧ Tidy w w' := by
  unfold upR
  by_cases h0 : c = 0
  · rw [if_pos h0]
    exact fits_calls (tabY_ok conN_ok) (u0 c m o n) (by simp [okCs, okNl, h0]) (by rfl) (by rfl) w
  · rw [if_neg h0]
    by_cases h2 : m = 2
    · rw [if_pos h2]
      exact fits_calls (tabY_ok conN_ok) (u2 c m o n) (by simp [okCs, okNl, h0, h2]) (by rfl) (by rfl) w
    · rw [if_neg h2]
      by_cases h3 : m = 3
      · rw [if_pos h3]
        exact fits_calls (tabY_ok conN_ok) (u3 c m o n) (by simp [okCs, okNl, h0, h3]) (by rfl) (by rfl) w
      · rw [if_neg h3]
        by_cases h4 : m = 4
        · rw [if_pos h4]
          exact fits_calls (tabY_ok conN_ok) (u4 c m o n) (by simp [okCs, okNl, h0, h4]) (by rfl) (by rfl) w
        · rw [if_neg h4]
          by_cases h1 : m = 1
          · rw [if_pos h1]
            exact fits_calls (tabY_ok conN_ok) (u1 c m o n) (by simp [okCs, okNl, h0, h1]) (by rfl) (by rfl) w
          · rw [if_neg h1]
            by_cases ha : 2 < c
            · have e : (decide (2 < c) || (decide (c = 2) && o)) = true := by simp [ha]
              rw [e]
              exact fits_calls (tabY_ok conN_ok) (ua c m o n) (by simp [okCs, okNl, h0, h1, h2, h3, h4, ha]) (by rfl) (by rfl) w
            · by_cases hb : c = 2
              · have e : (decide (2 < c) || (decide (c = 2) && o)) = o := by simp [hb]
                rw [e]
                exact fits_calls (tabY_ok conN_ok) (ub c m o n) (by simp [okCs, okNl, h1, h2, h3, h4, hb]) (by rfl) (by rfl) w
              · have e : (decide (2 < c) || (decide (c = 2) && o)) = false := by simp [ha, hb]
                rw [e]
                exact fits_calls (tabY_ok conN_ok) (uc c m o n) (by simp [okCs, okNl, h0, h1, h2, h3, h4, hb]; omega) (by rfl) (by rfl) w
theorem gUp_ok : AnsOk 72 gUp := by
  intro vals s v s' lg h hl w
  unfold gUp at h
  split at h
  · cases h; exact up_calls _ _ _ _ w
  · cases h

/-! ### what is known of wide -/
def conW : Con := alt 39 (g1n (plain1n shlV4)) (alt 78 (g1n shrB) (alt 68 (g1n (plain1n bitV4)) (alt 76 (g1 lenV4) (alt 79 (g2 (plain2 addV4)) conN))))
theorem conW_ok : ConOk conW := alt_ok Try.func39 rfl (plain1n_ok shl_calls) (alt_ok Try.func78 rfl shrB_ok (alt_ok Try.func68 rfl (plain1n_ok bit_calls) (alt_ok Try.func76 rfl (g1_ok wlen_calls) (alt_ok Try.func79 rfl (plain2_ok add_calls) conN_ok))))
theorem shlW_nat {x : W4} (hx : x.ok) {n : Int} (hn : 0 ≤ n) : shlW x n = ofN (x.nat * 2 ^ n.toNat) := by
  unfold shlW
  by_cases h1 : n < 1
  · have : n = 0 := by omega
    subst this
    rw [if_pos h1]
    simp [ofN_self hx]
  · rw [if_neg h1]
    by_cases h2 : 256 ≤ n
    · rw [if_pos h2, ofN_big (by omega)]
    · rw [if_neg h2, W4.nat_val hx, cast_pow]
      unfold ofN
      congr 1
theorem shrW_nat {x : W4} (hx : x.ok) {n : Int} (hn : 0 ≤ n) : shrW x n = ofN (x.nat / 2 ^ n.toNat) := by
  unfold shrW
  by_cases h1 : n < 1
  · have : n = 0 := by omega
    subst this
    rw [if_pos h1]
    simp [ofN_self hx]
  · rw [if_neg h1]
    by_cases h2 : 256 ≤ n
    · rw [if_pos h2, small_div (W4.nat_lt hx) (by omega), ofN_zero]
    · rw [if_neg h2, W4.nat_val hx, cast_pow]
      unfold ofN
      congr 1
theorem shrL_nat {x : W4} (hx : x.ok) {n : Int} (hn : 0 ≤ n) : shrL x n = decide (x.nat % 2 ^ n.toNat ≠ 0) := by
  unfold shrL
  by_cases h1 : n < 1
  · have : n = 0 := by omega
    subst this
    rw [if_pos h1]
    simp [Nat.mod_one]
  · rw [if_neg h1]
    by_cases h2 : 256 ≤ n
    · rw [if_pos h2, small_mod (W4.nat_lt hx) (by omega), W4.nat_val hx]
      congr 1
      simp
    · rw [if_neg h2, W4.nat_val hx, cast_pow]
      congr 1
      have : ((x.nat : Int) % ((2 ^ n.toNat : Nat) : Int)) = ((x.nat % 2 ^ n.toNat : Nat) : Int) := rfl
      rw [this]
      simp only [ne_eq, eq_iff_iff]
      omega
theorem bitI_nat {x : W4} (hx : x.ok) {n : Int} (hn : 0 ≤ n) : bitI x n = ((x.nat / 2 ^ n.toNat % 2 : Nat) : Int) := by
  unfold bitI
  rw [if_neg (by omega)]
  by_cases h2 : 256 ≤ n
  · rw [if_pos h2, small_div (W4.nat_lt hx) (by omega)]
    rfl
  · rw [if_neg h2, W4.nat_val hx, cast_pow]
    rfl

/-! ### halves -/
def hv (x : W4) (b : Bool) : W4 := match b with | true => ⟨bOr (shlW x 1).a 1, (shlW x 1).b, (shlW x 1).c, (shlW x 1).d⟩ | false => shlW x 1
def lOne (x : W4) : Bool × Bool := (decide (x.ok ∧ (-9223372036854775808 : Int) ≤ 1 ∧ (1 : Int) ≤ 9223372036854775807), true)
theorem hv_fits (x : W4) (b : Bool) : Fits (reckon (tabOf Try.prog extY conW true) 300 70 [vW x, .bool b] []) (vW (hv x b)) [lOne x] := by
  cases b <;> exact ⟨by kernel_rfl, by kernel_rfl, by kernel_rfl, by kernel_rfl⟩
theorem bOr_comm (x y : Int) : bOr x y = bOr y x := by unfold bOr; rw [BitVec.or_comm]
theorem hv_eq {x : W4} (hx : x.ok) (b : Bool) : hv x b = ofN (tw x b) := by
  have e1 := shlW_nat hx (n := 1) (by omega)
  have e2 : x.nat * 2 ^ (1 : Int).toNat = 2 * x.nat := by simp [Nat.mul_comm]
  rw [e2] at e1
  cases b
  · unfold hv tw
    simp only [Nat.add_zero]
    exact e1
  · unfold hv tw
    simp only
    rw [e1]
    have e3 : bOr (ofN (2 * x.nat)).a 1 = (ofN (2 * x.nat)).a + 1 := by
      have hb : 0 ≤ (ofN (2 * x.nat)).a ∧ (ofN (2 * x.nat)).a < 18446744073709551616 := (ofN_ok _).1
      have hev : (ofN (2 * x.nat)).a % 2 = 0 := by unfold ofN W4.of; dsimp only; omega
      rw [bOr_comm, or_low 1 (z := (ofN (2 * x.nat)).a / 2) (by omega) (by omega) (by omega) (by decide) (by omega)]
    rw [e3]
    unfold ofN W4.of
    refine W4.ext' ?_ ?_ ?_ ?_ <;> dsimp only <;> omega
def gHv : Ans := fun vals s =>
  match vals with
  | [x, .bool b] =>
    match w4 x with
    | some a => some (vW (ofN (tw a b)), s, [(decide a.ok, true)])
    | none => none
  | _ => none
theorem gHv_ok : AnsOk 70 gHv := by
  intro vals s v s' lg h hl w
  unfold gHv at h
  split at h
  · split at h
    · rename_i a ha
      cases h
      have h1 : a.ok := of_decide_eq_true (hl _ (List.mem_singleton.2 rfl))
      rw [w4_spec ha, ← hv_eq h1]
      exact fits_calls (tabY_ok conW_ok) (hv_fits a _) (okL1 (decide_eq_true ⟨h1, by omega, by omega⟩)) (by rfl) (by rfl) w
    · cases h
  · cases h
def conH : Con := alt 70 gHv conW
theorem conH_ok : ConOk conH := alt_ok Try.func70 rfl gHv_ok conW_ok

/-! ### numbers -/
def vN (n : Bool) (e : Int) (x : W4) (b : Bool) : Value := .agg #[.bool n, .int .i64 e, .int .u64 x.a, .int .u64 x.b, .int .u64 x.c, .int .u64 x.d, .bool b]
def n7 : Value → Option (Bool × Int × W4 × Bool)
  | .agg cs =>
    match cs.toList with
    | [.bool n, .int .i64 e, .int .u64 a, .int .u64 b, .int .u64 c, .int .u64 d, .bool m] => some (n, e, ⟨a, b, c, d⟩, m)
    | _ => none
  | _ => none
theorem n7_spec {v : Value} {n m : Bool} {e : Int} {x : W4} (h : n7 v = some (n, e, x, m)) : v = vN n e x m := by
  unfold n7 at h
  split at h
  · rename_i cs
    split at h
    · rename_i a b c d hc
      cases h
      obtain ⟨l⟩ := cs
      simp only at hc
      subst hc
      rfl
    · cases h
  · cases h

/-! ### cut -/
def lok (x : W4) (n : Int) : Bool × Bool := (decide (x.ok ∧ -9223372036854775808 ≤ n ∧ n ≤ 9223372036854775807), true)
def dnI (ex e : Int) : Int := IntKind.i64.wrap (e - ex)
def dn1 (ex e : Int) : Int := IntKind.i64.wrap (IntKind.i64.wrap (e - ex) - 1)
def ctV (x : W4) (ex e c : Int) : Value := .tuple #[vW (shrW x (dnI ex e)), .int .i64 c]
theorem ct0 (n : Bool) (x : W4) (ex e : Int) : Fits (reckon (tabOf Try.prog extY conH true) 300 71 [vN n ex x false, .int .i64 e] [cmp false]) (ctV x ex e 0) [lok x (dnI ex e), (shrL x (dnI ex e), false)] := ⟨by kernel_rfl, by kernel_rfl, by kernel_rfl, by kernel_rfl⟩
theorem ct1 (n : Bool) (x : W4) (ex e : Int) : Fits (reckon (tabOf Try.prog extY conH true) 300 71 [vN n ex x true, .int .i64 e] [cmp false, cmp true]) (ctV x ex e 2) [(dnI ex e == 0, true), lok x (dnI ex e), (shrL x (dnI ex e), false)] := ⟨by kernel_rfl, by kernel_rfl, by kernel_rfl, by kernel_rfl⟩
theorem ct2 (n : Bool) (x : W4) (ex e : Int) (d : Bool) : Fits (reckon (tabOf Try.prog extY conH true) 300 71 [vN n ex x true, .int .i64 e] [cmp false, cmp false, cmp d]) (ctV x ex e (match d with | true => 1 | false => 3)) [(bitI x (dn1 ex e) == 0, d), lok x (dn1 ex e), (dnI ex e == 0, false), lok x (dnI ex e), (shrL x (dnI ex e), false)] := by
  cases d <;> exact ⟨by kernel_rfl, by kernel_rfl, by kernel_rfl, by kernel_rfl⟩
theorem ct4 (n b : Bool) (x : W4) (ex e : Int) : Fits (reckon (tabOf Try.prog extY conH true) 300 71 [vN n ex x b, .int .i64 e] [cmp true, cmp false, cmp true]) (ctV x ex e 1) [(bitI x (dn1 ex e) == 0, true), lok x (dn1 ex e), (dnI ex e == 0, false), lok x (dnI ex e), (shrL x (dnI ex e), true)] := ⟨by kernel_rfl, by kernel_rfl, by kernel_rfl, by kernel_rfl⟩
theorem ct5 (n : Bool) (x : W4) (ex e : Int) : Fits (reckon (tabOf Try.prog extY conH true) 300 71 [vN n ex x true, .int .i64 e] [cmp true, cmp false, cmp false]) (ctV x ex e 3) [(bitI x (dn1 ex e) == 0, false), lok x (dn1 ex e), (dnI ex e == 0, false), lok x (dnI ex e), (shrL x (dnI ex e), true)] := ⟨by kernel_rfl, by kernel_rfl, by kernel_rfl, by kernel_rfl⟩
def bkW (x : W4) (ex e : Int) : W4 := shlW (ofN (tw (shrW x (dnI ex e)) true)) (dn1 ex e)
theorem ct6 (n : Bool) (x : W4) (ex e : Int) (d : Bool) : Fits (reckon (tabOf Try.prog extY conH true) 300 71 [vN n ex x false, .int .i64 e] [cmp true, cmp false, cmp false, sam d]) (ctV x ex e (match d with | true => 3 | false => 2)) [(!(eqW x (bkW x ex e)), d), lok (ofN (tw (shrW x (dnI ex e)) true)) (dn1 ex e), (decide (shrW x (dnI ex e)).ok, true), (bitI x (dn1 ex e) == 0, false), lok x (dn1 ex e), (dnI ex e == 0, false), lok x (dnI ex e), (shrL x (dnI ex e), true)] := by
  cases d <;> exact ⟨by kernel_rfl, by kernel_rfl, by kernel_rfl, by kernel_rfl⟩
end Go.Proofs.Ytbcpnpchioncbaa

/-
  rnd.cut, rnd.next and rnd.toMultiple, as calls in every world.
-/
namespace Go.Proofs.Ytbcpnpchioncbaa
open Go.KRun Go.Wd Go.Pt Go.Rn
set_option maxRecDepth 100000

def cutT (x : W4) (b : Bool) (d : Nat) : Value := .tuple #[vW (ofN (tw x b / 2 ^ (d + 1))), .int .i64 (restC (tw x b % 2 ^ (d + 1)) (2 ^ (d + 1)))]
theorem lok_ok {x : W4} {n : Int} (h : x.ok) (h0 : -9223372036854775808 ≤ n) (h1 : n ≤ 9223372036854775807) : decide (x.ok ∧ -9223372036854775808 ≤ n ∧ n ≤ 9223372036854775807) = true := decide_eq_true ⟨h, h0, h1⟩
theorem cut_calls (n b : Bool) (x : W4) (ex e : Int) (hx : x.ok) (h1 : -4000 ≤ ex) (h2 : ex ≤ e) (h3 : e ≤ 4000) (w : World) : Calls Try.prog 71 #[vN n ex x b, .int .i64 e] w fun r w' => r = .returned (cutT x b (e - ex).toNat) ∧ Tidy w w' := by
  obtain ⟨d, hd⟩ : ∃ d : Nat, e - ex = (d : Int) := ⟨(e - ex).toNat, by omega⟩
  have e1 : dnI ex e = (d : Int) := by unfold dnI; rw [wrapI' ⟨by omega, by omega⟩, hd]
  have e2 : dn1 ex e = (d : Int) - 1 := by
    unfold dn1
    rw [wrapI' (n := e - ex) ⟨by omega, by omega⟩, hd, wrapI' ⟨by omega, by omega⟩]
  have eV : ∀ c, c = restC (tw x b % 2 ^ (d + 1)) (2 ^ (d + 1)) → ctV x ex e c = cutT x b (e - ex).toNat := fun c hc => by
    unfold ctV cutT
    rw [e1, shrW_nat hx (by omega), hd, Int.toNat_natCast, tw_div, hc]
  have k1 : decide (x.ok ∧ -9223372036854775808 ≤ dnI ex e ∧ dnI ex e ≤ 9223372036854775807) = true := lok_ok hx (by omega) (by omega)
  have k2 : decide (x.ok ∧ -9223372036854775808 ≤ dn1 ex e ∧ dn1 ex e ≤ 9223372036854775807) = true := lok_ok hx (by omega) (by omega)
  have kl : shrL x (dnI ex e) = decide (x.nat % 2 ^ d ≠ 0) := by rw [e1, shrL_nat hx (by omega), Int.toNat_natCast]
  have hv : ([vN n ex x b, .int .i64 e].all (lt 0)) = true := rfl
  by_cases hl : x.nat % 2 ^ d = 0
  · have kf : shrL x (dnI ex e) = false := by rw [kl]; simp [hl]
    cases b
    · rw [← eV 0 (by rw [rc_none hl])]
      exact fits_calls (tabY_ok conH_ok) (ct0 n x ex e) (okCons k1 (okL1 kf)) hv (by rfl) w
    · cases d with
      | zero =>
        rw [← eV 2 (by rw [rc_zero])]
        exact fits_calls (tabY_ok conH_ok) (ct1 n x ex e) (okCons (by rw [e1]; rfl) (okCons k1 (okL1 kf))) hv (by rfl) w
      | succ j =>
        have k0 : (dnI ex e == 0) = false := by rw [e1]; simp; omega
        have e3 : dn1 ex e = (j : Int) := by rw [e2]; omega
        have kb : bitI x (dn1 ex e) = ((x.nat / 2 ^ j % 2 : Nat) : Int) := by rw [e3, bitI_nat hx (by omega), Int.toNat_natCast]
        by_cases hb : x.nat / 2 ^ j % 2 = 0
        · rw [← eV 1 (by rw [rc_below hb (.inr rfl)])]
          exact fits_calls (tabY_ok conH_ok) (ct2 n x ex e true) (okCons (by rw [kb, hb]; rfl) (okCons k2 (okCons k0 (okCons k1 (okL1 kf))))) hv (by rfl) w
        · have hb' : x.nat / 2 ^ j % 2 = 1 := by omega
          rw [← eV 3 (by rw [rc_above hb' (.inr rfl)])]
          exact fits_calls (tabY_ok conH_ok) (ct2 n x ex e false) (okCons (by rw [kb, hb']; rfl) (okCons k2 (okCons k0 (okCons k1 (okL1 kf))))) hv (by rfl) w
  · have kf : shrL x (dnI ex e) = true := by rw [kl]; simp [hl]
    cases d with
    | zero => exact absurd (by simp [Nat.mod_one]) hl
    | succ j =>
      have k0 : (dnI ex e == 0) = false := by rw [e1]; simp; omega
      have e3 : dn1 ex e = (j : Int) := by rw [e2]; omega
      have kb : bitI x (dn1 ex e) = ((x.nat / 2 ^ j % 2 : Nat) : Int) := by rw [e3, bitI_nat hx (by omega), Int.toNat_natCast]
      by_cases hb : x.nat / 2 ^ j % 2 = 0
      · rw [← eV 1 (by rw [rc_below hb (.inl hl)])]
        exact fits_calls (tabY_ok conH_ok) (ct4 n b x ex e) (okCons (by rw [kb, hb]; rfl) (okCons k2 (okCons k0 (okCons k1 (okL1 kf))))) hv (by rfl) w
      · have hb' : x.nat / 2 ^ j % 2 = 1 := by omega
        cases b
        · have hs : shrW x (dnI ex e) = ofN (x.nat / 2 ^ (j + 1)) := by rw [e1, shrW_nat hx (by omega), Int.toNat_natCast]
          have hlt := W4.nat_lt hx
          have hle : x.nat / 2 ^ (j + 1) ≤ x.nat := Nat.div_le_self _ _
          have hle2 : 2 * (x.nat / 2 ^ (j + 1)) ≤ x.nat := by
            have := Nat.div_mul_le_self x.nat (2 ^ (j + 1))
            have hp : 0 < 2 ^ j := Nat.pow_pos (by omega)
            have h9 : 2 * (x.nat / 2 ^ (j + 1)) ≤ x.nat / 2 ^ (j + 1) * 2 ^ (j + 1) := by
              rw [Nat.mul_comm 2, Nat.pow_succ]
              exact Nat.mul_le_mul_left _ (by omega)
            omega
          have ht : tw (shrW x (dnI ex e)) true = 2 * (x.nat / 2 ^ (j + 1)) + 1 := by
            unfold tw
            rw [hs, ofN_nat (by omega)]
          have hk : bkW x ex e = ofN ((2 * (x.nat / 2 ^ (j + 1)) + 1) * 2 ^ j) := by
            unfold bkW
            have e256 : (2 : Nat) ^ 256 = 115792089237316195423570985008687907853269984665640564039457584007913129639936 := rfl
            rw [ht, e3, shlW_nat (ofN_ok _) (by omega), Int.toNat_natCast, ofN_nat (by omega)]
          have kq : eqW x (bkW x ex e) = decide (x.nat % 2 ^ j = 0) := by rw [hk, back_iff hx hb']
          have kok : decide ((ofN (tw (shrW x (dnI ex e)) true)).ok ∧ -9223372036854775808 ≤ dn1 ex e ∧ dn1 ex e ≤ 9223372036854775807) = true := lok_ok (ofN_ok _) (by omega) (by omega)
          have ks : decide (shrW x (dnI ex e)).ok = true := by rw [hs]; exact decide_eq_true (ofN_ok _)
          by_cases hz : x.nat % 2 ^ j = 0
          · rw [← eV 2 (by rw [rc_half hb' hz])]
            exact fits_calls (tabY_ok conH_ok) (ct6 n x ex e false) (okCons (by rw [kq, decide_eq_true hz]; rfl) (okCons kok (okCons ks (okCons (by rw [kb, hb']; rfl) (okCons k2 (okCons k0 (okCons k1 (okL1 kf)))))))) hv (by rfl) w
          · rw [← eV 3 (by rw [rc_above hb' (.inl hz)])]
            exact fits_calls (tabY_ok conH_ok) (ct6 n x ex e true) (okCons (by rw [kq, decide_eq_false hz]; rfl) (okCons kok (okCons ks (okCons (by rw [kb, hb']; rfl) (okCons k2 (okCons k0 (okCons k1 (okL1 kf)))))))) hv (by rfl) w
        · rw [← eV 3 (by rw [rc_above hb' (.inr rfl)])]
          exact fits_calls (tabY_ok conH_ok) (ct5 n x ex e) (okCons (by rw [kb, hb']; rfl) (okCons k2 (okCons k0 (okCons k1 (okL1 kf))))) hv (by rfl) w
/-- what cut asks of its numbers -/
def okCut (x : W4) (ex e : Int) : Bool := decide (x.ok ∧ -4000 ≤ ex ∧ ex ≤ e ∧ e ≤ 4000)
def gCut : Ans := fun vals s =>
  match vals with
  | [v, .int .i64 e] =>
    match n7 v with
    | some (_, ex, x, b) => some (cutT x b (e - ex).toNat, s, [(okCut x ex e, true)])
    | none => none
  | _ => none
theorem gCut_ok : AnsOk 71 gCut := by
  intro vals s v s' lg h hl w
  unfold gCut at h
  split at h
  · split at h
    · rename_i n ex x b hn
      cases h
      have h1 := of_decide_eq_true (hl _ (List.mem_singleton.2 rfl))
      rw [n7_spec hn]
      exact cut_calls n b x ex _ h1.1 h1.2.1 h1.2.2.1 h1.2.2.2 w
    · cases h
  · cases h
def conC : Con := alt 72 gUp (alt 71 gCut conH)
theorem conC_ok : ConOk conC := alt_ok Try.func72 rfl gUp_ok (alt_ok Try.func71 rfl gCut_ok conH_ok)
end Go.Proofs.Ytbcpnpchioncbaa
