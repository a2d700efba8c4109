/-
  RnA, RnB, RnC, RnD, RnE, NumR4, NumR5
-/
import Derived.Test.YtjkgnbdeklploaaGreatG10
namespace Go.Proofs.YtjkgnbdeklploaaGreat
open Go.KRun Go.Wd Go.Pt Go.Rn
set_option maxRecDepth 100000
/-! ### goesUp -/
theorem u0 (c m : Int) (o n : Bool) : Fits (reckon (tabOf Tryz.prog extY conN true) 300 83 [.int .i64 c, .bool o, .bool n, .int .i64 m] [cmp true]) (Value.bool false) [(c == 0, true)] := ⟨by kernel_rfl, by kernel_rfl, by kernel_rfl, by kernel_rfl⟩
theorem u2 (c m : Int) (o n : Bool) : Fits (reckon (tabOf Tryz.prog extY conN true) 300 83 [.int .i64 c, .bool o, .bool n, .int .i64 m] [cmp false, cmp true]) (Value.bool false) [(m == 2, true), (c == 0, false)] := ⟨by kernel_rfl, by kernel_rfl, by kernel_rfl, by kernel_rfl⟩
theorem u3 (c m : Int) (o n : Bool) : Fits (reckon (tabOf Tryz.prog extY conN true) 300 83 [.int .i64 c, .bool o, .bool n, .int .i64 m] [cmp false, cmp false, cmp true]) (Value.bool !n) [(m == 3, true), (m == 2, false), (c == 0, false)] := ⟨by kernel_rfl, by kernel_rfl, by kernel_rfl, by kernel_rfl⟩
theorem u4 (c m : Int) (o n : Bool) : Fits (reckon (tabOf Tryz.prog extY conN true) 300 83 [.int .i64 c, .bool o, .bool n, .int .i64 m] [cmp false, cmp false, cmp false, cmp true]) (Value.bool n) [(m == 4, true), (m == 3, false), (m == 2, false), (c == 0, false)] := ⟨by kernel_rfl, by kernel_rfl, by kernel_rfl, by kernel_rfl⟩
theorem u1 (c m : Int) (o n : Bool) : Fits (reckon (tabOf Tryz.prog extY conN true) 300 83 [.int .i64 c, .bool o, .bool n, .int .i64 m] [cmp false, cmp false, cmp false, cmp false, cmp true]) (Value.bool (decide (c ≥ 2))) [(m == 1, true), (m == 4, false), (m == 3, false), (m == 2, false), (c == 0, false)] := ⟨by kernel_rfl, by kernel_rfl, by kernel_rfl, by kernel_rfl⟩
theorem ua (c m : Int) (o n : Bool) : Fits (reckon (tabOf Tryz.prog extY conN true) 300 83 [.int .i64 c, .bool o, .bool n, .int .i64 m] [cmp false, cmp false, cmp false, cmp false, cmp false, cmp true]) (Value.bool true) [(decide (c > 2), true), (m == 1, false), (m == 4, false), (m == 3, false), (m == 2, false), (c == 0, false)] := ⟨by kernel_rfl, by kernel_rfl, by kernel_rfl, by kernel_rfl⟩
theorem ub (c m : Int) (o n : Bool) : Fits (reckon (tabOf Tryz.prog extY conN true) 300 83 [.int .i64 c, .bool o, .bool n, .int .i64 m] [cmp false, cmp false, cmp false, cmp false, cmp false, cmp false, cmp true]) (Value.bool o) [(c == 2, true), (decide (c > 2), false), (m == 1, false), (m == 4, false), (m == 3, false), (m == 2, false), (c == 0, false)] := ⟨by kernel_rfl, by kernel_rfl, by kernel_rfl, by kernel_rfl⟩
theorem uc (c m : Int) (o n : Bool) : Fits (reckon (tabOf Tryz.prog extY conN true) 300 83 [.int .i64 c, .bool o, .bool n, .int .i64 m] [cmp false, cmp false, cmp false, cmp false, cmp false, cmp false, cmp false]) (Value.bool false) [(c == 2, false), (decide (c > 2), false), (m == 1, false), (m == 4, false), (m == 3, false), (m == 2, false), (c == 0, false)] := ⟨by kernel_rfl, by kernel_rfl, by kernel_rfl, by kernel_rfl⟩
def gUp : Ans := fun vals s =>
  match vals with
  | [.int .i64 c, .bool o, .bool n, .int .i64 m] => some (.bool (upR m n o c), s, [])
  | _ => none
theorem up_calls (c m : Int) (o n : Bool) (w : World) : Calls Tryz.prog 83 #[.int .i64 c, .bool o, .bool n, .int .i64 m] w fun e w' => e = .returned (.bool (upR m n o c)) ∧ Tidy w w' := by
  unfold upR
  by_cases h0 : c = 0
  · rw [if_pos h0]
    exact fits_calls (tabY_ok conN_ok) (u0 c m o n) (by simp [okCs, okNl, h0]) (by rfl) (by rfl) w
  · rw [if_neg h0]
    by_cases h2 : m = 2
    · rw [if_pos h2]
      exact fits_calls (tabY_ok conN_ok) (u2 c m o n) (by simp [okCs, okNl, h0, h2]) (by rfl) (by rfl) w
    · rw [if_neg h2]
      by_cases h3 : m = 3
      · rw [if_pos h3]
        exact fits_calls (tabY_ok conN_ok) (u3 c m o n) (by simp [okCs, okNl, h0, h3]) (by rfl) (by rfl) w
      · rw [if_neg h3]
        by_cases h4 : m = 4
        · rw [if_pos h4]
          exact fits_calls (tabY_ok conN_ok) (u4 c m o n) (by simp [okCs, okNl, h0, h4]) (by rfl) (by rfl) w
        · rw [if_neg h4]
          by_cases h1 : m = 1
          · rw [if_pos h1]
            exact fits_calls (tabY_ok conN_ok) (u1 c m o n) (by simp [okCs, okNl, h0, h1]) (by rfl) (by rfl) w
          · rw [if_neg h1]
            by_cases ha : 2 < c
            · have e : (decide (2 < c) || (decide (c = 2) && o)) = true := by simp [ha]
              rw [e]
              exact fits_calls (tabY_ok conN_ok) (ua c m o n) (by simp [okCs, okNl, h0, h1, h2, h3, h4, ha]) (by rfl) (by rfl) w
            · by_cases hb : c = 2
              · have e : (decide (2 < c) || (decide (c = 2) && o)) = o := by simp [hb]
                rw [e]
                exact fits_calls (tabY_ok conN_ok) (ub c m o n) (by simp [okCs, okNl, h1, h2, h3, h4, hb]) (by rfl) (by rfl) w
              · have e : (decide (2 < c) || (decide (c = 2) && o)) = false := by simp [ha, hb]
                rw [e]
                exact fits_calls (tabY_ok conN_ok) (uc c m o n) (by simp [okCs, okNl, h0, h1, h2, h3, h4, hb]; omega) (by rfl) (by rfl) w
theorem gUp_ok : AnsOk 83 gUp := by
  intro vals s v s' lg h hl w
  unfold gUp at h
  split at h
  · cases h; exact up_calls _ _ _ _ w
  · cases h
/-! ### what is known of wide -/
def conW : Con := alt 77 (g1n (plain1n shlV4)) (alt 78 (g1n shrB) (alt 84 (g1n (plain1n bitV4)) (alt 76 (g1 lenV4) (alt 79 (g2 (plain2 addV4)) conN))))
theorem conW_ok : ConOk conW := alt_ok Tryz.func77 rfl (plain1n_ok shl_calls) (alt_ok Tryz.func78 rfl shrB_ok (alt_ok Tryz.func84 rfl (plain1n_ok bit_calls) (alt_ok Tryz.func76 rfl (g1_ok wlen_calls) (alt_ok Tryz.func79 rfl (plain2_ok add_calls) conN_ok))))
theorem shlW_nat {x : W4} (hx : x.ok) {n : Int} (hn : 0 ≤ n) : shlW x n = ofN (x.nat * 2 ^ n.toNat) := by
  unfold shlW
  by_cases h1 : n < 1
  · have : n = 0 := by omega
    subst this
    rw [if_pos h1]
    simp [ofN_self hx]
  · rw [if_neg h1]
    by_cases h2 : 256 ≤ n
    · rw [if_pos h2, ofN_big (by omega)]
    · rw [if_neg h2, W4.nat_val hx, cast_pow]
      unfold ofN
      congr 1
theorem shrW_nat {x : W4} (hx : x.ok) {n : Int} (hn : 0 ≤ n) : shrW x n = ofN (x.nat / 2 ^ n.toNat) := by
  unfold shrW
  by_cases h1 : n < 1
  · have : n = 0 := by omega
    subst this
    rw [if_pos h1]
    simp [ofN_self hx]
  · rw [if_neg h1]
    by_cases h2 : 256 ≤ n
    · rw [if_pos h2, small_div (W4.nat_lt hx) (by omega), ofN_zero]
    · rw [if_neg h2, W4.nat_val hx, cast_pow]
      unfold ofN
      congr 1
theorem shrL_nat {x : W4} (hx : x.ok) {n : Int} (hn : 0 ≤ n) : shrL x n = decide (x.nat % 2 ^ n.toNat ≠ 0) := by
  unfold shrL
  by_cases h1 : n < 1
  · have : n = 0 := by omega
    subst this
    rw [if_pos h1]
    simp [Nat.mod_one]
  · rw [if_neg h1]
    by_cases h2 : 256 ≤ n
    · rw [if_pos h2, small_mod (W4.nat_lt hx) (by omega), W4.nat_val hx]
      congr 1
      simp
    · rw [if_neg h2, W4.nat_val hx, cast_pow]
      congr 1
      have : ((x.nat : Int) % ((2 ^ n.toNat : Nat) : Int)) = ((x.nat % 2 ^ n.toNat : Nat) : Int) := rfl
      rw [this]
      simp only [ne_eq, eq_iff_iff]
      omega
theorem bitI_nat {x : W4} (hx : x.ok) {n : Int} (hn : 0 ≤ n) : bitI x n = ((x.nat / 2 ^ n.toNat % 2 : Nat) : Int) := by
  unfold bitI
  rw [if_neg (by omega)]
  by_cases h2 : 256 ≤ n
  · rw [if_pos h2, small_div (W4.nat_lt hx) (by omega)]
    rfl
  · rw [if_neg h2, W4.nat_val hx, cast_pow]
    rfl
/-! ### halves -/
def hv (x : W4) (b : Bool) : W4 := match b with | true => ⟨bOr (shlW x 1).a 1, (shlW x 1).b, (shlW x 1).c, (shlW x 1).d⟩ | false => shlW x 1
def lOne (x : W4) : Bool × Bool := (decide (x.ok ∧ (-9223372036854775808 : Int) ≤ 1 ∧ (1 : Int) ≤ 9223372036854775807), true)
theorem hv_fits (x : W4) (b : Bool) : Fits (reckon (tabOf Tryz.prog extY conW true) 300 81 [vW x, .bool b] []) (vW (hv x b)) [lOne x] := by
  cases b <;> exact ⟨by kernel_rfl, by kernel_rfl, by kernel_rfl, by kernel_rfl⟩
theorem bOr_comm (x y : Int) : bOr x y = bOr y x := by unfold bOr; rw [BitVec.or_comm]
theorem hv_eq {x : W4} (hx : x.ok) (b : Bool) : hv x b = ofN (tw x b) := by
  have e1 := shlW_nat hx (n := 1) (by omega)
  have e2 : x.nat * 2 ^ (1 : Int).toNat = 2 * x.nat := by simp [Nat.mul_comm]
  rw [e2] at e1
  cases b
  · unfold hv tw
    simp only [Nat.add_zero]
    exact e1
  · unfold hv tw
    simp only
    rw [e1]
    have e3 : bOr (ofN (2 * x.nat)).a 1 = (ofN (2 * x.nat)).a + 1 := by
      have hb : 0 ≤ (ofN (2 * x.nat)).a ∧ (ofN (2 * x.nat)).a < 18446744073709551616 := (ofN_ok _).1
      have hev : (ofN (2 * x.nat)).a % 2 = 0 := by unfold ofN W4.of; dsimp only; omega
      rw [bOr_comm, or_low 1 (z := (ofN (2 * x.nat)).a / 2) (by omega) (by omega) (by omega) (by decide) (by omega)]
    rw [e3]
    unfold ofN W4.of
    refine W4.ext' ?_ ?_ ?_ ?_ <;> dsimp only <;> omega
def gHv : Ans := fun vals s =>
  match vals with
  | [x, .bool b] =>
    match w4 x with
    | some a => some (vW (ofN (tw a b)), s, [(decide a.ok, true)])
    | none => none
  | _ => none
theorem gHv_ok : AnsOk 81 gHv := by
  intro vals s v s' lg h hl w
  unfold gHv at h
  split at h
  · split at h
    · rename_i a ha
      cases h
      have h1 : a.ok := of_decide_eq_true (hl _ (List.mem_singleton.2 rfl))
      rw [w4_spec ha, ← hv_eq h1]
      exact fits_calls (tabY_ok conW_ok) (hv_fits a _) (okL1 (decide_eq_true ⟨h1, by omega, by omega⟩)) (by rfl) (by rfl) w
    · cases h
  · cases h
def conH : Con := alt 81 gHv conW
theorem conH_ok : ConOk conH := alt_ok Tryz.func81 rfl gHv_ok conW_ok
/-! ### numbers -/
def vN (n : Bool) (e : Int) (x : W4) (b : Bool) : Value := .agg #[.bool n, .int .i64 e, .int .u64 x.a, .int .u64 x.b, .int .u64 x.c, .int .u64 x.d, .bool b]
def n7 : Value → Option (Bool × Int × W4 × Bool)
  | .agg cs =>
    match cs.toList with
    | [.bool n, .int .i64 e, .int .u64 a, .int .u64 b, .int .u64 c, .int .u64 d, .bool m] => some (n, e, ⟨a, b, c, d⟩, m)
    | _ => none
  | _ => none
theorem n7_spec {v : Value} {n m : Bool} {e : Int} {x : W4} (h : n7 v = some (n, e, x, m)) : v = vN n e x m := by
  unfold n7 at h
  split at h
  · rename_i cs
    split at h
    · rename_i a b c d hc
      cases h
      obtain ⟨l⟩ := cs
      simp only at hc
      subst hc
      rfl
    · cases h
  · cases h
/-! ### cut -/
def lok (x : W4) (n : Int) : Bool × Bool := (decide (x.ok ∧ -9223372036854775808 ≤ n ∧ n ≤ 9223372036854775807), true)
def dnI (ex e : Int) : Int := IntKind.i64.wrap (e - ex)
def dn1 (ex e : Int) : Int := IntKind.i64.wrap (IntKind.i64.wrap (e - ex) - 1)
def ctV (x : W4) (ex e c : Int) : Value := .tuple #[vW (shrW x (dnI ex e)), .int .i64 c]
theorem ct0 (n : Bool) (x : W4) (ex e : Int) : Fits (reckon (tabOf Tryz.prog extY conH true) 300 82 [vN n ex x false, .int .i64 e] [cmp false]) (ctV x ex e 0) [lok x (dnI ex e), (shrL x (dnI ex e), false)] := ⟨by kernel_rfl, by kernel_rfl, by kernel_rfl, by kernel_rfl⟩
theorem ct1 (n : Bool) (x : W4) (ex e : Int) : Fits (reckon (tabOf Tryz.prog extY conH true) 300 82 [vN n ex x true, .int .i64 e] [cmp false, cmp true]) (ctV x ex e 2) [(dnI ex e == 0, true), lok x (dnI ex e), (shrL x (dnI ex e), false)] := ⟨by kernel_rfl, by kernel_rfl, by kernel_rfl, by kernel_rfl⟩
theorem ct2 (n : Bool) (x : W4) (ex e : Int) (d : Bool) : Fits (reckon (tabOf Tryz.prog extY conH true) 300 82 [vN n ex x true, .int .i64 e] [cmp false, cmp false, cmp d]) (ctV x ex e (match d with | true => 1 | false => 3)) [(bitI x (dn1 ex e) == 0, d), lok x (dn1 ex e), (dnI ex e == 0, false), lok x (dnI ex e), (shrL x (dnI ex e), false)] := by
  cases d <;> exact ⟨by kernel_rfl, by kernel_rfl, by kernel_rfl, by kernel_rfl⟩
theorem ct4 (n b : Bool) (x : W4) (ex e : Int) : Fits (reckon (tabOf Tryz.prog extY conH true) 300 82 [vN n ex x b, .int .i64 e] [cmp true, cmp false, cmp true]) (ctV x ex e 1) [(bitI x (dn1 ex e) == 0, true), lok x (dn1 ex e), (dnI ex e == 0, false), lok x (dnI ex e), (shrL x (dnI ex e), true)] := ⟨by kernel_rfl, by kernel_rfl, by kernel_rfl, by kernel_rfl⟩
theorem ct5 (n : Bool) (x : W4) (ex e : Int) : Fits (reckon (tabOf Tryz.prog extY conH true) 300 82 [vN n ex x true, .int .i64 e] [cmp true, cmp false, cmp false]) (ctV x ex e 3) [(bitI x (dn1 ex e) == 0, false), lok x (dn1 ex e), (dnI ex e == 0, false), lok x (dnI ex e), (shrL x (dnI ex e), true)] := ⟨by kernel_rfl, by kernel_rfl, by kernel_rfl, by kernel_rfl⟩
def bkW (x : W4) (ex e : Int) : W4 := shlW (ofN (tw (shrW x (dnI ex e)) true)) (dn1 ex e)
theorem ct6 (n : Bool) (x : W4) (ex e : Int) (d : Bool) : Fits (reckon (tabOf Tryz.prog extY conH true) 300 82 [vN n ex x false, .int .i64 e] [cmp true, cmp false, cmp false, sam d]) (ctV x ex e (match d with | true => 3 | false => 2)) [(!(eqW x (bkW x ex e)), d), lok (ofN (tw (shrW x (dnI ex e)) true)) (dn1 ex e), (decide (shrW x (dnI ex e)).ok, true), (bitI x (dn1 ex e) == 0, false), lok x (dn1 ex e), (dnI ex e == 0, false), lok x (dnI ex e), (shrL x (dnI ex e), true)] := by
  cases d <;> exact ⟨by kernel_rfl, by kernel_rfl, by kernel_rfl, by kernel_rfl⟩
def cutT (x : W4) (b : Bool) (d : Nat) : Value := .tuple #[vW (ofN (tw x b / 2 ^ (d + 1))), .int .i64 (restC (tw x b % 2 ^ (d + 1)) (2 ^ (d + 1)))]
theorem lok_ok {x : W4} {n : Int} (h : x.ok) (h0 : -9223372036854775808 ≤ n) (h1 : n ≤ 9223372036854775807) : decide (x.ok ∧ -9223372036854775808 ≤ n ∧ n ≤ 9223372036854775807) = true := decide_eq_true ⟨h, h0, h1⟩
theorem cut_calls (n b : Bool) (x : W4) (ex e : Int) (hx : x.ok) (h1 : -4000 ≤ ex) (h2 : ex ≤ e) (h3 : e ≤ 4000) (w : World) : Calls Tryz.prog 82 #[vN n ex x b, .int .i64 e] w fun r w' => r = .returned (cutT x b (e - ex).toNat) ∧ Tidy w w' := by
  obtain ⟨d, hd⟩ : ∃ d : Nat, e - ex = (d : Int) := ⟨(e - ex).toNat, by omega⟩
  have e1 : dnI ex e = (d : Int) := by unfold dnI; rw [wrapI' ⟨by omega, by omega⟩, hd]
  have e2 : dn1 ex e = (d : Int) - 1 := by
    unfold dn1
    rw [wrapI' (n := e - ex) ⟨by omega, by omega⟩, hd, wrapI' ⟨by omega, by omega⟩]
  have eV : ∀ c, c = restC (tw x b % 2 ^ (d + 1)) (2 ^ (d + 1)) → ctV x ex e c = cutT x b (e - ex).toNat := fun c hc => by
    unfold ctV cutT
    rw [e1, shrW_nat hx (by omega), hd, Int.toNat_natCast, tw_div, hc]
  have k1 : decide (x.ok ∧ -9223372036854775808 ≤ dnI ex e ∧ dnI ex e ≤ 9223372036854775807) = true := lok_ok hx (by omega) (by omega)
  have k2 : decide (x.ok ∧ -9223372036854775808 ≤ dn1 ex e ∧ dn1 ex e ≤ 9223372036854775807) = true := lok_ok hx (by omega) (by omega)
  have kl : shrL x (dnI ex e) = decide (x.nat % 2 ^ d ≠ 0) := by rw [e1, shrL_nat hx (by omega), Int.toNat_natCast]
  have hv : ([vN n ex x b, .int .i64 e].all (lt 0)) = true := rfl
  by_cases hl : x.nat % 2 ^ d = 0
  · have kf : shrL x (dnI ex e) = false := by rw [kl]; simp [hl]
    cases b
    · rw [← eV 0 (by rw [rc_none hl])]
      exact fits_calls (tabY_ok conH_ok) (ct0 n x ex e) (okCons k1 (okL1 kf)) hv (by rfl) w
    · cases d with
      | zero =>
        rw [← eV 2 (by rw [rc_zero])]
        exact fits_calls (tabY_ok conH_ok) (ct1 n x ex e) (okCons (by rw [e1]; rfl) (okCons k1 (okL1 kf))) hv (by rfl) w
      | succ j =>
        have k0 : (dnI ex e == 0) = false := by rw [e1]; simp; omega
        have e3 : dn1 ex e = (j : Int) := by rw [e2]; omega
        have kb : bitI x (dn1 ex e) = ((x.nat / 2 ^ j % 2 : Nat) : Int) := by rw [e3, bitI_nat hx (by omega), Int.toNat_natCast]
        by_cases hb : x.nat / 2 ^ j % 2 = 0
        · rw [← eV 1 (by rw [rc_below hb (.inr rfl)])]
          exact fits_calls (tabY_ok conH_ok) (ct2 n x ex e true) (okCons (by rw [kb, hb]; rfl) (okCons k2 (okCons k0 (okCons k1 (okL1 kf))))) hv (by rfl) w
        · have hb' : x.nat / 2 ^ j % 2 = 1 := by omega
          rw [← eV 3 (by rw [rc_above hb' (.inr rfl)])]
          exact fits_calls (tabY_ok conH_ok) (ct2 n x ex e false) (okCons (by rw [kb, hb']; rfl) (okCons k2 (okCons k0 (okCons k1 (okL1 kf))))) hv (by rfl) w
  · have kf : shrL x (dnI ex e) = true := by rw [kl]; simp [hl]
    cases d with
    | zero => exact absurd (by simp [Nat.mod_one]) hl
    | succ j =>
      have k0 : (dnI ex e == 0) = false := by rw [e1]; simp; omega
      have e3 : dn1 ex e = (j : Int) := by rw [e2]; omega
      have kb : bitI x (dn1 ex e) = ((x.nat / 2 ^ j % 2 : Nat) : Int) := by rw [e3, bitI_nat hx (by omega), Int.toNat_natCast]
      by_cases hb : x.nat / 2 ^ j % 2 = 0
      · rw [← eV 1 (by rw [rc_below hb (.inl hl)])]
        exact fits_calls (tabY_ok conH_ok) (ct4 n b x ex e) (okCons (by rw [kb, hb]; rfl) (okCons k2 (okCons k0 (okCons k1 (okL1 kf))))) hv (by rfl) w
      · have hb' : x.nat / 2 ^ j % 2 = 1 := by omega
        cases b
        · have hs : shrW x (dnI ex e) = ofN (x.nat / 2 ^ (j + 1)) := by rw [e1, shrW_nat hx (by omega), Int.toNat_natCast]
          have hlt := W4.nat_lt hx
          have hle : x.nat / 2 ^ (j + 1) ≤ x.nat := Nat.div_le_self _ _
          have hle2 : 2 * (x.nat / 2 ^ (j + 1)) ≤ x.nat := by
            have := Nat.div_mul_le_self x.nat (2 ^ (j + 1))
            have hp : 0 < 2 ^ j := Nat.pow_pos (by omega)
            have h9 : 2 * (x.nat / 2 ^ (j + 1)) ≤ x.nat / 2 ^ (j + 1) * 2 ^ (j + 1) := by
              rw [Nat.mul_comm 2, Nat.pow_succ]
              exact Nat.mul_le_mul_left _ (by omega)
            omega
          have ht : tw (shrW x (dnI ex e)) true = 2 * (x.nat / 2 ^ (j + 1)) + 1 := by
            unfold tw
            rw [hs, ofN_nat (by omega)]
          have hk : bkW x ex e = ofN ((2 * (x.nat / 2 ^ (j + 1)) + 1) * 2 ^ j) := by
            unfold bkW
            have e256 : (2 : Nat) ^ 256 = 115792089237316195423570985008687907853269984665640564039457584007913129639936 := rfl
            rw [ht, e3, shlW_nat (ofN_ok _) (by omega), Int.toNat_natCast, ofN_nat (by omega)]
          have kq : eqW x (bkW x ex e) = decide (x.nat % 2 ^ j = 0) := by rw [hk, back_iff hx hb']
          have kok : decide ((ofN (tw (shrW x (dnI ex e)) true)).ok ∧ -9223372036854775808 ≤ dn1 ex e ∧ dn1 ex e ≤ 9223372036854775807) = true := lok_ok (ofN_ok _) (by omega) (by omega)
          have ks : decide (shrW x (dnI ex e)).ok = true := by rw [hs]; exact decide_eq_true (ofN_ok _)
          by_cases hz : x.nat % 2 ^ j = 0
          · rw [← eV 2 (by rw [rc_half hb' hz])]
            exact fits_calls (tabY_ok conH_ok) (ct6 n x ex e false) (okCons (by rw [kq, decide_eq_true hz]; rfl) (okCons kok (okCons ks (okCons (by rw [kb, hb']; rfl) (okCons k2 (okCons k0 (okCons k1 (okL1 kf)))))))) hv (by rfl) w
          · rw [← eV 3 (by rw [rc_above hb' (.inl hz)])]
            exact fits_calls (tabY_ok conH_ok) (ct6 n x ex e true) (okCons (by rw [kq, decide_eq_false hz]; rfl) (okCons kok (okCons ks (okCons (by rw [kb, hb']; rfl) (okCons k2 (okCons k0 (okCons k1 (okL1 kf)))))))) hv (by rfl) w
        · rw [← eV 3 (by rw [rc_above hb' (.inr rfl)])]
          exact fits_calls (tabY_ok conH_ok) (ct5 n x ex e) (okCons (by rw [kb, hb']; rfl) (okCons k2 (okCons k0 (okCons k1 (okL1 kf))))) hv (by rfl) w
/-- what cut asks of its numbers -/
def okCut (x : W4) (ex e : Int) : Bool := decide (x.ok ∧ -4000 ≤ ex ∧ ex ≤ e ∧ e ≤ 4000)
def gCut : Ans := fun vals s =>
  match vals with
  | [v, .int .i64 e] =>
    match n7 v with
    | some (_, ex, x, b) => some (cutT x b (e - ex).toNat, s, [(okCut x ex e, true)])
    | none => none
  | _ => none
theorem gCut_ok : AnsOk 82 gCut := by
  intro vals s v s' lg h hl w
  unfold gCut at h
  split at h
  · split at h
    · rename_i n ex x b hn
      cases h
      have h1 := of_decide_eq_true (hl _ (List.mem_singleton.2 rfl))
      rw [n7_spec hn]
      exact cut_calls n b x ex _ h1.1 h1.2.1 h1.2.2.1 h1.2.2.2 w
    · cases h
  · cases h
def conC : Con := alt 83 gUp (alt 82 gCut conH)
theorem conC_ok : ConOk conC := alt_ok Tryz.func83 rfl gUp_ok (alt_ok Tryz.func82 rfl gCut_ok conH_ok)
def lowW (x : W4) (b : Bool) (ex e : Int) : W4 := ofN (tw x b / 2 ^ ((e - ex).toNat + 1))
def rsI (x : W4) (b : Bool) (ex e : Int) : Int := restC (tw x b % 2 ^ ((e - ex).toNat + 1)) (2 ^ ((e - ex).toNat + 1))
def upX (m : Int) (n : Bool) (x : W4) (b : Bool) (ex e : Int) : Bool := upR m n (bitI (lowW x b ex e) 0 != 0) (rsI x b ex e)
def up1 (ex e : Int) : Int := IntKind.i64.wrap (IntKind.i64.wrap (ex - e) - 1)
def w1 : W4 := ⟨1, 0, 0, 0⟩
def w63 : W4 := ⟨0, 0, 0, 9223372036854775808⟩
def lAd (x : W4) : Bool × Bool := (decide (x.ok ∧ w1.ok), true)
def lBt (x : W4) : Bool × Bool := (decide (x.ok ∧ (-9223372036854775808 : Int) ≤ 0 ∧ (0 : Int) ≤ 9223372036854775807), true)
def lOv (x : W4) (d : Bool) : Bool × Bool := (decide (115792089237316195423570985008687907853269984665640564039457584007913129639936 ≤ x.val + w1.val), d)
def tmR (n : Bool) (e : Int) (x : W4) (l : Bool) : Value := .tuple #[vN n e x false, .bool l]
theorem tm0 (n b : Bool) (x : W4) (ex e m : Int) : Fits (reckon (tabOf Tryz.prog extY conC true) 300 61 [vN n ex x b, .int .i64 e, .int .i64 m] [cmp true]) (tmR n e (shlW (ofN (tw x b)) (up1 ex e)) false) [lok (ofN (tw x b)) (up1 ex e), (decide x.ok, true), (decide (e < ex), true)] := ⟨by kernel_rfl, by kernel_rfl, by kernel_rfl, by kernel_rfl⟩
theorem tm1 (n b : Bool) (x : W4) (ex e m : Int) : Fits (reckon (tabOf Tryz.prog extY conC true) 300 61 [vN n ex x b, .int .i64 e, .int .i64 m] [cmp false, tst false, tst false]) (tmR n e (lowW x b ex e) (rsI x b ex e != 0)) [(upX m n x b ex e, false), lBt (lowW x b ex e), (okCut x ex e, true), (false, false), (decide (e < ex), false)] := ⟨by kernel_rfl, by kernel_rfl, by kernel_rfl, by kernel_rfl⟩
theorem tm2 (n b : Bool) (x : W4) (ex e m : Int) : Fits (reckon (tabOf Tryz.prog extY conC true) 300 61 [vN n ex x b, .int .i64 e, .int .i64 m] [cmp false, tst false, tst true, tst false]) (tmR n e (W4.of ((lowW x b ex e).val + w1.val)) (rsI x b ex e != 0)) [lOv (lowW x b ex e) false, lAd (lowW x b ex e), lAd (lowW x b ex e), lAd (lowW x b ex e), (upX m n x b ex e, true), lBt (lowW x b ex e), (okCut x ex e, true), (false, false), (decide (e < ex), false)] := ⟨by kernel_rfl, by kernel_rfl, by kernel_rfl, by kernel_rfl⟩
theorem tm3 (n b : Bool) (x : W4) (ex e m : Int) : Fits (reckon (tabOf Tryz.prog extY conC true) 300 61 [vN n ex x b, .int .i64 e, .int .i64 m] [cmp false, tst false, tst true, tst true]) (tmR n (IntKind.i64.wrap (e + 1)) w63 (rsI x b ex e != 0)) [lOv (lowW x b ex e) true, lAd (lowW x b ex e), lAd (lowW x b ex e), lAd (lowW x b ex e), (upX m n x b ex e, true), lBt (lowW x b ex e), (okCut x ex e, true), (false, false), (decide (e < ex), false)] := ⟨by kernel_rfl, by kernel_rfl, by kernel_rfl, by kernel_rfl⟩
theorem ofN_nat' (n : Nat) : (ofN n).nat = n % 2 ^ 256 := by
  have e : (2 : Nat) ^ 256 = 115792089237316195423570985008687907853269984665640564039457584007913129639936 := rfl
  unfold W4.nat ofN
  rw [W4.val_of, e]
  omega
theorem low_lt {x : W4} (hx : x.ok) (b : Bool) (d : Nat) : tw x b / 2 ^ (d + 1) < 2 ^ 256 := by
  rw [tw_div]
  exact Nat.lt_of_le_of_lt (Nat.div_le_self _ _) (W4.nat_lt hx)
theorem upX_eq {m : Int} {n : Bool} {x : W4} {b : Bool} {ex e : Int} (hx : x.ok) : upX m n x b ex e = upR m n (odd (tw x b / 2 ^ ((e - ex).toNat + 1))) (rsI x b ex e) := by
  unfold upX lowW
  congr 1
  rw [bitI_nat (ofN_ok _) (by omega), ofN_nat (low_lt hx _ _)]
  unfold odd
  generalize tw x b / 2 ^ ((e - ex).toNat + 1) = q
  have e0 : q / 2 ^ (0 : Int).toNat % 2 = q % 2 := by simp
  rw [e0, Bool.eq_iff_iff]
  simp only [bne_iff_ne, ne_eq, decide_eq_true_eq]
  omega
theorem toQ_down {m : Int} {n : Bool} {T : Nat} {ex e : Int} (h : ex ≤ e) : toQ m n T (ex - 1) e = rq m n T ((e - ex).toNat + 1) := by
  unfold toQ
  rw [if_neg (by omega)]
  congr 1
  omega
theorem toL_down {T : Nat} {ex e : Int} (h : ex ≤ e) : toL T (ex - 1) e = decide (T % 2 ^ ((e - ex).toNat + 1) ≠ 0) := by
  unfold toL
  rw [if_neg (by omega), show (e - (ex - 1)).toNat = (e - ex).toNat + 1 by omega]
theorem rs_ne {x : W4} {b : Bool} {ex e : Int} (h : ex ≤ e) : (rsI x b ex e != 0) = toL (tw x b) (ex - 1) e := by
  rw [toL_down h, Bool.eq_iff_iff]
  simp only [bne_iff_ne, ne_eq, decide_eq_true_eq]
  unfold rsI
  rw [restC_iff]
theorem tm_calls (n b : Bool) (x : W4) (ex e m : Int) (hx : x.ok) (h1 : -4000 ≤ ex) (h1' : ex ≤ 4000) (h2 : -4000 ≤ e) (h3 : e ≤ 4000) (hq : toQ m n (tw x b) (ex - 1) e < 2 ^ 256) (w : World) : Calls Tryz.prog 61 #[vN n ex x b, .int .i64 e, .int .i64 m] w fun r w' => r = .returned (tmR n e (ofN (toQ m n (tw x b) (ex - 1) e)) (toL (tw x b) (ex - 1) e)) ∧ Tidy w w' := by
  have hv : ([vN n ex x b, .int .i64 e, .int .i64 m].all (lt 0)) = true := rfl
  by_cases hlt : e < ex
  · have e1 : up1 ex e = ex - e - 1 := by unfold up1; rw [wrapI' (n := ex - e) ⟨by omega, by omega⟩, wrapI' ⟨by omega, by omega⟩]
    have h := fits_calls (tabY_ok conC_ok) (tm0 n b x ex e m) (okCons (lok_ok (ofN_ok _) (by omega) (by omega)) (okCons (decide_eq_true hx) (okL1 (decide_eq_true hlt)))) hv (by rfl) w
    rw [e1, shlW_nat (ofN_ok _) (by omega), ofN_nat', ofN_mul_mod] at h
    unfold toQ toL
    rw [if_pos (by omega), if_pos (by omega), show (ex - 1 - e).toNat = (ex - e - 1).toNat by omega]
    exact h
  · have hle : ex ≤ e := by omega
    have kc : okCut x ex e = true := decide_eq_true ⟨hx, h1, hle, h3⟩
    have kb : (decide ((lowW x b ex e).ok ∧ (-9223372036854775808 : Int) ≤ 0 ∧ (0 : Int) ≤ 9223372036854775807)) = true := decide_eq_true ⟨ofN_ok _, by omega, by omega⟩
    have kl : decide (e < ex) = false := decide_eq_false hlt
    have ka : decide ((lowW x b ex e).ok ∧ w1.ok) = true := decide_eq_true ⟨ofN_ok _, W4.ok_of 1⟩
    rw [toQ_down hle] at hq ⊢
    rw [← rs_ne hle]
    have hu := upX_eq (m := m) (n := n) (b := b) (ex := ex) (e := e) hx
    unfold rq at hq ⊢
    by_cases hup : upX m n x b ex e = true
    · rw [hu] at hup
      unfold rsI at hup
      rw [if_pos hup] at hq ⊢
      have hval : (lowW x b ex e).val = ((tw x b / 2 ^ ((e - ex).toNat + 1) : Nat) : Int) := by
        unfold lowW
        rw [W4.nat_val (ofN_ok _), ofN_nat (low_lt hx _ _)]
      have e256 : (2 : Nat) ^ 256 = 115792089237316195423570985008687907853269984665640564039457584007913129639936 := rfl
      have hw1 : w1.val = 1 := rfl
      have ko : decide (115792089237316195423570985008687907853269984665640564039457584007913129639936 ≤ (lowW x b ex e).val + w1.val) = false := decide_eq_false (by rw [hval, hw1]; omega)
      have h := fits_calls (tabY_ok conC_ok) (tm2 n b x ex e m) (okCons ko (okCons ka (okCons ka (okCons ka (okCons (by rw [hu]; exact hup) (okCons kb (okCons kc (okCons rfl (okL1 kl))))))))) hv (by rfl) w
      rw [hval, hw1] at h
      exact h
    · rw [Bool.not_eq_true] at hup
      have h := fits_calls (tabY_ok conC_ok) (tm1 n b x ex e m) (okCons hup (okCons kb (okCons kc (okCons rfl (okL1 kl))))) hv (by rfl) w
      rw [hu] at hup
      unfold rsI at hup
      rw [hup]
      exact h
theorem tm_over (n b : Bool) (x : W4) (ex e m : Int) (hx : x.ok) (h1 : -4000 ≤ ex) (hle : ex ≤ e) (h3 : e ≤ 4000) (hq : ¬ toQ m n (tw x b) (ex - 1) e < 2 ^ 256) (w : World) : Calls Tryz.prog 61 #[vN n ex x b, .int .i64 e, .int .i64 m] w fun r w' => r = .returned (tmR n (e + 1) w63 (toL (tw x b) (ex - 1) e)) ∧ Tidy w w' := by
  have hv : ([vN n ex x b, .int .i64 e, .int .i64 m].all (lt 0)) = true := rfl
  have hlt : ¬ e < ex := by omega
  have kc : okCut x ex e = true := decide_eq_true ⟨hx, h1, hle, h3⟩
  have kb : (decide ((lowW x b ex e).ok ∧ (-9223372036854775808 : Int) ≤ 0 ∧ (0 : Int) ≤ 9223372036854775807)) = true := decide_eq_true ⟨ofN_ok _, by omega, by omega⟩
  have kl : decide (e < ex) = false := decide_eq_false hlt
  have ka : decide ((lowW x b ex e).ok ∧ w1.ok) = true := decide_eq_true ⟨ofN_ok _, W4.ok_of 1⟩
  rw [toQ_down hle] at hq
  rw [← rs_ne hle]
  have hu := upX_eq (m := m) (n := n) (b := b) (ex := ex) (e := e) hx
  have hlw := low_lt hx b (e - ex).toNat
  unfold rq at hq
  by_cases hup : upX m n x b ex e = true
  · have hup' := hup
    rw [hu] at hup
    unfold rsI at hup
    rw [if_pos hup] at hq
    have hval : (lowW x b ex e).val = ((tw x b / 2 ^ ((e - ex).toNat + 1) : Nat) : Int) := by
      unfold lowW
      rw [W4.nat_val (ofN_ok _), ofN_nat (low_lt hx _ _)]
    have e256 : (2 : Nat) ^ 256 = 115792089237316195423570985008687907853269984665640564039457584007913129639936 := rfl
    have hw1 : w1.val = 1 := rfl
    have ko : decide (115792089237316195423570985008687907853269984665640564039457584007913129639936 ≤ (lowW x b ex e).val + w1.val) = true := decide_eq_true (by rw [hval, hw1]; omega)
    have h := fits_calls (tabY_ok conC_ok) (tm3 n b x ex e m) (okCons ko (okCons ka (okCons ka (okCons ka (okCons hup' (okCons kb (okCons kc (okCons rfl (okL1 kl))))))))) hv (by rfl) w
    rw [wrapI' ⟨by omega, by omega⟩] at h
    exact h
  · rw [hu] at hup
    unfold rsI at hup
    rw [if_neg hup] at hq
    omega
/-- what it asks; whether all bits fit is told ahead -/
def okTm (x : W4) (ex e : Int) : Bool := decide (x.ok ∧ -4000 ≤ ex ∧ ex ≤ 4000 ∧ -4000 ≤ e ∧ e ≤ 4000)
def gTm : Ans := fun vals s =>
  match vals with
  | [v, .int .i64 e, .int .i64 m] =>
    match n7 v, s with
    | some (n, ex, x, b), .inr (.inr (.inr (.inl true))) :: .inr (.inr (.inr (.inl d))) :: s' => some (tmR n e (ofN (toQ m n (tw x b) (ex - 1) e)) d, s', [(toL (tw x b) (ex - 1) e, d), (decide (toQ m n (tw x b) (ex - 1) e < 2 ^ 256), true), (okTm x ex e, true)])
    | some (n, ex, x, b), [.inr (.inr (.inr (.inl true)))] => some (tmR n e (ofN (toQ m n (tw x b) (ex - 1) e)) (toL (tw x b) (ex - 1) e), [], [(decide (toQ m n (tw x b) (ex - 1) e < 2 ^ 256), true), (okTm x ex e, true)])
    | some (n, ex, x, b), .inr (.inr (.inr (.inl false))) :: s' => some (tmR n (e + 1) w63 (toL (tw x b) (ex - 1) e), s', [(decide (toQ m n (tw x b) (ex - 1) e < 2 ^ 256), false), (decide (ex ≤ e), true), (okTm x ex e, true)])
    | _, _ => none
  | _ => none
theorem gTm_ok : AnsOk 61 gTm := by
  intro vals s v s' lg h hl w
  unfold gTm at h
  split at h
  · split at h
    · rename_i n ex x b d s2 hn
      cases h
      rw [okCs, okCs, okCs] at hl
      have h1 := of_decide_eq_true hl.2.2.1
      rw [n7_spec hn, ← hl.1]
      exact tm_calls n b x ex _ _ h1.1 h1.2.1 h1.2.2.1 h1.2.2.2.1 h1.2.2.2.2 (of_decide_eq_true hl.2.1) w
    · rename_i n ex x b hn
      cases h
      rw [okCs, okCs] at hl
      have h1 := of_decide_eq_true hl.2.1
      rw [n7_spec hn]
      exact tm_calls n b x ex _ _ h1.1 h1.2.1 h1.2.2.1 h1.2.2.2.1 h1.2.2.2.2 (of_decide_eq_true hl.1) w
    · rename_i n ex x b s2 hn
      cases h
      rw [okCs, okCs, okCs] at hl
      have h1 := of_decide_eq_true hl.2.2.1
      rw [n7_spec hn]
      exact tm_over n b x ex _ _ h1.1 h1.2.1 (of_decide_eq_true hl.2.1) h1.2.2.2.2 (of_decide_eq_false hl.1) w
    · cases h
  · cases h
def conT : Con := alt 61 gTm conC
theorem conT_ok : ConOk conT := alt_ok Tryz.func61 rfl gTm_ok conC_ok
/-! ### nearer -/
def clp (e : Int) : Int := if 2000 < (if -2000 > e then -2000 else e) then 2000 else (if -2000 > e then -2000 else e)
theorem clp_bd (e : Int) : -2000 ≤ clp e ∧ clp e ≤ 2000 := by unfold clp; split <;> split <;> omega
theorem nr_fits (n b : Bool) (x : W4) (e : Int) : Fits (reckon (tabOf Tryz.prog extY conN true) 300 59 [vN n e x b] []) (vN n (clp e) x b) [] := ⟨by kernel_rfl, by kernel_rfl, by kernel_rfl, by kernel_rfl⟩
def gNear : Ans := fun vals s =>
  match vals with
  | [v] =>
    match n7 v with
    | some (n, e, x, b) => some (vN n (clp e) x b, s, [])
    | none => none
  | _ => none
theorem gNear_ok : AnsOk 59 gNear := by
  intro vals s v s' lg h hl w
  unfold gNear at h
  split at h
  · split at h
    · rename_i n e x b hn
      cases h
      rw [n7_spec hn]
      exact fits_calls (tabY_ok conN_ok) (nr_fits n b x e) okNl (by rfl) (by rfl) w
    · cases h
  · cases h
/-! ### beyond -/
theorem by_t (n : Bool) (m : Int) : Fits (reckon (tabOf Tryz.prog extY conT true) 300 63 [.bool n, .int .i64 m] [tst true]) (.int .u64 9218868437227405312) [(upR m n true 3, true)] := ⟨by kernel_rfl, by kernel_rfl, by kernel_rfl, by kernel_rfl⟩
theorem by_f (n : Bool) (m : Int) : Fits (reckon (tabOf Tryz.prog extY conT true) 300 63 [.bool n, .int .i64 m] [tst false]) (.int .u64 9218868437227405311) [(upR m n true 3, false)] := ⟨by kernel_rfl, by kernel_rfl, by kernel_rfl, by kernel_rfl⟩
def gBey : Ans := fun vals s =>
  match vals with
  | [.bool n, .int .i64 m] => some (.int .u64 (bey m n), s, [])
  | _ => none
theorem gBey_ok : AnsOk 63 gBey := by
  intro vals s v s' lg h hl w
  unfold gBey at h
  split at h
  · rename_i n m
    cases h
    unfold bey
    by_cases hu : upR m n true 3 = true
    · rw [if_pos hu]
      exact fits_calls (tabY_ok conT_ok) (by_t n m) (okL1 hu) (by rfl) (by rfl) w
    · rw [if_neg hu]
      exact fits_calls (tabY_ok conT_ok) (by_f n m) (okL1 (by simpa using hu)) (by rfl) (by rfl) w
  · cases h
/-! ### isTiny -/
def m52 (k : Int) : Int := IntKind.i64.wrap (k - 52)
def tnQ (m : Int) (n : Bool) (x : W4) (b : Bool) (ex k : Int) : W4 := ofN (toQ m n (tw x b) (ex - 1) (m52 k))
def lgW (e : Int) (x : W4) : Int := IntKind.i64.wrap (IntKind.i64.wrap (e + lenI x) - 1)
theorem ti0 (n b : Bool) (x : W4) (ex k m : Int) : Fits (reckon (tabOf Tryz.prog extY conT true) 300 64 [vN n ex x b, .int .i64 k, .int .i64 m] [cmp true]) (.bool (decide (k < -1022))) [(k != -1023, true)] := ⟨by kernel_rfl, by kernel_rfl, by kernel_rfl, by kernel_rfl⟩
theorem ti1 (n b : Bool) (x : W4) (ex k m : Int) : Fits (reckon (tabOf Tryz.prog extY conT true) 300 64 [vN n ex x b, .int .i64 k, .int .i64 m] [cmp false, cmp true]) (.bool (decide (lgW (m52 k) (tnQ m n x b ex k) < -1022))) [(decide (tnQ m n x b ex k).ok, true), (decide (toQ m n (tw x b) (ex - 1) (m52 k) < 2 ^ 256), true), (okTm x ex (m52 k), true), (k != -1023, false)] := ⟨by kernel_rfl, by kernel_rfl, by kernel_rfl, by kernel_rfl⟩
def tnK (m : Int) (n : Bool) (T : Nat) (E k : Int) : Bool := if k = -1023 then decide (toQ m n T E (-1075) < 9007199254740992) else decide (k < -1022)
theorem lenI_nat (x : W4) : lenI x = (bitLen x.nat : Nat) := rfl
theorem len_lt53 {q : Nat} : bitLen q < 54 ↔ q < 9007199254740992 := by
  constructor
  · intro h
    have h1 := (bitLen_spec q).1
    have h2 := Nat.pow_le_pow_right (show 0 < 2 by omega) (show bitLen q ≤ 53 by omega)
    have e : (2 : Nat) ^ 53 = 9007199254740992 := rfl
    omega
  · intro h
    have := len_le (T := q) (k := 53) h
    omega
theorem tiny_calls (n b : Bool) (x : W4) (ex k m : Int) (h1 : x.ok ∧ -4000 ≤ ex ∧ ex ≤ 4000 ∧ -4000 ≤ (0 : Int) ∧ (0 : Int) ≤ 4000) (h2 : k = -1023 → toQ m n (tw x b) (ex - 1) (-1075) < 2 ^ 256) (w : World) : Calls Tryz.prog 64 #[vN n ex x b, .int .i64 k, .int .i64 m] w fun r w' => r = .returned (.bool (tnK m n (tw x b) (ex - 1) k)) ∧ Tidy w w' := by
  unfold tnK
  by_cases hk : k = -1023
  · rw [if_pos hk]
    have e0 : m52 k = -1075 := by rw [hk]; rfl
    have hq := h2 hk
    have hlen : bitLen (toQ m n (tw x b) (ex - 1) (-1075)) ≤ 256 := len_le hq
    have e1 : lgW (m52 k) (tnQ m n x b ex k) = -1076 + (bitLen (toQ m n (tw x b) (ex - 1) (-1075)) : Nat) := by
      unfold lgW tnQ
      rw [e0, lenI_nat, ofN_nat hq, wrapI' (n := -1075 + ((bitLen (toQ m n (tw x b) (ex - 1) (-1075)) : Nat) : Int)) ⟨by omega, by omega⟩, wrapI' ⟨by omega, by omega⟩]
      omega
    have h := fits_calls (tabY_ok conT_ok) (ti1 n b x ex k m) (okCons (decide_eq_true (ofN_ok _)) (okCons (by rw [e0]; exact decide_eq_true hq) (okCons (by rw [e0]; exact decide_eq_true ⟨h1.1, h1.2.1, h1.2.2.1, by omega, by omega⟩) (okL1 (by rw [hk]; rfl))))) (by rfl) (by rfl) w
    rw [e1] at h
    have e2 : decide (-1076 + ((bitLen (toQ m n (tw x b) (ex - 1) (-1075)) : Nat) : Int) < -1022) = decide (toQ m n (tw x b) (ex - 1) (-1075) < 9007199254740992) := by
      congr 1
      rw [← len_lt53]
      simp only [eq_iff_iff]
      omega
    rw [e2] at h
    exact h
  · rw [if_neg hk]
    exact fits_calls (tabY_ok conT_ok) (ti0 n b x ex k m) (okL1 (by simpa using hk)) (by rfl) (by rfl) w
def gTiny : Ans := fun vals s =>
  match vals with
  | [v, .int .i64 k, .int .i64 m] =>
    match n7 v, s with
    | some (n, ex, x, b), .inr (.inr (.inr (.inl d))) :: s' => some (.bool d, s', [(tnK m n (tw x b) (ex - 1) k, d), (decide (k = -1023 → toQ m n (tw x b) (ex - 1) (-1075) < 2 ^ 256), true), (okTm x ex 0, true)])
    | _, _ => none
  | _ => none
theorem gTiny_ok : AnsOk 64 gTiny := by
  intro vals s v s' lg h hl w
  unfold gTiny at h
  split at h
  · split at h
    · rename_i n ex x b d s2 hn
      cases h
      rw [okCs, okCs, okCs] at hl
      rw [n7_spec hn, ← hl.1]
      exact tiny_calls n b x ex _ _ (of_decide_eq_true hl.2.2.1) (of_decide_eq_true hl.2.1) w
    · cases h
  · cases h
def conTi : Con := alt 59 gNear (alt 63 gBey (alt 64 gTiny conT))
theorem conTi_ok : ConOk conTi := alt_ok Tryz.func59 rfl gNear_ok (alt_ok Tryz.func63 rfl gBey_ok (alt_ok Tryz.func64 rfl gTiny_ok conT_ok))
def lgR (ex : Int) (x : W4) : Int := lgW (clp ex) x
def e0 (ex : Int) (x : W4) : Int := if -1074 > m52 (lgR ex x) then -1074 else m52 (lgR ex x)
def qR (m : Int) (n : Bool) (x : W4) (b : Bool) (ex : Int) : Nat := toQ m n (tw x b) (clp ex - 1) (e0 ex x)
def oR (x : W4) (b : Bool) (ex : Int) : Bool := toL (tw x b) (clp ex - 1) (e0 ex x)
def pR (m : Int) (n : Bool) (x : W4) (b : Bool) (ex : Int) : Int := IntKind.u64.wrap (IntKind.u64.wrap (IntKind.u64.wrap (IntKind.i64.wrap (e0 ex x - -1074)) * 2 ^ min (Int.toNat 52) 64) + (ofN (qR m n x b ex)).a)
def sgR (n : Bool) (p : Int) : Int := match n with | true => bXor p 9223372036854775808 | false => p
def lTm (m : Int) (n : Bool) (x : W4) (b : Bool) (ex : Int) (o d : Bool) : Log := [(oR x b ex, o), (decide (qR m n x b ex < 2 ^ 256), true), (okTm x (clp ex) (e0 ex x), true), (decide x.ok, true), (eqW x ⟨0, 0, 0, 0⟩, d)]
def lBig (m : Int) (n : Bool) (x : W4) (b : Bool) (ex : Int) (d : Bool) : Bool × Bool := (decide (pR m n x b ex ≥ 9218868437227405312), d)
def l52 : Bool × Bool := (decide ((52 : Int) < 0), false)
def rdT (p f : Int) : Value := .tuple #[.int .u64 p, .int .u8 f]
theorem rd_zero (n : Bool) (x : W4) (ex m : Int) : Fits (reckon (tabOf Tryz.prog extY conTi true) 300 40 [vN n ex x false, .int .i64 m] [sam true]) (rdT (sgR n 0) 0) [(eqW x ⟨0, 0, 0, 0⟩, true)] := by
  cases n <;> exact ⟨by kernel_rfl, by kernel_rfl, by kernel_rfl, by kernel_rfl⟩
theorem rd_big (n b o : Bool) (x : W4) (ex m : Int) : Fits (reckon (tabOf Tryz.prog extY conTi true) 300 40 [vN n ex x b, .int .i64 m] [sam false, cmp true, cmp o, cmp true]) (rdT (sgR n (bey m n)) 20) (lBig m n x b ex true :: l52 :: lTm m n x b ex o false) := by
  cases n <;> cases o <;> exact ⟨by kernel_rfl, by kernel_rfl, by kernel_rfl, by kernel_rfl⟩
theorem rd_big' (n o : Bool) (x : W4) (ex m : Int) : Fits (reckon (tabOf Tryz.prog extY conTi true) 300 40 [vN n ex x true, .int .i64 m] [sam true, cmp true, cmp o, cmp true]) (rdT (sgR n (bey m n)) 20) (lBig m n x true ex true :: l52 :: lTm m n x true ex o true) := by
  cases n <;> cases o <;> exact ⟨by kernel_rfl, by kernel_rfl, by kernel_rfl, by kernel_rfl⟩
theorem rd_just (n b : Bool) (x : W4) (ex m : Int) : Fits (reckon (tabOf Tryz.prog extY conTi true) 300 40 [vN n ex x b, .int .i64 m] [sam false, cmp true, cmp false, cmp false]) (rdT (sgR n (pR m n x b ex)) 0) (lBig m n x b ex false :: l52 :: lTm m n x b ex false false) := by
  cases n <;> exact ⟨by kernel_rfl, by kernel_rfl, by kernel_rfl, by kernel_rfl⟩
theorem rd_just' (n : Bool) (x : W4) (ex m : Int) : Fits (reckon (tabOf Tryz.prog extY conTi true) 300 40 [vN n ex x true, .int .i64 m] [sam true, cmp true, cmp false, cmp false]) (rdT (sgR n (pR m n x true ex)) 0) (lBig m n x true ex false :: l52 :: lTm m n x true ex false true) := by
  cases n <;> exact ⟨by kernel_rfl, by kernel_rfl, by kernel_rfl, by kernel_rfl⟩
def fgT (t : Bool) : Int := match t with | true => 24 | false => 16
def lTn (m : Int) (n : Bool) (x : W4) (b : Bool) (ex : Int) (t : Bool) (l : Log) : Log := (tnK m n (tw x b) (clp ex - 1) (lgR ex x), t) :: (decide (lgR ex x = -1023 → toQ m n (tw x b) (clp ex - 1) (-1075) < 2 ^ 256), true) :: (okTm x (clp ex) 0, true) :: l
theorem rd_near (n b t : Bool) (x : W4) (ex m : Int) : Fits (reckon (tabOf Tryz.prog extY conTi true) 300 40 [vN n ex x b, .int .i64 m] [sam false, cmp true, cmp true, cmp false, cmp t]) (rdT (sgR n (pR m n x b ex)) (fgT t)) (lTn m n x b ex t (lBig m n x b ex false :: l52 :: lTm m n x b ex true false)) := by
  cases n <;> cases t <;> exact ⟨by kernel_rfl, by kernel_rfl, by kernel_rfl, by kernel_rfl⟩
theorem rd_near' (n t : Bool) (x : W4) (ex m : Int) : Fits (reckon (tabOf Tryz.prog extY conTi true) 300 40 [vN n ex x true, .int .i64 m] [sam true, cmp true, cmp true, cmp false, cmp t]) (rdT (sgR n (pR m n x true ex)) (fgT t)) (lTn m n x true ex t (lBig m n x true ex false :: l52 :: lTm m n x true ex true true)) := by
  cases n <;> cases t <;> exact ⟨by kernel_rfl, by kernel_rfl, by kernel_rfl, by kernel_rfl⟩
/-! ### its numbers -/
theorem tw_len {x : W4} {b : Bool} (h : tw x b ≠ 0) : bitLen (tw x b) = bitLen x.nat + 1 := by
  have hd : tw x b / 2 ^ 1 = x.nat := by
    have := tw_div x b 0
    simpa using this
  by_cases h0 : x.nat = 0
  · have : tw x b = 1 := by
      have e : tw x b / 2 = x.nat := by simpa using hd
      omega
    rw [this, h0]
    rfl
  · rw [bitLen_shift (tw x b) 1 (by rw [hd]; exact h0), hd]
    omega
theorem len256 {x : W4} (hx : x.ok) : bitLen x.nat ≤ 256 := len_le (W4.nat_lt hx)
theorem lgR_eq {x : W4} {b : Bool} {ex : Int} (hx : x.ok) (h : tw x b ≠ 0) : lgR ex x = lgN (tw x b) (clp ex - 1) := by
  have h1 := clp_bd ex
  have h2 := len256 hx
  unfold lgR lgW lgN
  rw [lenI_nat, tw_len h, wrapI' (n := clp ex + ((bitLen x.nat : Nat) : Int)) ⟨by omega, by omega⟩, wrapI' ⟨by omega, by omega⟩]
  omega
theorem lgN_bd {x : W4} {b : Bool} {ex : Int} (hx : x.ok) (h : tw x b ≠ 0) : -2002 ≤ lgN (tw x b) (clp ex - 1) ∧ lgN (tw x b) (clp ex - 1) ≤ 2300 := by
  have h1 := clp_bd ex
  have h2 := len256 hx
  unfold lgN
  rw [tw_len h]
  omega
theorem e0_eq {x : W4} {b : Bool} {ex : Int} (hx : x.ok) (h : tw x b ≠ 0) : e0 ex x = lowE (tw x b) (clp ex - 1) := by
  have hb := lgN_bd (ex := ex) hx h
  unfold e0 m52 lowE
  rw [lgR_eq hx h, wrapI' ⟨by omega, by omega⟩]
  split <;> split <;> omega
theorem lowE_bd {x : W4} {b : Bool} {ex : Int} (hx : x.ok) (h : tw x b ≠ 0) : -1074 ≤ lowE (tw x b) (clp ex - 1) ∧ lowE (tw x b) (clp ex - 1) ≤ 2300 := by
  have hb := lgN_bd (ex := ex) hx h
  unfold lowE
  split <;> omega
theorem ofN_a {q : Nat} (h : q < 18446744073709551616) : (ofN q).a = (q : Int) := by unfold ofN W4.of; dsimp only; omega
theorem pR_eq {m : Int} {n : Bool} {x : W4} {b : Bool} {ex : Int} (hx : x.ok) (h : tw x b ≠ 0) : pR m n x b ex = p0 m n (tw x b) (clp ex - 1) ∧ p0 m n (tw x b) (clp ex - 1) < 18446744073709551616 := by
  have hb := lowE_bd (ex := ex) hx h
  have hq := low_hi m n (tw x b) (clp ex - 1)
  have e1 : ((2 : Int) ^ min (Int.toNat 52) 64) = 4503599627370496 := by rfl
  unfold pR qR p0
  rw [e0_eq hx h, ofN_a (by omega), e1, wrapI' ⟨by omega, by omega⟩, wrapU' (n := lowE (tw x b) (clp ex - 1) - -1074) ⟨by omega, by omega⟩, wrapU' (n := (lowE (tw x b) (clp ex - 1) - -1074) * 4503599627370496) ⟨by omega, by omega⟩, wrapU' ⟨by omega, by omega⟩]
  omega
def sS (n : Bool) (p : Int) : Int := if n = true then 9223372036854775808 + p else p
theorem sgR_eq {n : Bool} {p : Int} (h0 : 0 ≤ p) (h1 : p ≤ 9218868437227405312) : sgR n p = sS n p := by
  cases n
  · rfl
  · simp only [sgR, sS, if_true]
    rw [bXor_sign ⟨by omega, by omega⟩]
    omega
theorem tnK_eq (m : Int) (n : Bool) (T : Nat) (E : Int) : tnK m n T E (lgN T E) = tiny m n T E := rfl
/-- what Round answers -/
def rdV (m : Int) (n : Bool) (T : Nat) (E : Int) : Value := rdT (sS n (rnP m n T E)) (rnF m n T E)
theorem round_calls (n b : Bool) (x : W4) (ex m : Int) (hx : x.ok) (w : World) : Calls Tryz.prog 40 #[vN n ex x b, .int .i64 m] w fun r w' => r = .returned (rdV m n (tw x b) (clp ex - 1)) ∧ Tidy w w' := by
  have hv : ([vN n ex x b, .int .i64 m].all (lt 0)) = true := rfl
  unfold rdV
  by_cases hz : tw x b = 0
  · have h1 := (tw_zero hx).1 hz
    rw [Bool.and_eq_true] at h1
    have hb : b = false := by simpa using h1.2
    subst hb
    have h := fits_calls (tabY_ok conTi_ok) (rd_zero n x ex m) (okL1 h1.1) hv (by rfl) w
    rw [sgR_eq (by omega) (by omega)] at h
    unfold rnP rnF
    rw [if_pos hz, if_pos hz]
    exact h
  · obtain ⟨ep, hp⟩ := pR_eq (m := m) (n := n) (ex := ex) hx hz
    have hbd := clp_bd ex
    have hel := lowE_bd (ex := ex) hx hz
    have hq := low_hi m n (tw x b) (clp ex - 1)
    have ee := e0_eq (ex := ex) hx hz
    have el := lgR_eq (ex := ex) hx hz
    have hp0 := p0_nonneg m n (tw x b) (clp ex - 1)
    have e256 : (2 : Nat) ^ 256 = 115792089237316195423570985008687907853269984665640564039457584007913129639936 := rfl
    have kq : decide (qR m n x b ex < 2 ^ 256) = true := decide_eq_true (by unfold qR; rw [ee]; omega)
    have kt : okTm x (clp ex) (e0 ex x) = true := decide_eq_true ⟨hx, by omega, by omega, by omega, by omega⟩
    have kt0 : okTm x (clp ex) 0 = true := decide_eq_true ⟨hx, by omega, by omega, by omega, by omega⟩
    have kx : decide x.ok = true := decide_eq_true hx
    have ko : oR x b ex = toL (tw x b) (clp ex - 1) (lowE (tw x b) (clp ex - 1)) := by unfold oR; rw [ee]
    have kn : decide (lgR ex x = -1023 → toQ m n (tw x b) (clp ex - 1) (-1075) < 2 ^ 256) = true := decide_eq_true fun hl => by
      rw [el] at hl
      have : toQ m n (tw x b) (clp ex - 1) (-1075) ≤ 2 ^ 53 := toQ_le (by unfold lgN at hl; omega)
      have e53 : (2 : Nat) ^ 53 = 9007199254740992 := rfl
      omega
    have key : ∃ d, eqW x ⟨0, 0, 0, 0⟩ = d ∧ (d = false ∨ (d = true ∧ b = true)) := by
      refine ⟨_, rfl, ?_⟩
      cases he : eqW x ⟨0, 0, 0, 0⟩
      · exact .inl rfl
      · right
        refine ⟨rfl, ?_⟩
        cases hb : b
        · exact absurd ((tw_zero hx).2 (by rw [he, hb]; rfl)) hz
        · rfl
    obtain ⟨d, hd, hdb⟩ := key
    have lt5 : ∀ o, oR x b ex = o → okLog (lTm m n x b ex o d) := fun o ho => okCons ho (okCons kq (okCons kt (okCons kx (okL1 hd))))
    unfold rnP rnF
    rw [if_neg hz, if_neg hz]
    by_cases hbig : 9218868437227405312 ≤ p0 m n (tw x b) (clp ex - 1)
    · rw [if_pos hbig, if_pos hbig]
      have hb2 := bey_or m n
      have hs : sgR n (bey m n) = sS n (bey m n) := sgR_eq (by omega) (by omega)
      rw [← hs]
      have lB : decide (pR m n x b ex ≥ 9218868437227405312) = true := decide_eq_true (by rw [ep]; exact hbig)
      rcases hdb with rfl | ⟨rfl, rfl⟩
      · exact fits_calls (tabY_ok conTi_ok) (rd_big n b (oR x b ex) x ex m) (okCons lB (okCons rfl (lt5 _ rfl))) hv (by rfl) w
      · exact fits_calls (tabY_ok conTi_ok) (rd_big' n (oR x true ex) x ex m) (okCons lB (okCons rfl (lt5 _ rfl))) hv (by rfl) w
    · rw [if_neg hbig, if_neg hbig]
      have hs : sgR n (pR m n x b ex) = sS n (p0 m n (tw x b) (clp ex - 1)) := by rw [ep]; exact sgR_eq hp0 (by omega)
      rw [← hs]
      have lB : decide (pR m n x b ex ≥ 9218868437227405312) = false := decide_eq_false (by rw [ep]; exact hbig)
      by_cases hl : toL (tw x b) (clp ex - 1) (lowE (tw x b) (clp ex - 1)) = true
      · rw [if_pos hl]
        have ht : tnK m n (tw x b) (clp ex - 1) (lgR ex x) = tiny m n (tw x b) (clp ex - 1) := by rw [el, tnK_eq]
        have ef : (if tiny m n (tw x b) (clp ex - 1) = true then (24 : Int) else 16) = fgT (tiny m n (tw x b) (clp ex - 1)) := by
          cases tiny m n (tw x b) (clp ex - 1) <;> rfl
        rw [ef]
        rcases hdb with rfl | ⟨rfl, rfl⟩
        · exact fits_calls (tabY_ok conTi_ok) (rd_near n b (tiny m n (tw x b) (clp ex - 1)) x ex m) (okCons ht (okCons kn (okCons kt0 (okCons lB (okCons rfl (lt5 _ (ko.trans hl))))))) hv (by rfl) w
        · exact fits_calls (tabY_ok conTi_ok) (rd_near' n (tiny m n (tw x true) (clp ex - 1)) x ex m) (okCons ht (okCons kn (okCons kt0 (okCons lB (okCons rfl (lt5 _ (ko.trans hl))))))) hv (by rfl) w
      · rw [if_neg hl]
        have hl' := ko.trans (by simpa using hl)
        rcases hdb with rfl | ⟨rfl, rfl⟩
        · exact fits_calls (tabY_ok conTi_ok) (rd_just n b x ex m) (okCons lB (okCons rfl (lt5 _ hl'))) hv (by rfl) w
        · exact fits_calls (tabY_ok conTi_ok) (rd_just' n x ex m) (okCons lB (okCons rfl (lt5 _ hl'))) hv (by rfl) w
def gRd : Ans := fun vals s =>
  match vals with
  | [v, .int .i64 m] =>
    match n7 v with
    | some (n, ex, x, b) => some (rdV m n (tw x b) (clp ex - 1), s, [(decide x.ok, true)])
    | none => none
  | _ => none
theorem gRd_ok : AnsOk 40 gRd := by
  intro vals s v s' lg h hl w
  unfold gRd at h
  split at h
  · split at h
    · rename_i n ex x b hn
      cases h
      rw [n7_spec hn]
      exact round_calls n b x ex _ (of_decide_eq_true (hl _ (List.mem_singleton.2 rfl))) w
    · cases h
  · cases h
/-! ### sure -/
end Go.Proofs.YtjkgnbdeklploaaGreat
namespace Go.Rn
open Go.Wd
theorem far_pow {k : Nat} (hk : 300 ≤ k) : 4 * 2 ^ 256 ≤ 2 ^ k := by
  obtain ⟨j, rfl⟩ : ∃ j, k = 256 + (2 + j) := ⟨k - 258, by omega⟩
  have hj : 0 < 2 ^ j := Nat.pow_pos (by omega)
  rw [Nat.pow_add, Nat.pow_add, Nat.mul_comm 4]
  refine Nat.mul_le_mul_left _ ?_
  show 4 ≤ 4 * 2 ^ j
  omega
/-- the document's size -/
def rT (x : W4) (b : Bool) : Nat := match b with | true => 2 * x.nat + 1 | false => x.nat
def jB (b : Bool) : Int := match b with | true => 1 | false => 0
theorem rT_lt {x : W4} (hx : x.ok) (b : Bool) : rT x b < 2 * 2 ^ 256 := by
  have := W4.nat_lt hx
  unfold rT
  cases b <;> simp only <;> omega
/-- beyond all patterns -/
theorem p0_big {m : Int} {neg : Bool} {T : Nat} {E : Int} (hT : T ≠ 0) (h : 1024 ≤ lgN T E) : 9218868437227405312 ≤ p0 m neg T E := by
  have hq := low_lo (m := m) (neg := neg) (T := T) (E := E) hT (by omega)
  have hl : lowE T E = lgN T E - 52 := by unfold lowE; rw [if_neg (by omega)]
  unfold p0
  rw [hl] at hq ⊢
  omega
theorem big_eq {m : Int} {neg : Bool} {T : Nat} {E : Int} (hT : T ≠ 0) (h : 1024 ≤ lgN T E) : rnP m neg T E = bey m neg ∧ rnF m neg T E = 20 := by
  have := p0_big (m := m) (neg := neg) hT h
  unfold rnP rnF
  rw [if_neg hT, if_neg hT, if_pos this, if_pos this]
  exact ⟨rfl, rfl⟩
/-- far below all patterns -/
theorem low_eq {m : Int} {neg : Bool} {T : Nat} {E : Int} (hT : T ≠ 0) (h : lgN T E ≤ -1100) : rnP m neg T E = (if upR m neg false 1 = true then 1 else 0) ∧ rnF m neg T E = 24 := by
  have hb := (bitLen_spec T).1
  have hl : lowE T E = -1074 := by unfold lowE; rw [if_pos (by omega)]
  have hE : ¬ (-1074 : Int) ≤ E := by unfold lgN at h; have := len_pos hT; omega
  have hk : bitLen T + 2 ≤ (-1074 - E).toNat := by unfold lgN at h; omega
  have hp := Nat.pow_le_pow_right (show 0 < 2 by omega) hk
  have e4 : 2 ^ (bitLen T + 2) = 4 * 2 ^ bitLen T := by rw [Nat.pow_add, Nat.mul_comm]
  have hlt : 2 * T < 2 ^ (-1074 - E).toNat := by omega
  have hd : T / 2 ^ (-1074 - E).toNat = 0 := Nat.div_eq_of_lt (by omega)
  have hm : T % 2 ^ (-1074 - E).toNat = T := Nat.mod_eq_of_lt (by omega)
  have hr : restC T (2 ^ (-1074 - E).toNat) = 1 := by unfold restC; rw [if_neg hT, if_pos hlt]
  have hq : toQ m neg T E (-1074) = if upR m neg false 1 = true then 1 else 0 := by
    unfold toQ rq
    rw [if_neg hE, hd, hm, hr]
    have ho : odd 0 = false := rfl
    rw [ho]
    simp
  have hL : toL T E (-1074) = true := by unfold toL; rw [if_neg hE, hm]; exact decide_eq_true hT
  have hti : tiny m neg T E = true := by unfold tiny; rw [if_neg (by omega)]; exact decide_eq_true (by omega)
  have hp0 : p0 m neg T E = if upR m neg false 1 = true then 1 else 0 := by
    unfold p0
    rw [hl, hq]
    split <;> rfl
  unfold rnP rnF
  rw [if_neg hT, if_neg hT, hp0, hl, hL, hti]
  split <;> simp
/-- the program's way and the document's, from any exponent -/
theorem same_round {m : Int} {neg : Bool} {x : W4} (hx : x.ok) (b : Bool) {C D : Int} (h : (C = D) ∨ (1700 ≤ C ∧ 1700 ≤ D) ∨ (C ≤ -1700 ∧ D ≤ -1700)) : rnP m neg (tw x b) (C - 1) = rnP m neg (rT x b) (D - jB b) ∧ rnF m neg (tw x b) (C - 1) = rnF m neg (rT x b) (D - jB b) := by
  have hj : 0 ≤ jB b ∧ jB b ≤ 1 := by cases b <;> simp [jB]
  have e : rnP m neg (tw x b) (C - 1) = rnP m neg (rT x b) (C - jB b) ∧ rnF m neg (tw x b) (C - 1) = rnF m neg (rT x b) (C - jB b) := by
    cases b with
    | true => exact ⟨rfl, rfl⟩
    | false =>
      have e1 : tw x false = x.nat * 2 ^ 1 := by unfold tw; simp [Nat.mul_comm]
      rw [e1]
      simp only [rT, jB, Int.sub_zero]
      exact ⟨rnP_scale m neg x.nat 1 C, rnF_scale m neg x.nat 1 C⟩
  rw [e.1, e.2]
  rcases h with h | h | h
  · rw [h]; exact ⟨rfl, rfl⟩
  · by_cases hT : rT x b = 0
    · rw [hT]; unfold rnP rnF; simp
    · have hl := len_pos hT
      obtain ⟨a1, a2⟩ := big_eq (m := m) (neg := neg) (E := C - jB b) hT (by unfold lgN; omega)
      obtain ⟨b1, b2⟩ := big_eq (m := m) (neg := neg) (E := D - jB b) hT (by unfold lgN; omega)
      rw [a1, a2, b1, b2]; exact ⟨rfl, rfl⟩
  · by_cases hT : rT x b = 0
    · rw [hT]; unfold rnP rnF; simp
    · have hlt := rT_lt hx b
      obtain ⟨k, hk⟩ : ∃ k : Nat, k = 300 := ⟨300, rfl⟩
      have hfp := far_pow (show 300 ≤ k by omega)
      have hl : bitLen (rT x b) ≤ k := len_le (by omega)
      obtain ⟨a1, a2⟩ := low_eq (m := m) (neg := neg) (E := C - jB b) hT (by unfold lgN; omega)
      obtain ⟨b1, b2⟩ := low_eq (m := m) (neg := neg) (E := D - jB b) hT (by unfold lgN; omega)
      rw [a1, a2, b1, b2]; exact ⟨rfl, rfl⟩
/-! ### the document's flags and pattern -/
end Go.Rn
