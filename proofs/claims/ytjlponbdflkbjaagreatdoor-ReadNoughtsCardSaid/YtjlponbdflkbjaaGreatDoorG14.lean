/-
  RnA, NumRn, RpE
-/
import Derived.Test.YtjlponbdflkbjaaGreatDoorG13
import Derived.Test.YtjlponbdflkbjaaGreatDoorG07
import Derived.Test.YtjlponbdflkbjaaGreatDoorG11
namespace Go.Proofs.YtjlponbdflkbjaaGreatDoor
open Go.KRun Go.Wd Go.Pt Go.Rn
set_option maxRecDepth 100000
/-! ### goesUp -/
theorem u0 (c m : Int) (o n : Bool) : Fits (reckon (tabOf Tryz.prog extY conN true) 300 85 [.int .i64 c, .bool o, .bool n, .int .i64 m] [cmp true]) (Value.bool false) [(c == 0, true)] := ⟨by kernel_rfl, by kernel_rfl, by kernel_rfl, by kernel_rfl⟩
theorem u2 (c m : Int) (o n : Bool) : Fits (reckon (tabOf Tryz.prog extY conN true) 300 85 [.int .i64 c, .bool o, .bool n, .int .i64 m] [cmp false, cmp true]) (Value.bool false) [(m == 2, true), (c == 0, false)] := ⟨by kernel_rfl, by kernel_rfl, by kernel_rfl, by kernel_rfl⟩
theorem u3 (c m : Int) (o n : Bool) : Fits (reckon (tabOf Tryz.prog extY conN true) 300 85 [.int .i64 c, .bool o, .bool n, .int .i64 m] [cmp false, cmp false, cmp true]) (Value.bool !n) [(m == 3, true), (m == 2, false), (c == 0, false)] := ⟨by kernel_rfl, by kernel_rfl, by kernel_rfl, by kernel_rfl⟩
theorem u4 (c m : Int) (o n : Bool) : Fits (reckon (tabOf Tryz.prog extY conN true) 300 85 [.int .i64 c, .bool o, .bool n, .int .i64 m] [cmp false, cmp false, cmp false, cmp true]) (Value.bool n) [(m == 4, true), (m == 3, false), (m == 2, false), (c == 0, false)] := ⟨by kernel_rfl, by kernel_rfl, by kernel_rfl, by kernel_rfl⟩
theorem u1 (c m : Int) (o n : Bool) : Fits (reckon (tabOf Tryz.prog extY conN true) 300 85 [.int .i64 c, .bool o, .bool n, .int .i64 m] [cmp false, cmp false, cmp false, cmp false, cmp true]) (Value.bool (decide (c ≥ 2))) [(m == 1, true), (m == 4, false), (m == 3, false), (m == 2, false), (c == 0, false)] := ⟨by kernel_rfl, by kernel_rfl, by kernel_rfl, by kernel_rfl⟩
theorem ua (c m : Int) (o n : Bool) : Fits (reckon (tabOf Tryz.prog extY conN true) 300 85 [.int .i64 c, .bool o, .bool n, .int .i64 m] [cmp false, cmp false, cmp false, cmp false, cmp false, cmp true]) (Value.bool true) [(decide (c > 2), true), (m == 1, false), (m == 4, false), (m == 3, false), (m == 2, false), (c == 0, false)] := ⟨by kernel_rfl, by kernel_rfl, by kernel_rfl, by kernel_rfl⟩
theorem ub (c m : Int) (o n : Bool) : Fits (reckon (tabOf Tryz.prog extY conN true) 300 85 [.int .i64 c, .bool o, .bool n, .int .i64 m] [cmp false, cmp false, cmp false, cmp false, cmp false, cmp false, cmp true]) (Value.bool o) [(c == 2, true), (decide (c > 2), false), (m == 1, false), (m == 4, false), (m == 3, false), (m == 2, false), (c == 0, false)] := ⟨by kernel_rfl, by kernel_rfl, by kernel_rfl, by kernel_rfl⟩
theorem uc (c m : Int) (o n : Bool) : Fits (reckon (tabOf Tryz.prog extY conN true) 300 85 [.int .i64 c, .bool o, .bool n, .int .i64 m] [cmp false, cmp false, cmp false, cmp false, cmp false, cmp false, cmp false]) (Value.bool false) [(c == 2, false), (decide (c > 2), false), (m == 1, false), (m == 4, false), (m == 3, false), (m == 2, false), (c == 0, false)] := ⟨by kernel_rfl, by kernel_rfl, by kernel_rfl, by kernel_rfl⟩
def gUp : Ans := fun vals s =>
  match vals with
  | [.int .i64 c, .bool o, .bool n, .int .i64 m] => some (.bool (upR m n o c), s, [])
  | _ => none
theorem up_calls (c m : Int) (o n : Bool) (w : World) : Calls Tryz.prog 85 #[.int .i64 c, .bool o, .bool n, .int .i64 m] w fun e w' => e = .returned (.bool (upR m n o c)) ∧ Tidy w w' := by
  unfold upR
  by_cases h0 : c = 0
  · rw [if_pos h0]
    exact fits_calls (tabY_ok conN_ok) (u0 c m o n) (by simp [okCs, okNl, h0]) (by rfl) (by rfl) w
  · rw [if_neg h0]
    by_cases h2 : m = 2
    · rw [if_pos h2]
      exact fits_calls (tabY_ok conN_ok) (u2 c m o n) (by simp [okCs, okNl, h0, h2]) (by rfl) (by rfl) w
    · rw [if_neg h2]
      by_cases h3 : m = 3
      · rw [if_pos h3]
        exact fits_calls (tabY_ok conN_ok) (u3 c m o n) (by simp [okCs, okNl, h0, h3]) (by rfl) (by rfl) w
      · rw [if_neg h3]
        by_cases h4 : m = 4
        · rw [if_pos h4]
          exact fits_calls (tabY_ok conN_ok) (u4 c m o n) (by simp [okCs, okNl, h0, h4]) (by rfl) (by rfl) w
        · rw [if_neg h4]
          by_cases h1 : m = 1
          · rw [if_pos h1]
            exact fits_calls (tabY_ok conN_ok) (u1 c m o n) (by simp [okCs, okNl, h0, h1]) (by rfl) (by rfl) w
          · rw [if_neg h1]
            by_cases ha : 2 < c
            · have e : (decide (2 < c) || (decide (c = 2) && o)) = true := by simp [ha]
              rw [e]
              exact fits_calls (tabY_ok conN_ok) (ua c m o n) (by simp [okCs, okNl, h0, h1, h2, h3, h4, ha]) (by rfl) (by rfl) w
            · by_cases hb : c = 2
              · have e : (decide (2 < c) || (decide (c = 2) && o)) = o := by simp [hb]
                rw [e]
                exact fits_calls (tabY_ok conN_ok) (ub c m o n) (by simp [okCs, okNl, h1, h2, h3, h4, hb]) (by rfl) (by rfl) w
              · have e : (decide (2 < c) || (decide (c = 2) && o)) = false := by simp [ha, hb]
                rw [e]
                exact fits_calls (tabY_ok conN_ok) (uc c m o n) (by simp [okCs, okNl, h0, h1, h2, h3, h4, hb]; omega) (by rfl) (by rfl) w
theorem gUp_ok : AnsOk 85 gUp := by
  intro vals s v s' lg h hl w
  unfold gUp at h
  split at h
  · cases h; exact up_calls _ _ _ _ w
  · cases h
/-! ### what is known of wide -/
def conW : Con := alt 74 (g1n (plain1n shlV4)) (alt 125 (g1n shrB) (alt 86 (g1n (plain1n bitV4)) (alt 82 (g1 lenV4) (alt 73 (g2 (plain2 addV4)) conN))))
theorem conW_ok : ConOk conW := alt_ok Tryz.func74 rfl (plain1n_ok shl_calls) (alt_ok Tryz.func125 rfl shrB_ok (alt_ok Tryz.func86 rfl (plain1n_ok bit_calls) (alt_ok Tryz.func82 rfl (g1_ok wlen_calls) (alt_ok Tryz.func73 rfl (plain2_ok add_calls) conN_ok))))
theorem shlW_nat {x : W4} (hx : x.ok) {n : Int} (hn : 0 ≤ n) : shlW x n = ofN (x.nat * 2 ^ n.toNat) := by
  unfold shlW
  by_cases h1 : n < 1
  · have : n = 0 := by omega
    subst this
    rw [if_pos h1]
    simp [ofN_self hx]
  · rw [if_neg h1]
    by_cases h2 : 256 ≤ n
    · rw [if_pos h2, ofN_big (by omega)]
    · rw [if_neg h2, W4.nat_val hx, cast_pow]
      unfold ofN
      congr 1
theorem shrW_nat {x : W4} (hx : x.ok) {n : Int} (hn : 0 ≤ n) : shrW x n = ofN (x.nat / 2 ^ n.toNat) := by
  unfold shrW
  by_cases h1 : n < 1
  · have : n = 0 := by omega
    subst this
    rw [if_pos h1]
    simp [ofN_self hx]
  · rw [if_neg h1]
    by_cases h2 : 256 ≤ n
    · rw [if_pos h2, small_div (W4.nat_lt hx) (by omega), ofN_zero]
    · rw [if_neg h2, W4.nat_val hx, cast_pow]
      unfold ofN
      congr 1
theorem shrL_nat {x : W4} (hx : x.ok) {n : Int} (hn : 0 ≤ n) : shrL x n = decide (x.nat % 2 ^ n.toNat ≠ 0) := by
  unfold shrL
  by_cases h1 : n < 1
  · have : n = 0 := by omega
    subst this
    rw [if_pos h1]
    simp [Nat.mod_one]
  · rw [if_neg h1]
    by_cases h2 : 256 ≤ n
    · rw [if_pos h2, small_mod (W4.nat_lt hx) (by omega), W4.nat_val hx]
      congr 1
      simp
    · rw [if_neg h2, W4.nat_val hx, cast_pow]
      congr 1
      have : ((x.nat : Int) % ((2 ^ n.toNat : Nat) : Int)) = ((x.nat % 2 ^ n.toNat : Nat) : Int) := rfl
      rw [this]
      simp only [ne_eq, eq_iff_iff]
      omega
theorem bitI_nat {x : W4} (hx : x.ok) {n : Int} (hn : 0 ≤ n) : bitI x n = ((x.nat / 2 ^ n.toNat % 2 : Nat) : Int) := by
  unfold bitI
  rw [if_neg (by omega)]
  by_cases h2 : 256 ≤ n
  · rw [if_pos h2, small_div (W4.nat_lt hx) (by omega)]
    rfl
  · rw [if_neg h2, W4.nat_val hx, cast_pow]
    rfl
/-! ### halves -/
def hv (x : W4) (b : Bool) : W4 := match b with | true => ⟨bOr (shlW x 1).a 1, (shlW x 1).b, (shlW x 1).c, (shlW x 1).d⟩ | false => shlW x 1
def lOne (x : W4) : Bool × Bool := (decide (x.ok ∧ (-9223372036854775808 : Int) ≤ 1 ∧ (1 : Int) ≤ 9223372036854775807), true)
theorem hv_fits (x : W4) (b : Bool) : Fits (reckon (tabOf Tryz.prog extY conW true) 300 83 [vW x, .bool b] []) (vW (hv x b)) [lOne x] := by
  cases b <;> exact ⟨by kernel_rfl, by kernel_rfl, by kernel_rfl, by kernel_rfl⟩
theorem bOr_comm (x y : Int) : bOr x y = bOr y x := by unfold bOr; rw [BitVec.or_comm]
theorem hv_eq {x : W4} (hx : x.ok) (b : Bool) : hv x b = ofN (tw x b) := by
  have e1 := shlW_nat hx (n := 1) (by omega)
  have e2 : x.nat * 2 ^ (1 : Int).toNat = 2 * x.nat := by simp [Nat.mul_comm]
  rw [e2] at e1
  cases b
  · unfold hv tw
    simp only [Nat.add_zero]
    exact e1
  · unfold hv tw
    simp only
    rw [e1]
    have e3 : bOr (ofN (2 * x.nat)).a 1 = (ofN (2 * x.nat)).a + 1 := by
      have hb : 0 ≤ (ofN (2 * x.nat)).a ∧ (ofN (2 * x.nat)).a < 18446744073709551616 := (ofN_ok _).1
      have hev : (ofN (2 * x.nat)).a % 2 = 0 := by unfold ofN W4.of; dsimp only; omega
      rw [bOr_comm, or_low 1 (z := (ofN (2 * x.nat)).a / 2) (by omega) (by omega) (by omega) (by decide) (by omega)]
    rw [e3]
    unfold ofN W4.of
    refine W4.ext' ?_ ?_ ?_ ?_ <;> dsimp only <;> omega
def gHv : Ans := fun vals s =>
  match vals with
  | [x, .bool b] =>
    match w4 x with
    | some a => some (vW (ofN (tw a b)), s, [(decide a.ok, true)])
    | none => none
  | _ => none
theorem gHv_ok : AnsOk 83 gHv := by
  intro vals s v s' lg h hl w
  unfold gHv at h
  split at h
  · split at h
    · rename_i a ha
      cases h
      have h1 : a.ok := of_decide_eq_true (hl _ (List.mem_singleton.2 rfl))
      rw [w4_spec ha, ← hv_eq h1]
      exact fits_calls (tabY_ok conW_ok) (hv_fits a _) (okL1 (decide_eq_true ⟨h1, by omega, by omega⟩)) (by rfl) (by rfl) w
    · cases h
  · cases h
def conH : Con := alt 83 gHv conW
theorem conH_ok : ConOk conH := alt_ok Tryz.func83 rfl gHv_ok conW_ok
/-! ### numbers -/
def vN (n : Bool) (e : Int) (x : W4) (b : Bool) : Value := .agg #[.bool n, .int .i64 e, .int .u64 x.a, .int .u64 x.b, .int .u64 x.c, .int .u64 x.d, .bool b]
def n7 : Value → Option (Bool × Int × W4 × Bool)
  | .agg cs =>
    match cs.toList with
    | [.bool n, .int .i64 e, .int .u64 a, .int .u64 b, .int .u64 c, .int .u64 d, .bool m] => some (n, e, ⟨a, b, c, d⟩, m)
    | _ => none
  | _ => none
theorem n7_spec {v : Value} {n m : Bool} {e : Int} {x : W4} (h : n7 v = some (n, e, x, m)) : v = vN n e x m := by
  unfold n7 at h
  split at h
  · rename_i cs
    split at h
    · rename_i a b c d hc
      cases h
      obtain ⟨l⟩ := cs
      simp only at hc
      subst hc
      rfl
    · cases h
  · cases h
/-! ### cut -/
def lok (x : W4) (n : Int) : Bool × Bool := (decide (x.ok ∧ -9223372036854775808 ≤ n ∧ n ≤ 9223372036854775807), true)
def dnI (ex e : Int) : Int := IntKind.i64.wrap (e - ex)
def dn1 (ex e : Int) : Int := IntKind.i64.wrap (IntKind.i64.wrap (e - ex) - 1)
def ctV (x : W4) (ex e c : Int) : Value := .tuple #[vW (shrW x (dnI ex e)), .int .i64 c]
theorem ct0 (n : Bool) (x : W4) (ex e : Int) : Fits (reckon (tabOf Tryz.prog extY conH true) 300 84 [vN n ex x false, .int .i64 e] [cmp false]) (ctV x ex e 0) [lok x (dnI ex e), (shrL x (dnI ex e), false)] := ⟨by kernel_rfl, by kernel_rfl, by kernel_rfl, by kernel_rfl⟩
theorem ct1 (n : Bool) (x : W4) (ex e : Int) : Fits (reckon (tabOf Tryz.prog extY conH true) 300 84 [vN n ex x true, .int .i64 e] [cmp false, cmp true]) (ctV x ex e 2) [(dnI ex e == 0, true), lok x (dnI ex e), (shrL x (dnI ex e), false)] := ⟨by kernel_rfl, by kernel_rfl, by kernel_rfl, by kernel_rfl⟩
theorem ct2 (n : Bool) (x : W4) (ex e : Int) (d : Bool) : Fits (reckon (tabOf Tryz.prog extY conH true) 300 84 [vN n ex x true, .int .i64 e] [cmp false, cmp false, cmp d]) (ctV x ex e (match d with | true => 1 | false => 3)) [(bitI x (dn1 ex e) == 0, d), lok x (dn1 ex e), (dnI ex e == 0, false), lok x (dnI ex e), (shrL x (dnI ex e), false)] := by
  cases d <;> exact ⟨by kernel_rfl, by kernel_rfl, by kernel_rfl, by kernel_rfl⟩
theorem ct4 (n b : Bool) (x : W4) (ex e : Int) : Fits (reckon (tabOf Tryz.prog extY conH true) 300 84 [vN n ex x b, .int .i64 e] [cmp true, cmp false, cmp true]) (ctV x ex e 1) [(bitI x (dn1 ex e) == 0, true), lok x (dn1 ex e), (dnI ex e == 0, false), lok x (dnI ex e), (shrL x (dnI ex e), true)] := ⟨by kernel_rfl, by kernel_rfl, by kernel_rfl, by kernel_rfl⟩
theorem ct5 (n : Bool) (x : W4) (ex e : Int) : Fits (reckon (tabOf Tryz.prog extY conH true) 300 84 [vN n ex x true, .int .i64 e] [cmp true, cmp false, cmp false]) (ctV x ex e 3) [(bitI x (dn1 ex e) == 0, false), lok x (dn1 ex e), (dnI ex e == 0, false), lok x (dnI ex e), (shrL x (dnI ex e), true)] := ⟨by kernel_rfl, by kernel_rfl, by kernel_rfl, by kernel_rfl⟩
def bkW (x : W4) (ex e : Int) : W4 := shlW (ofN (tw (shrW x (dnI ex e)) true)) (dn1 ex e)
theorem ct6 (n : Bool) (x : W4) (ex e : Int) (d : Bool) : Fits (reckon (tabOf Tryz.prog extY conH true) 300 84 [vN n ex x false, .int .i64 e] [cmp true, cmp false, cmp false, sam d]) (ctV x ex e (match d with | true => 3 | false => 2)) [(!(eqW x (bkW x ex e)), d), lok (ofN (tw (shrW x (dnI ex e)) true)) (dn1 ex e), (decide (shrW x (dnI ex e)).ok, true), (bitI x (dn1 ex e) == 0, false), lok x (dn1 ex e), (dnI ex e == 0, false), lok x (dnI ex e), (shrL x (dnI ex e), true)] := by
  cases d <;> exact ⟨by kernel_rfl, by kernel_rfl, by kernel_rfl, by kernel_rfl⟩
end Go.Proofs.YtjlponbdflkbjaaGreatDoor
namespace Go.Rd
open Go.Wd
/-- a word with another one's bits put above -/
def orW (y w : Int) (s : Nat) : Int := IntKind.u64.wrap (((BitVec.ofInt 64 y ||| BitVec.ofInt 64 (IntKind.u64.wrap (IntKind.u64.wrap w * 2 ^ s))).toNat : Nat) : Int)
theorem wrapU64 {z : Int} (h0 : 0 ≤ z) (h1 : z < 18446744073709551616) : IntKind.u64.wrap z = z := by
  simp [IntKind.wrap, IntKind.bits, IntKind.signed]
  omega
theorem orW_add {y w s : Nat} (hs : s = 0 ∨ s = 32) (hy : y < 2 ^ s) (hw : w < 4294967296) : orW (y : Int) (w : Int) s = ((y + w * 2 ^ s : Nat) : Int) := by
  have e32 : (2 : Nat) ^ 32 = 4294967296 := rfl
  have e0 : (2 : Nat) ^ 0 = 1 := rfl
  have hb : y + w * 2 ^ s < 18446744073709551616 := by rcases hs with rfl | rfl <;> omega
  have hy2 : y < 18446744073709551616 := by omega
  have e1 : ((w : Nat) : Int) * 2 ^ s = ((w * 2 ^ s : Nat) : Int) := by rw [cast_pow, Int.natCast_mul]
  have h64 : ((2 : Nat) ^ 64 : Nat) = 18446744073709551616 := rfl
  have b1 : ∀ z : Nat, z < 18446744073709551616 → (BitVec.ofInt 64 (z : Int)).toNat = z := fun z hz => by
    rw [BitVec.toNat_ofInt]
    omega
  unfold orW
  rw [wrapU64 (z := (w : Int)) (by omega) (by omega), e1, wrapU64 (z := ((w * 2 ^ s : Nat) : Int)) (by omega) (by omega), BitVec.toNat_or, b1 y hy2, b1 _ (by omega)]
  have h := Nat.shiftLeft_add_eq_or_of_lt (i := s) hy w
  rw [Nat.shiftLeft_eq, Nat.or_comm] at h
  rw [← h, wrapU64 (by omega) (by omega), Nat.add_comm]
def put0 (x : W4) (w : Int) : W4 := ⟨orW x.a w 0, x.b, x.c, x.d⟩
theorem put0_ok {V w : Nat} (hV : V < 1) (hw : w < 4294967296) : put0 (ofN V) (w : Int) = ofN (V + 1 * w) := by
  have e : (ofN V).a = ((V : Nat) : Int) := by
    show ((V : Nat) : Int) % 18446744073709551616 = _
    omega
  have q := orW_add (y := V) (w := w) (s := 0) (by omega) (by have h1 : (2 : Nat) ^ 0 = 1 := rfl; omega) hw
  have h2 : (2 : Nat) ^ 0 = 1 := rfl
  rw [h2] at q
  unfold put0
  refine W4.ext' ?_ ?_ ?_ ?_
  · show orW (ofN V).a w 0 = ((V + 1 * w : Nat) : Int) % 18446744073709551616
    rw [e, q]
    omega
  · show ((V : Nat) : Int) / 18446744073709551616 % 18446744073709551616 = ((V + 1 * w : Nat) : Int) / 18446744073709551616 % 18446744073709551616
    omega
  · show ((V : Nat) : Int) / 340282366920938463463374607431768211456 % 18446744073709551616 = ((V + 1 * w : Nat) : Int) / 340282366920938463463374607431768211456 % 18446744073709551616
    omega
  · show ((V : Nat) : Int) / 6277101735386680763835789423207666416102355444464034512896 % 18446744073709551616 = ((V + 1 * w : Nat) : Int) / 6277101735386680763835789423207666416102355444464034512896 % 18446744073709551616
    omega
def put1 (x : W4) (w : Int) : W4 := ⟨orW x.a w 32, x.b, x.c, x.d⟩
theorem put1_ok {V w : Nat} (hV : V < 4294967296) (hw : w < 4294967296) : put1 (ofN V) (w : Int) = ofN (V + 4294967296 * w) := by
  have e : (ofN V).a = ((V : Nat) : Int) := by
    show ((V : Nat) : Int) % 18446744073709551616 = _
    omega
  have q := orW_add (y := V) (w := w) (s := 32) (by omega) (by have h1 : (2 : Nat) ^ 32 = 4294967296 := rfl; omega) hw
  have h2 : (2 : Nat) ^ 32 = 4294967296 := rfl
  rw [h2] at q
  unfold put1
  refine W4.ext' ?_ ?_ ?_ ?_
  · show orW (ofN V).a w 32 = ((V + 4294967296 * w : Nat) : Int) % 18446744073709551616
    rw [e, q]
    omega
  · show ((V : Nat) : Int) / 18446744073709551616 % 18446744073709551616 = ((V + 4294967296 * w : Nat) : Int) / 18446744073709551616 % 18446744073709551616
    omega
  · show ((V : Nat) : Int) / 340282366920938463463374607431768211456 % 18446744073709551616 = ((V + 4294967296 * w : Nat) : Int) / 340282366920938463463374607431768211456 % 18446744073709551616
    omega
  · show ((V : Nat) : Int) / 6277101735386680763835789423207666416102355444464034512896 % 18446744073709551616 = ((V + 4294967296 * w : Nat) : Int) / 6277101735386680763835789423207666416102355444464034512896 % 18446744073709551616
    omega
def put2 (x : W4) (w : Int) : W4 := ⟨x.a, orW x.b w 0, x.c, x.d⟩
theorem put2_ok {V w : Nat} (hV : V < 18446744073709551616) (hw : w < 4294967296) : put2 (ofN V) (w : Int) = ofN (V + 18446744073709551616 * w) := by
  have e : (ofN V).b = ((V / 18446744073709551616 : Nat) : Int) := by
    show ((V : Nat) : Int) / 18446744073709551616 % 18446744073709551616 = _
    omega
  have q := orW_add (y := V / 18446744073709551616) (w := w) (s := 0) (by omega) (by have h1 : (2 : Nat) ^ 0 = 1 := rfl; omega) hw
  have h2 : (2 : Nat) ^ 0 = 1 := rfl
  rw [h2] at q
  unfold put2
  refine W4.ext' ?_ ?_ ?_ ?_
  · show ((V : Nat) : Int) % 18446744073709551616 = ((V + 18446744073709551616 * w : Nat) : Int) % 18446744073709551616
    omega
  · show orW (ofN V).b w 0 = ((V + 18446744073709551616 * w : Nat) : Int) / 18446744073709551616 % 18446744073709551616
    rw [e, q]
    omega
  · show ((V : Nat) : Int) / 340282366920938463463374607431768211456 % 18446744073709551616 = ((V + 18446744073709551616 * w : Nat) : Int) / 340282366920938463463374607431768211456 % 18446744073709551616
    omega
  · show ((V : Nat) : Int) / 6277101735386680763835789423207666416102355444464034512896 % 18446744073709551616 = ((V + 18446744073709551616 * w : Nat) : Int) / 6277101735386680763835789423207666416102355444464034512896 % 18446744073709551616
    omega
def put3 (x : W4) (w : Int) : W4 := ⟨x.a, orW x.b w 32, x.c, x.d⟩
theorem put3_ok {V w : Nat} (hV : V < 79228162514264337593543950336) (hw : w < 4294967296) : put3 (ofN V) (w : Int) = ofN (V + 79228162514264337593543950336 * w) := by
  have e : (ofN V).b = ((V / 18446744073709551616 : Nat) : Int) := by
    show ((V : Nat) : Int) / 18446744073709551616 % 18446744073709551616 = _
    omega
  have q := orW_add (y := V / 18446744073709551616) (w := w) (s := 32) (by omega) (by have h1 : (2 : Nat) ^ 32 = 4294967296 := rfl; omega) hw
  have h2 : (2 : Nat) ^ 32 = 4294967296 := rfl
  rw [h2] at q
  unfold put3
  refine W4.ext' ?_ ?_ ?_ ?_
  · show ((V : Nat) : Int) % 18446744073709551616 = ((V + 79228162514264337593543950336 * w : Nat) : Int) % 18446744073709551616
    omega
  · show orW (ofN V).b w 32 = ((V + 79228162514264337593543950336 * w : Nat) : Int) / 18446744073709551616 % 18446744073709551616
    rw [e, q]
    omega
  · show ((V : Nat) : Int) / 340282366920938463463374607431768211456 % 18446744073709551616 = ((V + 79228162514264337593543950336 * w : Nat) : Int) / 340282366920938463463374607431768211456 % 18446744073709551616
    omega
  · show ((V : Nat) : Int) / 6277101735386680763835789423207666416102355444464034512896 % 18446744073709551616 = ((V + 79228162514264337593543950336 * w : Nat) : Int) / 6277101735386680763835789423207666416102355444464034512896 % 18446744073709551616
    omega
def put4 (x : W4) (w : Int) : W4 := ⟨x.a, x.b, orW x.c w 0, x.d⟩
theorem put4_ok {V w : Nat} (hV : V < 340282366920938463463374607431768211456) (hw : w < 4294967296) : put4 (ofN V) (w : Int) = ofN (V + 340282366920938463463374607431768211456 * w) := by
  have e : (ofN V).c = ((V / 340282366920938463463374607431768211456 : Nat) : Int) := by
    show ((V : Nat) : Int) / 340282366920938463463374607431768211456 % 18446744073709551616 = _
    omega
  have q := orW_add (y := V / 340282366920938463463374607431768211456) (w := w) (s := 0) (by omega) (by have h1 : (2 : Nat) ^ 0 = 1 := rfl; omega) hw
  have h2 : (2 : Nat) ^ 0 = 1 := rfl
  rw [h2] at q
  unfold put4
  refine W4.ext' ?_ ?_ ?_ ?_
  · show ((V : Nat) : Int) % 18446744073709551616 = ((V + 340282366920938463463374607431768211456 * w : Nat) : Int) % 18446744073709551616
    omega
  · show ((V : Nat) : Int) / 18446744073709551616 % 18446744073709551616 = ((V + 340282366920938463463374607431768211456 * w : Nat) : Int) / 18446744073709551616 % 18446744073709551616
    omega
  · show orW (ofN V).c w 0 = ((V + 340282366920938463463374607431768211456 * w : Nat) : Int) / 340282366920938463463374607431768211456 % 18446744073709551616
    rw [e, q]
    omega
  · show ((V : Nat) : Int) / 6277101735386680763835789423207666416102355444464034512896 % 18446744073709551616 = ((V + 340282366920938463463374607431768211456 * w : Nat) : Int) / 6277101735386680763835789423207666416102355444464034512896 % 18446744073709551616
    omega
def put5 (x : W4) (w : Int) : W4 := ⟨x.a, x.b, orW x.c w 32, x.d⟩
theorem put5_ok {V w : Nat} (hV : V < 1461501637330902918203684832716283019655932542976) (hw : w < 4294967296) : put5 (ofN V) (w : Int) = ofN (V + 1461501637330902918203684832716283019655932542976 * w) := by
  have e : (ofN V).c = ((V / 340282366920938463463374607431768211456 : Nat) : Int) := by
    show ((V : Nat) : Int) / 340282366920938463463374607431768211456 % 18446744073709551616 = _
    omega
  have q := orW_add (y := V / 340282366920938463463374607431768211456) (w := w) (s := 32) (by omega) (by have h1 : (2 : Nat) ^ 32 = 4294967296 := rfl; omega) hw
  have h2 : (2 : Nat) ^ 32 = 4294967296 := rfl
  rw [h2] at q
  unfold put5
  refine W4.ext' ?_ ?_ ?_ ?_
  · show ((V : Nat) : Int) % 18446744073709551616 = ((V + 1461501637330902918203684832716283019655932542976 * w : Nat) : Int) % 18446744073709551616
    omega
  · show ((V : Nat) : Int) / 18446744073709551616 % 18446744073709551616 = ((V + 1461501637330902918203684832716283019655932542976 * w : Nat) : Int) / 18446744073709551616 % 18446744073709551616
    omega
  · show orW (ofN V).c w 32 = ((V + 1461501637330902918203684832716283019655932542976 * w : Nat) : Int) / 340282366920938463463374607431768211456 % 18446744073709551616
    rw [e, q]
    omega
  · show ((V : Nat) : Int) / 6277101735386680763835789423207666416102355444464034512896 % 18446744073709551616 = ((V + 1461501637330902918203684832716283019655932542976 * w : Nat) : Int) / 6277101735386680763835789423207666416102355444464034512896 % 18446744073709551616
    omega
def put6 (x : W4) (w : Int) : W4 := ⟨x.a, x.b, x.c, orW x.d w 0⟩
theorem put6_ok {V w : Nat} (hV : V < 6277101735386680763835789423207666416102355444464034512896) (hw : w < 4294967296) : put6 (ofN V) (w : Int) = ofN (V + 6277101735386680763835789423207666416102355444464034512896 * w) := by
  have e : (ofN V).d = ((V / 6277101735386680763835789423207666416102355444464034512896 : Nat) : Int) := by
    show ((V : Nat) : Int) / 6277101735386680763835789423207666416102355444464034512896 % 18446744073709551616 = _
    omega
  have q := orW_add (y := V / 6277101735386680763835789423207666416102355444464034512896) (w := w) (s := 0) (by omega) (by have h1 : (2 : Nat) ^ 0 = 1 := rfl; omega) hw
  have h2 : (2 : Nat) ^ 0 = 1 := rfl
  rw [h2] at q
  unfold put6
  refine W4.ext' ?_ ?_ ?_ ?_
  · show ((V : Nat) : Int) % 18446744073709551616 = ((V + 6277101735386680763835789423207666416102355444464034512896 * w : Nat) : Int) % 18446744073709551616
    omega
  · show ((V : Nat) : Int) / 18446744073709551616 % 18446744073709551616 = ((V + 6277101735386680763835789423207666416102355444464034512896 * w : Nat) : Int) / 18446744073709551616 % 18446744073709551616
    omega
  · show ((V : Nat) : Int) / 340282366920938463463374607431768211456 % 18446744073709551616 = ((V + 6277101735386680763835789423207666416102355444464034512896 * w : Nat) : Int) / 340282366920938463463374607431768211456 % 18446744073709551616
    omega
  · show orW (ofN V).d w 0 = ((V + 6277101735386680763835789423207666416102355444464034512896 * w : Nat) : Int) / 6277101735386680763835789423207666416102355444464034512896 % 18446744073709551616
    rw [e, q]
    omega
def put7 (x : W4) (w : Int) : W4 := ⟨x.a, x.b, x.c, orW x.d w 32⟩
theorem put7_ok {V w : Nat} (hV : V < 26959946667150639794667015087019630673637144422540572481103610249216) (hw : w < 4294967296) : put7 (ofN V) (w : Int) = ofN (V + 26959946667150639794667015087019630673637144422540572481103610249216 * w) := by
  have e : (ofN V).d = ((V / 6277101735386680763835789423207666416102355444464034512896 : Nat) : Int) := by
    show ((V : Nat) : Int) / 6277101735386680763835789423207666416102355444464034512896 % 18446744073709551616 = _
    omega
  have q := orW_add (y := V / 6277101735386680763835789423207666416102355444464034512896) (w := w) (s := 32) (by omega) (by have h1 : (2 : Nat) ^ 32 = 4294967296 := rfl; omega) hw
  have h2 : (2 : Nat) ^ 32 = 4294967296 := rfl
  rw [h2] at q
  unfold put7
  refine W4.ext' ?_ ?_ ?_ ?_
  · show ((V : Nat) : Int) % 18446744073709551616 = ((V + 26959946667150639794667015087019630673637144422540572481103610249216 * w : Nat) : Int) % 18446744073709551616
    omega
  · show ((V : Nat) : Int) / 18446744073709551616 % 18446744073709551616 = ((V + 26959946667150639794667015087019630673637144422540572481103610249216 * w : Nat) : Int) / 18446744073709551616 % 18446744073709551616
    omega
  · show ((V : Nat) : Int) / 340282366920938463463374607431768211456 % 18446744073709551616 = ((V + 26959946667150639794667015087019630673637144422540572481103610249216 * w : Nat) : Int) / 340282366920938463463374607431768211456 % 18446744073709551616
    omega
  · show orW (ofN V).d w 32 = ((V + 26959946667150639794667015087019630673637144422540572481103610249216 * w : Nat) : Int) / 6277101735386680763835789423207666416102355444464034512896 % 18446744073709551616
    rw [e, q]
    omega
end Go.Rd
namespace Go.Proofs.YtjlponbdflkbjaaGreatDoor
open Go.KRun Go.Nt Go.Rd Go.Wd
set_option maxRecDepth 100000
def uN (x : Int) : Value := .int .u32 x
def nB9 (n : Bool) (e : Int) (x : W4) (b : Bool) : List Value × TypeId := ([.bool n, .int .i64 e, .int .u64 x.a, .int .u64 x.b, .int .u64 x.c, .int .u64 x.d, .bool b], 53)
def hgM (l : List Value) (e : Int) (x : W4) (b : Bool) : Hp := ⟨3, [nB9 false e x b, nB9 false 0 ⟨0, 0, 0, 0⟩ false, (l, tR)]⟩
def hgL1 (F : Func) : Code := cIn (cIn (cSnd (sP F 3)))
def hgL2 (F : Func) : Code := cIn (cIn (cSnd (sP F 4)))
theorem hg_body : Tryz.f78.body = some (seqs [sP Tryz.f78 0, sP Tryz.f78 1, sP Tryz.f78 2] (.seq (.seq (cFst (sP Tryz.f78 3)) (.block 0 (.loop (hgL1 Tryz.f78)))) (.seq (.seq (cFst (sP Tryz.f78 4)) (.block 2 (.loop (hgL2 Tryz.f78)))) (sK Tryz.f78 5)))) := by kernel_rfl
def q10 (q : Nat → Value) : List Value := [q 0, q 1, q 2, q 3, q 4, q 5, q 6, q 7, q 8, q 9]
def q11 (q : Nat → Value) : List Value := [q 0, q 1, q 2, q 3, q 4, q 5, q 6, q 7, q 8, q 9, q 10]
def hgA (a : Value) (e : Int) (m : Bool) (k : Int) (v10 v11 v12 : Value) (q : Nat → Value) : List Value := [a, .int .i64 e, .bool m, undef, undef, undef, pO 1, .int .i64 k, pO 2, undef, v10, v11, v12] ++ q10 q
def hgB (a : Value) (e : Int) (m : Bool) (v10 v11 v12 : Value) (q : Nat → Value) (o c k : Nat) (i : Int) : List Value := hgA a e m (k : Nat) v10 v11 v12 q ++ [a, .int .i64 (k : Nat), sl 0 o k c, .int .i64 (k : Nat), .int .i64 i]
def hgC (a : Value) (e : Int) (m : Bool) (v10 v11 v12 : Value) (q q' : Nat → Value) (o n c k : Nat) (j i : Int) : List Value := hgB a e m v10 v11 v12 q o c k j ++ q11 q' ++ [a, .int .i64 (k : Nat), sl 0 (o + k * 1) (n - k) (c - k), .int .i64 ((n - k : Nat) : Int), .int .i64 i]
def lowI (n : Nat) : Int := if 0 > IntKind.i64.wrap ((n : Int) - 8) then 0 else IntKind.i64.wrap ((n : Int) - 8)
def hgE (n : Nat) (e : Int) : Int := IntKind.i64.wrap (e + IntKind.i64.wrap (32 * lowI n))
def hgQ (o n c : Nat) (e : Int) (m : Bool) : Nat → Value := fun i => [sl 0 o n c, .int .i64 (n : Nat), .int .i64 (IntKind.i64.wrap ((n : Int) - 8)), .int .i64 (lowI n), .int .i64 e, .int .i64 (lowI n), .int .i64 (IntKind.i64.wrap (32 * lowI n)), .int .i64 (hgE n e), .bool m, .agg #[.bool false, .int .i64 (hgE n e), .int .u64 0, .int .u64 0, .int .u64 0, .int .u64 0, .bool m]].getD i undef
theorem hg_pre (l : List Value) (o n c : Nat) (e : Int) (m : Bool) : GoesT (evL (tabH Tryz.prog extY conN hcN) 100 [sP Tryz.f78 0, sP Tryz.f78 1, sP Tryz.f78 2] ([sl 0 o n c, .int .i64 e, .bool m] ++ List.replicate 62 undef, ⟨1, [(l, tR)]⟩, []) ⟨[], [], []⟩) 23 42 none (hgA (sl 0 o n c) e m (lowI n) undef undef undef (hgQ o n c e m)) (hgM l (hgE n e) ⟨0, 0, 0, 0⟩ m) [] := ⟨by kernel_rfl, by kernel_rfl, by kernel_rfl⟩
theorem hg_i1 (l : List Value) (o n c k : Nat) (e E : Int) (m : Bool) (x : W4) (q g : Nat → Value) : GoesT (evC (tabH Tryz.prog extY conN hcN) 100 false (cFst (sP Tryz.f78 3)) (hgA (sl 0 o n c) e m (k : Nat) undef undef undef q ++ tl 42 g, hgM l E x m, [num 0]) ⟨[], [], []⟩) 28 37 none (hgB (sl 0 o n c) e m undef undef undef q o c k 0) (hgM l E x m) [(smallC c, true), (okPart 0 (k : Nat) (c : Nat) (c : Nat), true), (decide ((c : Int) = 0 ∧ (0 : Int) ≠ 0), false)] := ⟨by kernel_rfl, by kernel_rfl, by kernel_rfl⟩
theorem hg_x1 (l : List Value) (a : Value) (o c k : Nat) (e E i : Int) (m mo : Bool) (x : W4) (v10 : Value) (q g : Nat → Value) : GoesT (evC (tabH Tryz.prog extY conN hcN) 100 false (hgL1 Tryz.f78) (hgB a e m v10 undef undef q o c k i ++ tl 37 g, hgM l E x mo, [cmp false]) ⟨[], [], []⟩) 28 37 (some (some 0)) (hgB a e m v10 undef undef q o c k i) (hgM l E x mo) [(decide (i < (k : Nat)), false)] := ⟨by kernel_rfl, by kernel_rfl, by kernel_rfl⟩
theorem hg_gf (l : List Value) (a : Value) (o c k : Nat) (e E i w : Int) (m d : Bool) (x : W4) (v10 : Value) (q g : Nat → Value) : GoesT (evC (tabH Tryz.prog extY conN hcN) 100 false (hgL1 Tryz.f78) (hgB a e m v10 undef undef q o c k i ++ tl 37 g, hgM l E x false, [cmp true, at_, val (uN w), cmp d]) ⟨[], [], []⟩) 28 37 none (hgB a e m (uN w) undef undef q o c k (IntKind.i64.wrap (i + 1))) (hgM l E x d) [(w != 0, d), (cellIs (l[o + i.toNat * 1]?) (uN w), true), (decide (0 ≤ i ∧ i < (k : Nat)), true), (decide (i < (k : Nat)), true)] := ⟨by kernel_rfl, by kernel_rfl, by kernel_rfl⟩
theorem hg_gt (l : List Value) (a : Value) (o c k : Nat) (e E i w : Int) (m : Bool) (x : W4) (v10 : Value) (q g : Nat → Value) : GoesT (evC (tabH Tryz.prog extY conN hcN) 100 false (hgL1 Tryz.f78) (hgB a e m v10 undef undef q o c k i ++ tl 37 g, hgM l E x true, [cmp true, at_, val (uN w)]) ⟨[], [], []⟩) 28 37 none (hgB a e m (uN w) undef undef q o c k (IntKind.i64.wrap (i + 1))) (hgM l E x true) [(cellIs (l[o + i.toNat * 1]?) (uN w), true), (decide (0 ≤ i ∧ i < (k : Nat)), true), (decide (i < (k : Nat)), true)] := ⟨by kernel_rfl, by kernel_rfl, by kernel_rfl⟩
theorem hg_i2 (l : List Value) (o n c k : Nat) (e E j : Int) (m mo : Bool) (x : W4) (v10 : Value) (q g : Nat → Value) : GoesT (evC (tabH Tryz.prog extY conN hcN) 100 false (cFst (sP Tryz.f78 4)) (hgB (sl 0 o n c) e m v10 undef undef q o c k j ++ tl 37 g, hgM l E x mo, [num 0]) ⟨[], [], []⟩) 44 21 none (hgC (sl 0 o n c) e m v10 undef undef q g o n c k j 0) (hgM l E x mo) [(smallC c, true), (okPart (k : Nat) (n : Nat) (c : Nat) (c : Nat), true), (decide ((c : Int) = (k : Nat) ∧ ((k : Nat) : Int) ≠ 0), false)] := ⟨by kernel_rfl, by kernel_rfl, by kernel_rfl⟩
theorem hg_x2 (l : List Value) (a : Value) (o n c k : Nat) (e E j i : Int) (m mo : Bool) (x : W4) (v10 v11 v12 : Value) (q q' g : Nat → Value) : GoesT (evC (tabH Tryz.prog extY conN hcN) 100 false (hgL2 Tryz.f78) (hgC a e m v10 v11 v12 q q' o n c k j i ++ tl 21 g, hgM l E x mo, [cmp false]) ⟨[], [], []⟩) 44 21 (some (some 2)) (hgC a e m v10 v11 v12 q q' o n c k j i) (hgM l E x mo) [(decide (i < ((n - k : Nat) : Int)), false)] := ⟨by kernel_rfl, by kernel_rfl, by kernel_rfl⟩
theorem hg_s0 (l : List Value) (a : Value) (o n c k : Nat) (e E j w : Int) (m mo : Bool) (x : W4) (v10 v11 v12 : Value) (q q' g : Nat → Value) : GoesT (evC (tabH Tryz.prog extY conN hcN) 100 false (hgL2 Tryz.f78) (hgC a e m v10 v11 v12 q q' o n c k j 0 ++ tl 21 g, hgM l E x mo, [cmp true, at_, val (uN w)]) ⟨[], [], []⟩) 44 21 none (hgC a e m v10 (.int .i64 0) (uN w) q q' o n c k j 1) (hgM l E (put0 x w) mo) [(false, false), (cellIs (l[o + k * 1 + 0]?) (uN w), true), (decide ((0 : Int) ≤ 0 ∧ (0 : Int) < ((n - k : Nat) : Int)), true), (decide ((0 : Int) < ((n - k : Nat) : Int)), true)] := ⟨by kernel_rfl, by kernel_rfl, by kernel_rfl⟩
theorem hg_s1 (l : List Value) (a : Value) (o n c k : Nat) (e E j w : Int) (m mo : Bool) (x : W4) (v10 v11 v12 : Value) (q q' g : Nat → Value) : GoesT (evC (tabH Tryz.prog extY conN hcN) 100 false (hgL2 Tryz.f78) (hgC a e m v10 v11 v12 q q' o n c k j 1 ++ tl 21 g, hgM l E x mo, [cmp true, at_, val (uN w)]) ⟨[], [], []⟩) 44 21 none (hgC a e m v10 (.int .i64 1) (uN w) q q' o n c k j 2) (hgM l E (put1 x w) mo) [(false, false), (cellIs (l[o + k * 1 + 1]?) (uN w), true), (decide ((0 : Int) ≤ 1 ∧ (1 : Int) < ((n - k : Nat) : Int)), true), (decide ((1 : Int) < ((n - k : Nat) : Int)), true)] := ⟨by kernel_rfl, by kernel_rfl, by kernel_rfl⟩
theorem hg_s2 (l : List Value) (a : Value) (o n c k : Nat) (e E j w : Int) (m mo : Bool) (x : W4) (v10 v11 v12 : Value) (q q' g : Nat → Value) : GoesT (evC (tabH Tryz.prog extY conN hcN) 100 false (hgL2 Tryz.f78) (hgC a e m v10 v11 v12 q q' o n c k j 2 ++ tl 21 g, hgM l E x mo, [cmp true, at_, val (uN w)]) ⟨[], [], []⟩) 44 21 none (hgC a e m v10 (.int .i64 2) (uN w) q q' o n c k j 3) (hgM l E (put2 x w) mo) [(false, false), (cellIs (l[o + k * 1 + 2]?) (uN w), true), (decide ((0 : Int) ≤ 2 ∧ (2 : Int) < ((n - k : Nat) : Int)), true), (decide ((2 : Int) < ((n - k : Nat) : Int)), true)] := ⟨by kernel_rfl, by kernel_rfl, by kernel_rfl⟩
theorem hg_s3 (l : List Value) (a : Value) (o n c k : Nat) (e E j w : Int) (m mo : Bool) (x : W4) (v10 v11 v12 : Value) (q q' g : Nat → Value) : GoesT (evC (tabH Tryz.prog extY conN hcN) 100 false (hgL2 Tryz.f78) (hgC a e m v10 v11 v12 q q' o n c k j 3 ++ tl 21 g, hgM l E x mo, [cmp true, at_, val (uN w)]) ⟨[], [], []⟩) 44 21 none (hgC a e m v10 (.int .i64 3) (uN w) q q' o n c k j 4) (hgM l E (put3 x w) mo) [(false, false), (cellIs (l[o + k * 1 + 3]?) (uN w), true), (decide ((0 : Int) ≤ 3 ∧ (3 : Int) < ((n - k : Nat) : Int)), true), (decide ((3 : Int) < ((n - k : Nat) : Int)), true)] := ⟨by kernel_rfl, by kernel_rfl, by kernel_rfl⟩
theorem hg_s4 (l : List Value) (a : Value) (o n c k : Nat) (e E j w : Int) (m mo : Bool) (x : W4) (v10 v11 v12 : Value) (q q' g : Nat → Value) : GoesT (evC (tabH Tryz.prog extY conN hcN) 100 false (hgL2 Tryz.f78) (hgC a e m v10 v11 v12 q q' o n c k j 4 ++ tl 21 g, hgM l E x mo, [cmp true, at_, val (uN w)]) ⟨[], [], []⟩) 44 21 none (hgC a e m v10 (.int .i64 4) (uN w) q q' o n c k j 5) (hgM l E (put4 x w) mo) [(false, false), (cellIs (l[o + k * 1 + 4]?) (uN w), true), (decide ((0 : Int) ≤ 4 ∧ (4 : Int) < ((n - k : Nat) : Int)), true), (decide ((4 : Int) < ((n - k : Nat) : Int)), true)] := ⟨by kernel_rfl, by kernel_rfl, by kernel_rfl⟩
theorem hg_s5 (l : List Value) (a : Value) (o n c k : Nat) (e E j w : Int) (m mo : Bool) (x : W4) (v10 v11 v12 : Value) (q q' g : Nat → Value) : GoesT (evC (tabH Tryz.prog extY conN hcN) 100 false (hgL2 Tryz.f78) (hgC a e m v10 v11 v12 q q' o n c k j 5 ++ tl 21 g, hgM l E x mo, [cmp true, at_, val (uN w)]) ⟨[], [], []⟩) 44 21 none (hgC a e m v10 (.int .i64 5) (uN w) q q' o n c k j 6) (hgM l E (put5 x w) mo) [(false, false), (cellIs (l[o + k * 1 + 5]?) (uN w), true), (decide ((0 : Int) ≤ 5 ∧ (5 : Int) < ((n - k : Nat) : Int)), true), (decide ((5 : Int) < ((n - k : Nat) : Int)), true)] := ⟨by kernel_rfl, by kernel_rfl, by kernel_rfl⟩
theorem hg_s6 (l : List Value) (a : Value) (o n c k : Nat) (e E j w : Int) (m mo : Bool) (x : W4) (v10 v11 v12 : Value) (q q' g : Nat → Value) : GoesT (evC (tabH Tryz.prog extY conN hcN) 100 false (hgL2 Tryz.f78) (hgC a e m v10 v11 v12 q q' o n c k j 6 ++ tl 21 g, hgM l E x mo, [cmp true, at_, val (uN w)]) ⟨[], [], []⟩) 44 21 none (hgC a e m v10 (.int .i64 6) (uN w) q q' o n c k j 7) (hgM l E (put6 x w) mo) [(false, false), (cellIs (l[o + k * 1 + 6]?) (uN w), true), (decide ((0 : Int) ≤ 6 ∧ (6 : Int) < ((n - k : Nat) : Int)), true), (decide ((6 : Int) < ((n - k : Nat) : Int)), true)] := ⟨by kernel_rfl, by kernel_rfl, by kernel_rfl⟩
theorem hg_s7 (l : List Value) (a : Value) (o n c k : Nat) (e E j w : Int) (m mo : Bool) (x : W4) (v10 v11 v12 : Value) (q q' g : Nat → Value) : GoesT (evC (tabH Tryz.prog extY conN hcN) 100 false (hgL2 Tryz.f78) (hgC a e m v10 v11 v12 q q' o n c k j 7 ++ tl 21 g, hgM l E x mo, [cmp true, at_, val (uN w)]) ⟨[], [], []⟩) 44 21 none (hgC a e m v10 (.int .i64 7) (uN w) q q' o n c k j 8) (hgM l E (put7 x w) mo) [(false, false), (cellIs (l[o + k * 1 + 7]?) (uN w), true), (decide ((0 : Int) ≤ 7 ∧ (7 : Int) < ((n - k : Nat) : Int)), true), (decide ((7 : Int) < ((n - k : Nat) : Int)), true)] := ⟨by kernel_rfl, by kernel_rfl, by kernel_rfl⟩
theorem hg_e (l : List Value) (a : Value) (o n c k : Nat) (e E j i : Int) (m mo : Bool) (x : W4) (v10 v11 v12 : Value) (q q' g : Nat → Value) : GoesT (evC (tabH Tryz.prog extY conN hcN) 100 false (sK Tryz.f78 5) (hgC a e m v10 v11 v12 q q' o n c k j i ++ tl 21 g, hgM l E x mo, []) ⟨[], [], []⟩) 7 58 (some none) ([a, .int .i64 e, .bool m, undef, undef, undef, pO 1]) (⟨3, [nB9 false E x mo, nB9 false E x mo, (l, tR)]⟩) [] := ⟨by kernel_rfl, by kernel_rfl, by kernel_rfl⟩
theorem vbz {L : List Int} (h : ∀ x ∈ L, Dg 4294967296 x) (k : Nat) : vb 4294967296 (L.take k) < 4294967296 ^ k := by
  have h1 := vb_lt (b := 4294967296) (by omega) (L.take k) (fun x hx => h x (List.mem_of_mem_take hx))
  have h2 : (L.take k).length ≤ k := by rw [List.length_take]; omega
  exact Nat.lt_of_lt_of_le h1 (Nat.pow_le_pow_right (by omega) h2)
def anyW (L : List Int) (m : Bool) : Bool := m || decide (vb 4294967296 L ≠ 0)
theorem anyW_next {L : List Int} {m : Bool} {i : Nat} (hL : ∀ x ∈ L, Dg 4294967296 x) (hi : i < L.length) : anyW (L.take (i + 1)) m = (anyW (L.take i) m || (L.getD i 0 != 0)) := by
  have hd : 0 ≤ L.getD i 0 := by
    have : L.getD i 0 ∈ L := by
      rw [List.getD_eq_getElem?_getD, List.getElem?_eq_getElem hi, Option.getD_some]
      exact List.getElem_mem hi
    exact (hL _ this).1
  have e := vb_take 4294967296 L i
  have hp : 0 < 4294967296 ^ i := Nat.pow_pos (by omega)
  unfold anyW
  rw [Bool.or_assoc]
  congr 1
  by_cases h0 : L.getD i 0 = 0
  · rw [h0] at e
    rw [e, h0]
    simp
  · have h1 : vb 4294967296 (L.take (i + 1)) ≠ 0 := by
      rw [e]
      have h2 : 0 < 4294967296 ^ i * (L.getD i 0).toNat := Nat.mul_pos hp (by omega)
      omega
    rw [decide_eq_true h1, show (L.getD i 0 != 0) = true by simpa using h0, Bool.or_true]
def hgJ1 (l : List Value) (a : Value) (o c k : Nat) (e E : Int) (m : Bool) (q : Nat → Value) (L : List Int) (i : Nat) (y : Lf) : Prop := ∃ (v10 : Value) (g : Nat → Value), i ≤ k ∧ y.1 = hgB a e m v10 undef undef q o c k i ++ tl 37 g ∧ y.2.1 = hgM l E ⟨0, 0, 0, 0⟩ (anyW (L.take i) m)
theorem hg_round1 {l : List Value} {a : Value} {o c k : Nat} {e E : Int} {m : Bool} {q : Nat → Value} {L : List Int} (hR : Row l o L) (hk : k ≤ L.length) (hk2 : k ≤ 100000) (r : Nat) (y : Lf) (h : ∃ i, r = k - i ∧ hgJ1 l a o c k e E m q L i y) :
    Runs (tabH Tryz.prog extY conN hcN) (hgL1 Tryz.f78) y fun e' z => match e' with | none => ∃ r', r' < r ∧ ∃ i, r' = k - i ∧ hgJ1 l a o c k e E m q L i z | some none => False | some (some id') => id' = 0 ∧ hgJ1 l a o c k e E m q L k z := by
  have hT := tabH_ok conN_ok hcN_ok
  obtain ⟨i, hr, v10, g, hi, ht, hh⟩ := h
  obtain ⟨t, h', sc⟩ := y
  simp only at ht hh
  subst ht hh
  by_cases hc : i < k
  · have lA : decide (((i : Nat) : Int) < (k : Nat)) = true := decide_eq_true (by omega)
    have lI : decide ((0 : Int) ≤ (i : Nat) ∧ ((i : Nat) : Int) < (k : Nat)) = true := decide_eq_true ⟨by omega, by omega⟩
    have ew : IntKind.i64.wrap (((i : Nat) : Int) + 1) = ((i + 1 : Nat) : Int) := by rw [wrapI (by omega) (by omega)]; omega
    have lC : cellIs (l[o + ((i : Nat) : Int).toNat * 1]?) (uN (L.getD i 0)) = true := by
      rw [Int.toNat_natCast, Nat.mul_one, hR.cell (by omega)]
      simp [cellIs, uN]
    have hn := anyW_next (m := m) hR.rng (show i < L.length by omega)
    cases hb : anyW (L.take i) m with
    | true =>
      have hg := hg_gt l a o c k e E (i : Nat) (L.getD i 0) m ⟨0, 0, 0, 0⟩ v10 q g
      rw [ew] at hg
      rw [hb, Bool.true_or] at hn
      refine (goesT_runs (s0 := sc) hT hg (okCons lC (okCons lI (okL1 lA)))).mono fun e' z he => ?_
      obtain ⟨rfl, ⟨g', z1⟩, z2⟩ := he
      exact ⟨k - (i + 1), by omega, i + 1, rfl, _, g', by omega, z1, by rw [z2, hn]⟩
    | false =>
      have hg := hg_gf l a o c k e E (i : Nat) (L.getD i 0) m (L.getD i 0 != 0) ⟨0, 0, 0, 0⟩ v10 q g
      rw [ew] at hg
      rw [hb, Bool.false_or] at hn
      refine (goesT_runs (s0 := sc) hT hg (okCons rfl (okCons lC (okCons lI (okL1 lA))))).mono fun e' z he => ?_
      obtain ⟨rfl, ⟨g', z1⟩, z2⟩ := he
      exact ⟨k - (i + 1), by omega, i + 1, rfl, _, g', by omega, z1, by rw [z2, hn]⟩
  · have : i = k := by omega
    subst this
    refine (goesT_runs (s0 := sc) hT (hg_x1 l a o c i e E (i : Nat) m _ _ v10 q g) (okL1 (decide_eq_false (by omega)))).mono fun e' z he => ?_
    obtain ⟨rfl, ⟨g', z1⟩, z2⟩ := he
    exact ⟨rfl, v10, g', hi, z1, z2⟩
def hgJ2 (l : List Value) (a : Value) (o n c k : Nat) (e E j : Int) (m mo : Bool) (q q' : Nat → Value) (K : List Int) (i : Nat) (y : Lf) : Prop := ∃ (v10 v11 v12 : Value) (g : Nat → Value), i ≤ n - k ∧ y.1 = hgC a e m v10 v11 v12 q q' o n c k j i ++ tl 21 g ∧ y.2.1 = hgM l E (ofN (vb 4294967296 (K.take i))) mo
theorem hg_round2 {l : List Value} {a : Value} {o n c k : Nat} {e E j : Int} {m mo : Bool} {q q' : Nat → Value} {K : List Int} (hR : ∀ i, i < n - k → l[o + k * 1 + i]? = some (uN (K.getD i 0))) (hK : ∀ x ∈ K, Dg 4294967296 x) (hn : n - k ≤ 8) (hl : K.length = n - k) (r : Nat) (y : Lf) (h : ∃ i, r = n - k - i ∧ hgJ2 l a o n c k e E j m mo q q' K i y) :
    Runs (tabH Tryz.prog extY conN hcN) (hgL2 Tryz.f78) y fun e' z => match e' with | none => ∃ r', r' < r ∧ ∃ i, r' = n - k - i ∧ hgJ2 l a o n c k e E j m mo q q' K i z | some none => False | some (some id') => id' = 2 ∧ hgJ2 l a o n c k e E j m mo q q' K (n - k) z := by
  have hT := tabH_ok conN_ok hcN_ok
  obtain ⟨i, hr, v10, v11, v12, g, hi, ht, hh⟩ := h
  obtain ⟨t, h', sc⟩ := y
  simp only at ht hh
  subst ht hh
  by_cases hc : i < n - k
  · have hw : Dg 4294967296 (K.getD i 0) := by
      refine hK _ ?_
      rw [List.getD_eq_getElem?_getD, List.getElem?_eq_getElem (by omega), Option.getD_some]
      exact List.getElem_mem (by omega)
    obtain ⟨w, ew⟩ : ∃ w : Nat, K.getD i 0 = (w : Int) := ⟨(K.getD i 0).toNat, by have := hw.1; omega⟩
    have hw2 : w < 4294967296 := by have := hw.2; rw [ew] at this; omega
    have lC : cellIs (l[o + k * 1 + i]?) (uN (w : Int)) = true := by
      rw [hR i hc, ew]
      simp [cellIs, uN]
    have hV := vbz hK i
    have ev := vb_take 4294967296 K i
    rw [ew, Int.toNat_natCast] at ev
    obtain ⟨V, hVe⟩ : ∃ V, V = vb 4294967296 (K.take i) := ⟨_, rfl⟩
    rw [← hVe] at hV ev
    rw [← hVe]
    have i8 : i = 0 ∨ i = 1 ∨ i = 2 ∨ i = 3 ∨ i = 4 ∨ i = 5 ∨ i = 6 ∨ i = 7 := by omega
    have fin : ∀ (s' : Lf) (X : W4), X = ofN (vb 4294967296 (K.take (i + 1))) → (∃ g', s'.1 = hgC a e m v10 (.int .i64 (i : Nat)) (uN (w : Int)) q q' o n c k j ((i + 1 : Nat) : Int) ++ tl 21 g') → s'.2.1 = hgM l E X mo → ∃ r', r' < r ∧ ∃ i, r' = n - k - i ∧ hgJ2 l a o n c k e E j m mo q q' K i s' := by
      rintro s' X hX ⟨g', e1⟩ e2
      exact ⟨n - k - (i + 1), by omega, i + 1, rfl, v10, _, _, g', by omega, e1, by rw [e2, hX]⟩
    rcases i8 with rfl | rfl | rfl | rfl | rfl | rfl | rfl | rfl
    · have hg := hg_s0 l a o n c k e E j (w : Int) m mo (ofN V) v10 v11 v12 q q' g
      have lT : decide ((0 : Int) < ((n - k : Nat) : Int)) = true := decide_eq_true (by omega)
      refine (goesT_runs (s0 := sc) hT hg (okCons rfl (okCons lC (okCons (decide_eq_true ⟨by omega, by omega⟩) (okL1 lT))))).mono fun e' z he => ?_
      obtain ⟨rfl, ⟨g', z1⟩, z2⟩ := he
      refine fin z _ ?_ ⟨g', z1⟩ z2
      rw [put0_ok (show V < 1 from hV) hw2, ev]
    · have hg := hg_s1 l a o n c k e E j (w : Int) m mo (ofN V) v10 v11 v12 q q' g
      have lT : decide ((1 : Int) < ((n - k : Nat) : Int)) = true := decide_eq_true (by omega)
      refine (goesT_runs (s0 := sc) hT hg (okCons rfl (okCons lC (okCons (decide_eq_true ⟨by omega, by omega⟩) (okL1 lT))))).mono fun e' z he => ?_
      obtain ⟨rfl, ⟨g', z1⟩, z2⟩ := he
      refine fin z _ ?_ ⟨g', z1⟩ z2
      rw [put1_ok (show V < 4294967296 from hV) hw2, ev]
    · have hg := hg_s2 l a o n c k e E j (w : Int) m mo (ofN V) v10 v11 v12 q q' g
      have lT : decide ((2 : Int) < ((n - k : Nat) : Int)) = true := decide_eq_true (by omega)
      refine (goesT_runs (s0 := sc) hT hg (okCons rfl (okCons lC (okCons (decide_eq_true ⟨by omega, by omega⟩) (okL1 lT))))).mono fun e' z he => ?_
      obtain ⟨rfl, ⟨g', z1⟩, z2⟩ := he
      refine fin z _ ?_ ⟨g', z1⟩ z2
      rw [put2_ok (show V < 18446744073709551616 from hV) hw2, ev]
    · have hg := hg_s3 l a o n c k e E j (w : Int) m mo (ofN V) v10 v11 v12 q q' g
      have lT : decide ((3 : Int) < ((n - k : Nat) : Int)) = true := decide_eq_true (by omega)
      refine (goesT_runs (s0 := sc) hT hg (okCons rfl (okCons lC (okCons (decide_eq_true ⟨by omega, by omega⟩) (okL1 lT))))).mono fun e' z he => ?_
      obtain ⟨rfl, ⟨g', z1⟩, z2⟩ := he
      refine fin z _ ?_ ⟨g', z1⟩ z2
      rw [put3_ok (show V < 79228162514264337593543950336 from hV) hw2, ev]
    · have hg := hg_s4 l a o n c k e E j (w : Int) m mo (ofN V) v10 v11 v12 q q' g
      have lT : decide ((4 : Int) < ((n - k : Nat) : Int)) = true := decide_eq_true (by omega)
      refine (goesT_runs (s0 := sc) hT hg (okCons rfl (okCons lC (okCons (decide_eq_true ⟨by omega, by omega⟩) (okL1 lT))))).mono fun e' z he => ?_
      obtain ⟨rfl, ⟨g', z1⟩, z2⟩ := he
      refine fin z _ ?_ ⟨g', z1⟩ z2
      rw [put4_ok (show V < 340282366920938463463374607431768211456 from hV) hw2, ev]
    · have hg := hg_s5 l a o n c k e E j (w : Int) m mo (ofN V) v10 v11 v12 q q' g
      have lT : decide ((5 : Int) < ((n - k : Nat) : Int)) = true := decide_eq_true (by omega)
      refine (goesT_runs (s0 := sc) hT hg (okCons rfl (okCons lC (okCons (decide_eq_true ⟨by omega, by omega⟩) (okL1 lT))))).mono fun e' z he => ?_
      obtain ⟨rfl, ⟨g', z1⟩, z2⟩ := he
      refine fin z _ ?_ ⟨g', z1⟩ z2
      rw [put5_ok (show V < 1461501637330902918203684832716283019655932542976 from hV) hw2, ev]
    · have hg := hg_s6 l a o n c k e E j (w : Int) m mo (ofN V) v10 v11 v12 q q' g
      have lT : decide ((6 : Int) < ((n - k : Nat) : Int)) = true := decide_eq_true (by omega)
      refine (goesT_runs (s0 := sc) hT hg (okCons rfl (okCons lC (okCons (decide_eq_true ⟨by omega, by omega⟩) (okL1 lT))))).mono fun e' z he => ?_
      obtain ⟨rfl, ⟨g', z1⟩, z2⟩ := he
      refine fin z _ ?_ ⟨g', z1⟩ z2
      rw [put6_ok (show V < 6277101735386680763835789423207666416102355444464034512896 from hV) hw2, ev]
    · have hg := hg_s7 l a o n c k e E j (w : Int) m mo (ofN V) v10 v11 v12 q q' g
      have lT : decide ((7 : Int) < ((n - k : Nat) : Int)) = true := decide_eq_true (by omega)
      refine (goesT_runs (s0 := sc) hT hg (okCons rfl (okCons lC (okCons (decide_eq_true ⟨by omega, by omega⟩) (okL1 lT))))).mono fun e' z he => ?_
      obtain ⟨rfl, ⟨g', z1⟩, z2⟩ := he
      refine fin z _ ?_ ⟨g', z1⟩ z2
      rw [put7_ok (show V < 26959946667150639794667015087019630673637144422540572481103610249216 from hV) hw2, ev]
  · have : i = n - k := by omega
    subst this
    refine (goesT_runs (s0 := sc) hT (hg_x2 l a o n c k e E j ((n - k : Nat) : Int) m mo _ v10 v11 v12 q q' g) (okL1 (decide_eq_false (by omega)))).mono fun e' z he => ?_
    obtain ⟨rfl, ⟨g', z1⟩, z2⟩ := he
    exact ⟨rfl, v10, v11, v12, g', hi, z1, z2⟩
theorem low_is {n : Nat} (h : n ≤ 100000) : lowI n = ((n - 8 : Nat) : Int) := by
  unfold lowI
  rw [wrapI (by omega) (by omega)]
  split <;> omega
theorem hg_runs {l : List Value} {o c : Nat} {e : Int} {m : Bool} {V : Nat} (hR : Row l o (db 4294967296 V)) (hn : (db 4294967296 V).length ≤ 1000) (hc : (db 4294967296 V).length ≤ c) (hs : smallC c = true) (he : -1000000 ≤ e ∧ e ≤ 1000000) :
    Runs (tabH Tryz.prog extY conN hcN) (seqs [sP Tryz.f78 0, sP Tryz.f78 1, sP Tryz.f78 2] (.seq (.seq (cFst (sP Tryz.f78 3)) (.block 0 (.loop (hgL1 Tryz.f78)))) (.seq (.seq (cFst (sP Tryz.f78 4)) (.block 2 (.loop (hgL2 Tryz.f78)))) (sK Tryz.f78 5)))) ([sl 0 o (db 4294967296 V).length c, .int .i64 e, .bool m] ++ List.replicate 62 undef, ⟨1, [(l, tR)]⟩, []) fun e' z => (e' = none ∨ e' = some none) ∧ resS Tryz.prog Tryz.f78 z.1 z.2.1 = some (vN false (hiE V e) (ofN (hiS V)) (hiM V m)) := by
  have hT := tabH_ok conN_ok hcN_ok
  obtain ⟨L, hL⟩ : ∃ L, L = db 4294967296 V := ⟨_, rfl⟩
  have hdg : ∀ x ∈ L, Dg 4294967296 x := by rw [hL]; exact db_dg (by omega) V
  have eV : vb 4294967296 L = V := by rw [hL]; exact vb_db (by omega) V
  rw [← hL] at hR hn hc ⊢
  obtain ⟨n, hnl⟩ : ∃ n, n = L.length := ⟨_, rfl⟩
  rw [← hnl] at hn hc ⊢
  obtain ⟨k, hk⟩ : ∃ k, k = n - 8 := ⟨_, rfl⟩
  have elow : lowI n = (k : Nat) := by rw [low_is (by omega), hk]
  have eE : hgE n e = hiE V e := by
    unfold hgE hiE loW
    rw [elow, wrapI (n := 32 * ((k : Nat) : Int)) (by omega) (by omega), wrapI (by omega) (by omega), ← hL, ← hnl, ← hk]
  have dead_c : (c : Int) < 4611686018427387904 := by
    have := blt_iff.1 hs
    have e : dead = 4611686018427387904 := rfl
    omega
  have hp := hg_pre l o n c e m
  rw [elow, eE] at hp
  refine goesT_list hT hp okN9R fun g => ?_
  have okc : okPart 0 (k : Nat) (c : Nat) (c : Nat) = true := decide_eq_true ⟨by omega, by omega, by omega, by omega, by omega⟩
  refine Runs.seq (P1 := fun e' y => match e' with | none => hgJ1 l (sl 0 o n c) o c k e (hiE V e) m (hgQ o n c e m) L k y | some none => False | some (some _) => False) ?_ ?_ ?_
  · refine Runs.seq (goesT_runs hT (hg_i1 l o n c k e (hiE V e) m ⟨0, 0, 0, 0⟩ (hgQ o n c e m) g) (okCons hs (okCons okc (okL1 (decide_eq_false (fun h => h.2 rfl)))))) ?_ (fun e' y hy => by cases hy.1)
    rintro ⟨t, h', s⟩ ⟨_, ⟨g', ht⟩, hh⟩
    simp only at ht hh
    subst ht hh
    exact Runs.forLoop (R := fun _ => False) (P := hgJ1 l (sl 0 o n c) o c k e (hiE V e) m (hgQ o n c e m) L k) (fun r y => ∃ i, r = k - i ∧ hgJ1 l (sl 0 o n c) o c k e (hiE V e) m (hgQ o n c e m) L i y) (hg_round1 hR (by omega) (by omega)) (n := k - 0) ⟨0, rfl, undef, g', Nat.zero_le _, rfl, by rw [show anyW (L.take 0) m = m by unfold anyW; cases m <;> rfl]⟩
  · rintro ⟨t, h', s⟩ ⟨v10, g1, _, ht, hh⟩
    simp only at ht hh
    subst ht hh
    obtain ⟨mo, hmo⟩ : ∃ mo, mo = anyW (L.take k) m := ⟨_, rfl⟩
    rw [← hmo]
    have okn : okPart (k : Nat) (n : Nat) (c : Nat) (c : Nat) = true := decide_eq_true ⟨by omega, by omega, by omega, by omega, by omega⟩
    have hKl : (L.drop k).length = n - k := by rw [List.length_drop, ← hnl]
    refine Runs.seq (P1 := fun e' y => match e' with | none => hgJ2 l (sl 0 o n c) o n c k e (hiE V e) (k : Nat) m mo (hgQ o n c e m) g1 (L.drop k) (n - k) y | some none => False | some (some _) => False) ?_ ?_ ?_
    · refine Runs.seq (goesT_runs (s0 := s) hT (hg_i2 l o n c k e (hiE V e) (k : Nat) m mo ⟨0, 0, 0, 0⟩ v10 (hgQ o n c e m) g1) (okCons hs (okCons okn (okL1 (decide_eq_false (fun h => by omega)))))) ?_ (fun e' y hy => by cases hy.1)
      rintro ⟨t, h', s⟩ ⟨_, ⟨g', ht⟩, hh⟩
      simp only at ht hh
      subst ht hh
      refine Runs.forLoop (R := fun _ => False) (P := hgJ2 l (sl 0 o n c) o n c k e (hiE V e) (k : Nat) m mo (hgQ o n c e m) g1 (L.drop k) (n - k)) (fun r y => ∃ i, r = n - k - i ∧ hgJ2 l (sl 0 o n c) o n c k e (hiE V e) (k : Nat) m mo (hgQ o n c e m) g1 (L.drop k) i y) (hg_round2 (fun i hi => ?_) (fun x hx => hdg x (List.mem_of_mem_drop hx)) (by omega) hKl) (n := n - k - 0) ⟨0, rfl, v10, undef, undef, g', Nat.zero_le _, rfl, by rw [show ofN (vb 4294967296 ((L.drop k).take 0)) = ⟨0, 0, 0, 0⟩ from ofN_zero]⟩
      rw [Nat.mul_one, Nat.add_assoc, hR.cell (by omega)]
      simp [uN, List.getD, List.getElem?_drop]
    · rintro ⟨t, h', s⟩ ⟨v10, v11, v12, g', _, ht, hh⟩
      simp only at ht hh
      subst ht hh
      rw [show (L.drop k).take (n - k) = L.drop k by rw [← hKl, List.take_length]]
      refine (goesT_runs (s0 := s) hT (hg_e l (sl 0 o n c) o n c k e (hiE V e) (k : Nat) _ m mo _ v10 v11 v12 (hgQ o n c e m) g1 g') okN9R).mono fun e' z he => ?_
      obtain ⟨rfl, ⟨g2, z1⟩, z2⟩ := he
      refine ⟨.inr rfl, ?_⟩
      have hsp : vb 4294967296 (L.take k) + 4294967296 ^ k * vb 4294967296 (L.drop k) = V := by
        have := vb_append 4294967296 (L.take k) (L.drop k)
        rw [List.take_append_drop, eV, List.length_take, Nat.min_eq_left (by omega)] at this
        exact this.symm
      have hlt := vbz hdg k
      have hp : 0 < 4294967296 ^ k := Nat.pow_pos (by omega)
      have elo : loW V = k := by unfold loW; rw [← hL, ← hnl, hk]
      have e1 : vb 4294967296 (L.drop k) = hiS V := by
        unfold hiS
        rw [elo, ← words_pow, ← hsp, Nat.add_comm, Nat.mul_add_div hp, Nat.div_eq_of_lt hlt, Nat.add_zero]
      have e2 : mo = hiM V m := by
        rw [hmo]
        unfold anyW hiM
        rw [elo, ← words_pow, ← hsp, Nat.add_comm, Nat.mul_add_mod, Nat.mod_eq_of_lt hlt]
      rw [z1, z2, e1, e2]
      rfl
    · rintro e' y he
      match e', he with
      | none, he => exact he.elim
  · rintro e' y he
    match e', he with
    | none, he => exact he.elim
/-- the highest words, the number told ahead -/
def gHgR : AnsH := fun vals h s =>
  match vals, s with
  | [.slice (some ⟨b, o, none⟩) n c, .int .i64 e, .bool m], .inr (.inl V) :: s' =>
    match h.blk? b with
    | some x => some (vN false (hiE V.toNat e) (ofN (hiS V.toNat)) (hiM V.toNat m), h, s', [(rowOk x.2 x.1 o n c, true), (decide (cutI x.1 o n = db 4294967296 V.toNat), true), (decide (n ≤ 1000 ∧ -1000000 ≤ e ∧ e ≤ 1000000), true)])
    | _ => none
  | _, _ => none
theorem gHgR_ok : AnsHOk 78 gHgR := by
  intro vals h s v h' s' lg hg hl m B w E hv
  unfold gHgR at hg
  split at hg
  · rename_i b o n c e mo V s2
    split at hg
    · rename_i x hx
      cases hg
      have ra : rowOk x.2 x.1 o n c = true := hl _ List.mem_cons_self
      have q1 := of_decide_eq_true (hl _ (List.mem_cons_of_mem _ List.mem_cons_self))
      have q2 := of_decide_eq_true (hl _ (List.mem_cons_of_mem _ (List.mem_cons_of_mem _ (List.mem_singleton.2 rfl))))
      obtain ⟨h1, h2, h3, h4, h5, h6, h7⟩ := row_of ra
      rw [q1] at h1 h2
      have r := hg_runs (c := c) (e := e) (m := mo) h1 (by omega) (by omega) h4 q2.2
      rw [h2] at r
      exact row_calls0 (T := tabH Tryz.prog extY conN hcN) Tryz.func78 hg_body (rows1 h7) (vals := [sl 0 o n c, .int .i64 e, .bool mo]) (fun v hv => by
        simp only [List.mem_cons, List.not_mem_nil, or_false] at hv
        rcases hv with rfl | rfl | rfl <;> rfl) (by rfl) r.w E (s := fun _ => b) (fitsR1 hx h5 h6 rfl)
    · cases hg
  · cases hg
end Go.Proofs.YtjlponbdflkbjaaGreatDoor
