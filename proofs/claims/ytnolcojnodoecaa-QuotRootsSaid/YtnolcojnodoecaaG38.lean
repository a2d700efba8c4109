/-
  Products: 0 times Endless, Endless of a product's sign, the exact product (prod.isNoughtByEndless, endless, exact), as calls in every world.
-/
import Derived.Test.YtnolcojnodoecaaG29
import Derived.Test.YtnolcojnodoecaaG34
import Derived.Test.YtnolcojnodoecaaG37
import Derived.Test.YtnolcojnodoecaaG30
namespace Go.Proofs.Ytnolcojnodoecaa
open Go.KRun Go.Wd Go.Pt Go.Rn
set_option maxRecDepth 100000

def conP0 : Con := alt 63 (g2 (plain2 mulV4)) conG0
theorem conP0_ok : ConOk conP0 := alt_ok Try.func63 rfl (plain2_ok mul_calls) conG0_ok
/-! ### 0 times Endless -/
def badB (a b : Int) : Bool := decide ((cl a = 0 ∧ cl b = 3) ∨ (cl a = 3 ∧ cl b = 0))
theorem nb_tt (a b : Int) : Fits (reckon (tabOf Try.prog extY conP0 true) 300 35 [.int .u64 a, .int .u64 b] [cmp true, cmp true]) (.bool true) [(cl b == 3, true), lU b, (cl a == 0, true), lU a] := ⟨by kernel_rfl, by kernel_rfl, by kernel_rfl, by kernel_rfl⟩
theorem nb_tff (a b : Int) : Fits (reckon (tabOf Try.prog extY conP0 true) 300 35 [.int .u64 a, .int .u64 b] [cmp true, cmp false, cmp false]) (.bool false) [(cl a == 3, false), lU a, (cl b == 3, false), lU b, (cl a == 0, true), lU a] := ⟨by kernel_rfl, by kernel_rfl, by kernel_rfl, by kernel_rfl⟩
theorem nb_ff (a b : Int) : Fits (reckon (tabOf Try.prog extY conP0 true) 300 35 [.int .u64 a, .int .u64 b] [cmp false, cmp false]) (.bool false) [(cl a == 3, false), lU a, (cl a == 0, false), lU a] := ⟨by kernel_rfl, by kernel_rfl, by kernel_rfl, by kernel_rfl⟩
theorem nb_ftt (a b : Int) : Fits (reckon (tabOf Try.prog extY conP0 true) 300 35 [.int .u64 a, .int .u64 b] [cmp false, cmp true, cmp true]) (.bool true) [(cl b == 0, true), lU b, (cl a == 3, true), lU a, (cl a == 0, false), lU a] := ⟨by kernel_rfl, by kernel_rfl, by kernel_rfl, by kernel_rfl⟩
theorem nb_ftf (a b : Int) : Fits (reckon (tabOf Try.prog extY conP0 true) 300 35 [.int .u64 a, .int .u64 b] [cmp false, cmp true, cmp false]) (.bool false) [(cl b == 0, false), lU b, (cl a == 3, true), lU a, (cl a == 0, false), lU a] := ⟨by kernel_rfl, by kernel_rfl, by kernel_rfl, by kernel_rfl⟩
theorem nb_calls (a b : Int) (ha : U a) (hb : U b) (w : World) : Calls Try.prog 35 #[.int .u64 a, .int .u64 b] w fun r w' => r = .returned (.bool (badB a b)) ∧ Tidy w w' := by
  have hv : ([.int .u64 a, .int .u64 b].all (lt 0)) = true := rfl
  have ka : decide (U a) = true := decide_eq_true ha
  have kb : decide (U b) = true := decide_eq_true hb
  by_cases h0 : cl a = 0
  · by_cases h3 : cl b = 3
    · rw [show badB a b = true from decide_eq_true (.inl ⟨h0, h3⟩)]
      exact fits_calls (tabY_ok conP0_ok) (nb_tt a b) (okCons (beq_t h3) (okCons kb (okCons (beq_t h0) (okL1 ka)))) hv (by rfl) w
    · rw [show badB a b = false from decide_eq_false (by omega)]
      exact fits_calls (tabY_ok conP0_ok) (nb_tff a b) (okCons (beq_f (by omega)) (okCons ka (okCons (beq_f h3) (okCons kb (okCons (beq_t h0) (okL1 ka)))))) hv (by rfl) w
  · by_cases h3 : cl a = 3
    · by_cases hz : cl b = 0
      · rw [show badB a b = true from decide_eq_true (.inr ⟨h3, hz⟩)]
        exact fits_calls (tabY_ok conP0_ok) (nb_ftt a b) (okCons (beq_t hz) (okCons kb (okCons (beq_t h3) (okCons ka (okCons (beq_f h0) (okL1 ka)))))) hv (by rfl) w
      · rw [show badB a b = false from decide_eq_false (by omega)]
        exact fits_calls (tabY_ok conP0_ok) (nb_ftf a b) (okCons (beq_f hz) (okCons kb (okCons (beq_t h3) (okCons ka (okCons (beq_f h0) (okL1 ka)))))) hv (by rfl) w
    · rw [show badB a b = false from decide_eq_false (by omega)]
      exact fits_calls (tabY_ok conP0_ok) (nb_ff a b) (okCons (beq_f h3) (okCons ka (okCons (beq_f h0) (okL1 ka)))) hv (by rfl) w
/-- a truth of two words, told ahead -/
def gUUb (k : Int → Int → Bool) : Ans := fun vals s =>
  match vals, s with
  | [.int .u64 a, .int .u64 b], .inr (.inr (.inr (.inl d))) :: s' => some (.bool d, s', [(k a b, d), (decide (U a ∧ U b), true)])
  | _, _ => none
theorem gUUb_ok {f : Nat} {k : Int → Int → Bool} (hk : ∀ a b : Int, U a → U b → ∀ w, Calls Try.prog f #[.int .u64 a, .int .u64 b] w fun e w' => e = .returned (.bool (k a b)) ∧ Tidy w w') : AnsOk f (gUUb k) := by
  intro vals s v s' lg h hl w
  unfold gUUb at h
  split at h
  · cases h
    have e := hl _ (List.mem_cons_self)
    obtain ⟨h1, h2⟩ := of_decide_eq_true (hl _ (List.mem_cons_of_mem _ (List.mem_singleton.2 rfl)))
    simp only at e
    rw [← e]
    exact hk _ _ h1 h2 w
  · cases h
/-- a value of two words -/
def gUU (k : Int → Int → Value) (c : Int → Int → Bool) : Ans := fun vals s =>
  match vals with
  | [.int .u64 a, .int .u64 b] => some (k a b, s, [(c a b, true), (decide (U a ∧ U b), true)])
  | _ => none
theorem gUU_ok {f : Nat} {k : Int → Int → Value} {c : Int → Int → Bool} (hk : ∀ a b : Int, U a → U b → c a b = true → ∀ w, Calls Try.prog f #[.int .u64 a, .int .u64 b] w fun e w' => e = .returned (k a b) ∧ Tidy w w') : AnsOk f (gUU k c) := by
  intro vals s v s' lg h hl w
  unfold gUU at h
  split at h
  · cases h
    have e := hl _ (List.mem_cons_self)
    obtain ⟨h1, h2⟩ := of_decide_eq_true (hl _ (List.mem_cons_of_mem _ (List.mem_singleton.2 rfl)))
    exact hk _ _ h1 h2 e w
  · cases h
/-! ### Endless, with a product's sign -/
theorem xor_top {a b : Int} (ha : U a) (hb : U b) : U (bXor a b) ∧ bAnd (bXor a b) 9223372036854775808 = if prN a b = true then 9223372036854775808 else 0 := by
  obtain ⟨A, rfl⟩ := Int.eq_ofNat_of_zero_le ha.1
  obtain ⟨B, rfl⟩ := Int.eq_ofNat_of_zero_le hb.1
  have h1 : A < 2 ^ 64 := by have := ha.2; omega
  have h2 : B < 2 ^ 64 := by have := hb.2; omega
  have hx : A ^^^ B < 2 ^ 64 := Nat.xor_lt_two_pow h1 h2
  have e : bXor (A : Int) (B : Int) = ((A ^^^ B : Nat) : Int) := by
    unfold bXor
    rw [back, BitVec.toNat_xor, ofU (by omega), ofU (by omega)]
  have hU : U (bXor (A : Int) (B : Int)) := by rw [e]; exact ⟨by omega, by omega⟩
  refine ⟨hU, ?_⟩
  rw [bAnd_sign hU, e]
  have hd : (A ^^^ B) / 2 ^ 63 = A / 2 ^ 63 ^^^ B / 2 ^ 63 := Nat.xor_div_two_pow
  have a1 : A / 2 ^ 63 < 2 := by omega
  have b1 : B / 2 ^ 63 < 2 := by omega
  have hA : sgn (A : Int) = decide (A / 2 ^ 63 = 1) := by
    unfold sgn
    by_cases h : A / 2 ^ 63 = 1
    · rw [decide_eq_true h]; exact decide_eq_true (by omega)
    · rw [decide_eq_false h]; exact decide_eq_false (by omega)
  have hB : sgn (B : Int) = decide (B / 2 ^ 63 = 1) := by
    unfold sgn
    by_cases h : B / 2 ^ 63 = 1
    · rw [decide_eq_true h]; exact decide_eq_true (by omega)
    · rw [decide_eq_false h]; exact decide_eq_false (by omega)
  have e2 : ((A ^^^ B : Nat) : Int) / 9223372036854775808 = ((A / 2 ^ 63 ^^^ B / 2 ^ 63 : Nat) : Int) := by rw [← hd]; omega
  rw [e2]
  unfold prN
  rw [hA, hB]
  generalize A / 2 ^ 63 = x at *
  generalize B / 2 ^ 63 = y at *
  have hx : x = 0 ∨ x = 1 := by omega
  have hy : y = 0 ∨ y = 1 := by omega
  rcases hx with rfl | rfl <;> rcases hy with rfl | rfl <;> decide
def inf : Int := 9218868437227405312
theorem en_fits (a b : Int) : Fits (reckon (tabOf Try.prog extY conP0 true) 300 38 [.int .u64 a, .int .u64 b] []) (.int .u64 (bOr (bNot 9218868437227405312 9223372036854775808) (bAnd (bXor a b) 9223372036854775808))) [] := ⟨by kernel_rfl, by kernel_rfl, by kernel_rfl, by kernel_rfl⟩
theorem en_eq {a b : Int} (ha : U a) (hb : U b) : bOr (bNot 9218868437227405312 9223372036854775808) (bAnd (bXor a b) 9223372036854775808) = sS (prN a b) inf := by
  rw [(xor_top ha hb).2]
  cases prN a b <;> decide
theorem en_calls (a b : Int) (ha : U a) (hb : U b) (w : World) : Calls Try.prog 38 #[.int .u64 a, .int .u64 b] w fun r w' => r = .returned (.int .u64 (sS (prN a b) inf)) ∧ Tidy w w' := by
  have := fits_calls (tabY_ok conP0_ok) (en_fits a b) (fun x hx => by cases hx) (by rfl) (by rfl) w
  rw [en_eq ha hb] at this
  exact this
/-! ### the exact product -/
theorem xa_fits (a b : Int) : Fits (reckon (tabOf Try.prog extY conP0 true) 300 39 [.int .u64 a, .int .u64 b] [cmp true, cmp true]) (vN (prN a b) (IntKind.i64.wrap (xp a + xp b)) (W4.of ((wSg a).val * (wSg b).val)) false) [(decide ((wSg a).ok ∧ (wSg b).ok), true), lU b, (decide (cl b ≤ 2), true), lU b, lU a, (decide (cl a ≤ 2), true), lU a] := ⟨by kernel_rfl, by kernel_rfl, by kernel_rfl, by kernel_rfl⟩
def vPx (a b : Int) : Value := vN (prN a b) (prE a b) (ofN (prV a b)) false
def finB (a b : Int) : Bool := decide (cl a ≤ 2 ∧ cl b ≤ 2)
theorem xa_calls (a b : Int) (ha : U a) (hb : U b) (h : finB a b = true) (w : World) : Calls Try.prog 39 #[.int .u64 a, .int .u64 b] w fun r w' => r = .returned (vPx a b) ∧ Tidy w w' := by
  obtain ⟨ca, cb⟩ := of_decide_eq_true h
  have ka : decide (U a) = true := decide_eq_true ha
  have kb : decide (U b) = true := decide_eq_true hb
  have hE := prE_bd a b
  have e1 : IntKind.i64.wrap (xp a + xp b) = prE a b := wrapI' ⟨by unfold prE at hE; omega, by unfold prE at hE; omega⟩
  have e2 : W4.of ((wSg a).val * (wSg b).val) = ofN (prV a b) := by
    unfold ofN prV
    rw [W4.nat_val (wSg_ok a), W4.nat_val (wSg_ok b), wSg_nat, wSg_nat, Int.natCast_mul]
  have := fits_calls (tabY_ok conP0_ok) (xa_fits a b) (okCons (decide_eq_true ⟨wSg_ok a, wSg_ok b⟩) (okCons kb (okCons (decide_eq_true cb) (okCons kb (okCons ka (okCons (decide_eq_true ca) (okL1 ka))))))) (by rfl) (by rfl) w
  rw [e1, e2] at this
  exact this
def conP1 : Con := alt 35 (gUUb badB) (alt 38 (gUU (fun a b => .int .u64 (sS (prN a b) inf)) (fun _ _ => true)) (alt 39 (gUU vPx finB) conP0))
theorem conP1_ok : ConOk conP1 := alt_ok Try.func35 rfl (gUUb_ok nb_calls) (alt_ok Try.func38 rfl (gUU_ok fun a b ha hb _ w => en_calls a b ha hb w) (alt_ok Try.func39 rfl (gUU_ok xa_calls) conP0_ok))
end Go.Proofs.Ytnolcojnodoecaa

/-
  What is known of calls, for quotients and roots.
-/
namespace Go.Proofs.Ytnolcojnodoecaa
open Go.KRun Go.Wd Go.Pt Go.Rn
set_option maxRecDepth 100000

def conU0 : Con := alt 51 (g1n (plain1n shlV4)) (alt 50 gQR (alt 61 (g1 rootV) conG0))
theorem conU0_ok : ConOk conU0 := alt_ok Try.func51 rfl (plain1n_ok shl_calls) (alt_ok Try.func50 rfl gQR_ok (alt_ok Try.func61 rfl (g1_ok sqrt_calls) conG0_ok))
end Go.Proofs.Ytnolcojnodoecaa

/-
  The quotient and the root of patterns' numbers, with what is left (quot.quotient, quot.root), as calls in every world.
-/
namespace Go.Proofs.Ytnolcojnodoecaa
open Go.KRun Go.Wd Go.Pt Go.Rn
set_option maxRecDepth 100000

def nzW (x : W4) : Bool := !(x.a == 0 && (x.b == 0 && (x.c == 0 && (x.d == 0 && true))))
def upQ (a : Int) : Int := IntKind.i64.wrap (128 + IntKind.i64.wrap ((BitVec.ofInt 64 (xp a) &&& BitVec.ofInt 64 1).toNat : Nat))
def q1 (a b : Int) : Bool × Bool := (decide ((shlW (wSg a) 128).ok ∧ (wSg b).ok ∧ (wSg b).val ≠ 0), true)
def q2 (a : Int) : Bool × Bool := (decide ((wSg a).ok ∧ -9223372036854775808 ≤ (128 : Int) ∧ (128 : Int) ≤ 9223372036854775807), true)
def q3 (a : Int) : Bool × Bool := (decide ((wSg a).ok ∧ -9223372036854775808 ≤ upQ a ∧ upQ a ≤ 9223372036854775807), true)
def q4 (a : Int) : Bool × Bool := (decide (shlW (wSg a) (upQ a)).ok, true)
theorem qo_t (a b : Int) : Fits (reckon (tabOf Try.prog extY conU0 true) 300 20 [.int .u64 a, .int .u64 b] [cmp true, cmp true, sam true]) (vN (prN a b) (IntKind.i64.wrap (IntKind.i64.wrap (xp a - xp b) - 128)) (W4.of ((shlW (wSg a) 128).val / (wSg b).val)) true) [(nzW (W4.of ((shlW (wSg a) 128).val % (wSg b).val)), true), q1 a b, q2 a, q1 a b, q1 a b, q2 a, q1 a b, q2 a, q1 a b, q1 a b, q2 a, q1 a b, q1 a b, q1 a b, q1 a b, q1 a b, q2 a, lU b, (decide (cl b ≤ 2), true), lU b, lU a, (decide (cl a ≤ 2), true), lU a] := ⟨by kernel_rfl, by kernel_rfl, by kernel_rfl, by kernel_rfl⟩
theorem qo_f (a b : Int) : Fits (reckon (tabOf Try.prog extY conU0 true) 300 20 [.int .u64 a, .int .u64 b] [cmp true, cmp true, sam false]) (vN (prN a b) (IntKind.i64.wrap (IntKind.i64.wrap (xp a - xp b) - 128)) (W4.of ((shlW (wSg a) 128).val / (wSg b).val)) false) [(nzW (W4.of ((shlW (wSg a) 128).val % (wSg b).val)), false), q1 a b, q2 a, q1 a b, q1 a b, q2 a, q1 a b, q2 a, q1 a b, q1 a b, q2 a, q1 a b, q1 a b, q1 a b, q1 a b, q1 a b, q2 a, lU b, (decide (cl b ≤ 2), true), lU b, lU a, (decide (cl a ≤ 2), true), lU a] := ⟨by kernel_rfl, by kernel_rfl, by kernel_rfl, by kernel_rfl⟩
theorem ro_t (a : Int) : Fits (reckon (tabOf Try.prog extY conU0 true) 300 31 [.int .u64 a] [cmp true, sam true]) (vN false (IntKind.i64.wrap ((IntKind.i64.wrap (xp a - upQ a)).tdiv 2)) (W4.of (isI (shlW (wSg a) (upQ a)))) true) [(nzW (W4.of ((shlW (wSg a) (upQ a)).val - isI (shlW (wSg a) (upQ a)) * isI (shlW (wSg a) (upQ a)))), true), q4 a, q3 a, lU a, (decide (cl a ≤ 2), true), lU a] := ⟨by kernel_rfl, by kernel_rfl, by kernel_rfl, by kernel_rfl⟩
theorem ro_f (a : Int) : Fits (reckon (tabOf Try.prog extY conU0 true) 300 31 [.int .u64 a] [cmp true, sam false]) (vN false (IntKind.i64.wrap ((IntKind.i64.wrap (xp a - upQ a)).tdiv 2)) (W4.of (isI (shlW (wSg a) (upQ a)))) false) [(nzW (W4.of ((shlW (wSg a) (upQ a)).val - isI (shlW (wSg a) (upQ a)) * isI (shlW (wSg a) (upQ a)))), false), q4 a, q3 a, lU a, (decide (cl a ≤ 2), true), lU a] := ⟨by kernel_rfl, by kernel_rfl, by kernel_rfl, by kernel_rfl⟩

theorem nzW_of {n : Int} (h0 : 0 ≤ n) (h1 : n < 115792089237316195423570985008687907853269984665640564039457584007913129639936) : nzW (W4.of n) = decide (n ≠ 0) := by
  have ev : (W4.of n).val = n := by rw [W4.val_of, Int.emod_eq_of_lt h0 h1]
  have ok := W4.ok_of n
  by_cases hz : n = 0
  · subst hz; rfl
  · rw [decide_eq_true hz]
    unfold nzW
    cases hc : ((W4.of n).a == 0 && ((W4.of n).b == 0 && ((W4.of n).c == 0 && ((W4.of n).d == 0 && true))))
    · rfl
    · exfalso
      simp only [Bool.and_eq_true, beq_iff_eq] at hc
      obtain ⟨e1, e2, e3, e4, _⟩ := hc
      apply hz
      rw [← ev]
      unfold W4.val
      rw [e1, e2, e3, e4]
      rfl
theorem wSg_val (p : Int) : (wSg p).val = sg p := by
  have h := sg_lt p
  rw [W4.nat_val (wSg_ok p), wSg_nat]
  omega
theorem pow_lim {u : Nat} (h : u ≤ 199) : (2 : Int) ^ u ≤ 803469022129495137770981046170581301261101496891396417650688 := by
  have h1 : (2 : Nat) ^ u ≤ 2 ^ 199 := Nat.pow_le_pow_right (by omega) h
  have h2 : (2 : Nat) ^ 199 = 803469022129495137770981046170581301261101496891396417650688 := rfl
  rw [h2] at h1
  have := cast_pow u
  omega
theorem shl_sg (p : Int) {u : Nat} (h0 : 1 ≤ u) (h : u ≤ 199) : (shlW (wSg p) (u : Int)).ok ∧ (shlW (wSg p) (u : Int)).val = (((sg p).toNat * 2 ^ u : Nat) : Int) := by
  have hs := sg_lt p
  have hp := pow_lim h
  have hq : (0 : Int) < 2 ^ u := by rw [cast_pow]; exact_mod_cast Nat.pow_pos (by omega)
  have e : (wSg p).val * 2 ^ u = (((sg p).toNat * 2 ^ u : Nat) : Int) := by
    rw [wSg_val, Int.natCast_mul, ← cast_pow, Int.toNat_of_nonneg hs.1]
  have hb : (((sg p).toNat * 2 ^ u : Nat) : Int) < 115792089237316195423570985008687907853269984665640564039457584007913129639936 := by
    rw [← e, wSg_val]
    have := Int.mul_le_mul (show sg p ≤ 9007199254740991 by omega) hp (by omega) (by omega)
    omega
  unfold shlW
  rw [if_neg (by omega), if_neg (by omega), Int.toNat_natCast, e]
  exact ⟨W4.ok_of _, by rw [W4.val_of, Int.emod_eq_of_lt (by omega) hb]⟩
/-- a quotient's size, and whether something is left -/
def dvQ (a b : Int) : Nat := (sg a).toNat * 2 ^ 128 / (sg b).toNat
def dvM (a b : Int) : Bool := decide ((sg a).toNat * 2 ^ 128 % (sg b).toNat ≠ 0)
def vQo (a b : Int) : Value := vN (prN a b) (xp a - xp b - 128) (ofN (dvQ a b)) (dvM a b)
def okQo (a b : Int) : Bool := decide (cl a ≤ 2 ∧ cl b ≤ 2 ∧ cl b ≠ 0)
theorem sg_zero {p : Int} (h : cl p ≤ 2) : sg p = 0 ↔ cl p = 0 := by
  have h3 := fr_lt p
  unfold sg cl at *
  split at h
  · rename_i h1
    rw [if_pos h1]
    split <;> omega
  · rename_i h1
    split at h
    · split at h
      · omega
      · split at h <;> omega
    · rename_i h2
      rw [if_neg h1, if_neg h2]
      omega
theorem qo_calls (a b : Int) (ha : U a) (hb : U b) (h : okQo a b = true) (w : World) : Calls Try.prog 20 #[.int .u64 a, .int .u64 b] w fun r w' => r = .returned (vQo a b) ∧ Tidy w w' := by
  obtain ⟨ha2, hb2, hb0⟩ := of_decide_eq_true h
  have ka : decide (U a) = true := decide_eq_true ha
  have kb : decide (U b) = true := decide_eq_true hb
  have ca : decide (cl a ≤ 2) = true := decide_eq_true ha2
  have cb : decide (cl b ≤ 2) = true := decide_eq_true hb2
  have nz : sg b ≠ 0 := fun h0 => hb0 ((sg_zero hb2).1 h0)
  have sb := sg_lt b
  obtain ⟨o1, v1⟩ := shl_sg a (u := 128) (by omega) (by omega)
  have v1 : (shlW (wSg a) 128).val = (((sg a).toNat * 2 ^ 128 : Nat) : Int) := v1
  have o1 : (shlW (wSg a) 128).ok := o1
  have bd := W4.val_bd o1
  have k1 : (q1 a b).1 = (q1 a b).2 := decide_eq_true ⟨o1, wSg_ok b, by rw [wSg_val]; exact nz⟩
  have k2 : (q2 a).1 = (q2 a).2 := decide_eq_true ⟨wSg_ok a, by omega, by omega⟩
  have xa := xp_bd a
  have xb := xp_bd b
  have e1 : IntKind.i64.wrap (IntKind.i64.wrap (xp a - xp b) - 128) = xp a - xp b - 128 := by
    rw [wrapI' (n := xp a - xp b) ⟨by omega, by omega⟩, wrapI' ⟨by omega, by omega⟩]
  have eb : (wSg b).val = (((sg b).toNat : Nat) : Int) := by rw [wSg_val]; omega
  have e2 : W4.of ((shlW (wSg a) 128).val / (wSg b).val) = ofN (dvQ a b) := by
    rw [v1, eb, ← Int.natCast_ediv]; rfl
  have er : (shlW (wSg a) 128).val % (wSg b).val = (((sg a).toNat * 2 ^ 128 % (sg b).toNat : Nat) : Int) := by
    rw [v1, eb, ← Int.natCast_emod]
  have hM : nzW (W4.of ((shlW (wSg a) 128).val % (wSg b).val)) = dvM a b := by
    have hl := Nat.mod_lt ((sg a).toNat * 2 ^ 128) (show 0 < (sg b).toNat by omega)
    rw [er, nzW_of (by omega) (by omega)]
    unfold dvM
    exact decide_eq_decide.2 (by omega)
  unfold vQo
  cases hd : dvM a b with
  | true =>
    have := fits_calls (tabY_ok conU0_ok) (qo_t a b) (okCons (hM.trans hd) (okCons k1 (okCons k2 (okCons k1 (okCons k1 (okCons k2 (okCons k1 (okCons k2 (okCons k1 (okCons k1 (okCons k2 (okCons k1 (okCons k1 (okCons k1 (okCons k1 (okCons k1 (okCons k2 (okCons kb (okCons cb (okCons kb (okCons ka (okCons ca (okL1 ka))))))))))))))))))))))) (by rfl) (by rfl) w
    rw [e1, e2] at this
    exact this
  | false =>
    have := fits_calls (tabY_ok conU0_ok) (qo_f a b) (okCons (hM.trans hd) (okCons k1 (okCons k2 (okCons k1 (okCons k1 (okCons k2 (okCons k1 (okCons k2 (okCons k1 (okCons k1 (okCons k2 (okCons k1 (okCons k1 (okCons k1 (okCons k1 (okCons k1 (okCons k2 (okCons kb (okCons cb (okCons kb (okCons ka (okCons ca (okL1 ka))))))))))))))))))))))) (by rfl) (by rfl) w
    rw [e1, e2] at this
    exact this
/-! ### roots -/
theorem upQ_eq (a : Int) : upQ a = (rtU a : Nat) := by
  have xa := xp_bd a
  have e : (((BitVec.ofInt 64 (xp a) &&& BitVec.ofInt 64 1).toNat : Nat) : Int) = xp a % 2 := by
    rw [BitVec.toNat_and, show (BitVec.ofInt 64 1).toNat = 1 from rfl, Nat.and_one_is_mod, BitVec.toNat_ofInt]
    have : ((2 ^ 64 : Nat) : Int) = 18446744073709551616 := rfl
    omega
  unfold upQ
  rw [e, wrapI' (n := xp a % 2) ⟨by omega, by omega⟩, wrapI' ⟨by omega, by omega⟩]
  unfold rtU
  omega
def rtM (a : Int) : Bool := decide (isq (rtX a) * isq (rtX a) ≠ rtX a)
def vRo (a : Int) : Value := vN false ((xp a - rtU a) / 2) (ofN (isq (rtX a))) (rtM a)
theorem ro_calls (a : Int) (ha : U a) (h : decide (cl a ≤ 2) = true) (w : World) : Calls Try.prog 31 #[.int .u64 a] w fun r w' => r = .returned (vRo a) ∧ Tidy w w' := by
  have ca := h
  have ka : decide (U a) = true := decide_eq_true ha
  have u := rtU_bd a
  have xa := xp_bd a
  have eu := upQ_eq a
  obtain ⟨o1, v1⟩ := shl_sg a (u := rtU a) (by omega) (by omega)
  rw [← eu] at o1 v1
  have v1 : (shlW (wSg a) (upQ a)).val = ((rtX a : Nat) : Int) := v1
  have bd := W4.val_bd o1
  have k3 : (q3 a).1 = (q3 a).2 := decide_eq_true ⟨wSg_ok a, by omega, by omega⟩
  have k4 : (q4 a).1 = (q4 a).2 := decide_eq_true o1
  have eI : isI (shlW (wSg a) (upQ a)) = ((isq (rtX a) : Nat) : Int) := by unfold isI; rw [v1]; rfl
  have e2 : W4.of (isI (shlW (wSg a) (upQ a))) = ofN (isq (rtX a)) := by rw [eI]; rfl
  have ev : (xp a - rtU a) % 2 = 0 := by unfold rtU; omega
  have e1 : IntKind.i64.wrap ((IntKind.i64.wrap (xp a - upQ a)).tdiv 2) = (xp a - rtU a) / 2 := by
    rw [eu, wrapI' (n := xp a - rtU a) ⟨by omega, by omega⟩, Int.tdiv_eq_ediv_of_dvd (Int.dvd_of_emod_eq_zero ev), wrapI' ⟨by omega, by omega⟩]
  have hM : nzW (W4.of ((shlW (wSg a) (upQ a)).val - isI (shlW (wSg a) (upQ a)) * isI (shlW (wSg a) (upQ a)))) = rtM a := by
    obtain ⟨s1, _⟩ := isq_spec (n := rtX a) (by omega)
    have hc : ((isq (rtX a) : Nat) : Int) * (isq (rtX a) : Nat) = ((isq (rtX a) * isq (rtX a) : Nat) : Int) := by rw [Int.natCast_mul]
    have hn : (0 : Int) ≤ ((isq (rtX a) * isq (rtX a) : Nat) : Int) := by omega
    rw [eI, v1, hc, nzW_of (by omega) (by omega)]
    unfold rtM
    exact decide_eq_decide.2 (by omega)
  unfold vRo
  cases hd : rtM a with
  | true =>
    have := fits_calls (tabY_ok conU0_ok) (ro_t a) (okCons (hM.trans hd) (okCons k4 (okCons k3 (okCons ka (okCons ca (okL1 ka)))))) (by rfl) (by rfl) w
    rw [e1, e2] at this
    exact this
  | false =>
    have := fits_calls (tabY_ok conU0_ok) (ro_f a) (okCons (hM.trans hd) (okCons k4 (okCons k3 (okCons ka (okCons ca (okL1 ka)))))) (by rfl) (by rfl) w
    rw [e1, e2] at this
    exact this
/-- a value of one word, with a condition -/
def gU1 (k : Int → Value) (c : Int → Bool) : Ans := fun vals s =>
  match vals with
  | [.int .u64 a] => some (k a, s, [(c a, true), (decide (U a), true)])
  | _ => none
theorem gU1_ok {f : Nat} {k : Int → Value} {c : Int → Bool} (hk : ∀ a : Int, U a → c a = true → ∀ w, Calls Try.prog f #[.int .u64 a] w fun e w' => e = .returned (k a) ∧ Tidy w w') : AnsOk f (gU1 k c) := by
  intro vals s v s' lg h hl w
  unfold gU1 at h
  split at h
  · cases h
    have e := hl _ (List.mem_cons_self)
    have h1 := of_decide_eq_true (hl _ (List.mem_cons_of_mem _ (List.mem_singleton.2 rfl)))
    exact hk _ h1 e w
  · cases h
def conU1 : Con := alt 20 (gUU vQo okQo) (alt 31 (gU1 vRo fun a => decide (cl a ≤ 2)) conG0)
theorem conU1_ok : ConOk conU1 := alt_ok Try.func20 rfl (gUU_ok qo_calls) (alt_ok Try.func31 rfl (gU1_ok ro_calls) conG0_ok)
/-! ### rounded -/
theorem dv_round (m a b : Int) : rdV m (prN a b) (tw (ofN (dvQ a b)) (dvM a b)) (clp (xp a - xp b - 128) - 1) = rdT (sS (prN a b) (dvP m a b)) (dvF m a b) := by
  have sb := sg_lt b
  have sa := sg_lt a
  obtain ⟨c1, c2⟩ := clp_round m (prN a b) (ofN_ok (dvQ a b)) (dvM a b) (xp a - xp b - 128)
  have hq : dvQ a b < 2 ^ 256 := by
    unfold dvQ
    refine Nat.lt_of_le_of_lt (Nat.div_le_self _ _) ?_
    have := Nat.mul_le_mul_right (2 ^ 128) (show (sg a).toNat ≤ 9007199254740991 by omega)
    exact Nat.lt_of_le_of_lt this (by decide)
  have e := tw_of hq (dvM a b)
  have e2 : 2 * dvQ a b + bN (dvM a b) = dvT a b := by
    unfold dvT dvK dvQ dvM
    by_cases h0 : (sg a).toNat * 2 ^ 128 % (sg b).toNat = 0
    · rw [if_pos h0, decide_eq_false (by omega)]; rfl
    · rw [if_neg h0, decide_eq_true h0]; rfl
  have e3 : xp a - xp b - 128 - 1 = dvE a b := by unfold dvE; omega
  rw [e3] at c1 c2
  unfold rdV dvP dvF
  rw [c1, c2, e, e2]
theorem rt_round (m a : Int) : rdV m false (tw (ofN (isq (rtX a))) (rtM a)) (clp ((xp a - rtU a) / 2) - 1) = rdT (rtP m a) (rtF m a) := by
  obtain ⟨c1, c2⟩ := clp_round m false (ofN_ok (isq (rtX a))) (rtM a) ((xp a - rtU a) / 2)
  have x1 : rtX a < 2 ^ 194 := Nat.lt_of_le_of_lt (Nat.le_mul_of_pos_right _ (by decide)) (rtX_lt a 0 (by omega))
  have hq : isq (rtX a) < 2 ^ 256 := by
    obtain ⟨s1, _⟩ := isq_spec (n := rtX a) (Nat.lt_trans x1 (by decide))
    rcases Nat.eq_zero_or_pos (isq (rtX a)) with h0 | h0
    · rw [h0]; exact Nat.pow_pos (by omega)
    · have := Nat.le_mul_of_pos_left (isq (rtX a)) h0
      exact Nat.lt_of_le_of_lt (Nat.le_trans this s1) (Nat.lt_trans x1 (by decide))
  have e := tw_of hq (rtM a)
  have e2 : 2 * isq (rtX a) + bN (rtM a) = rtK (rtX a) := by
    unfold rtK rtM
    by_cases h0 : isq (rtX a) * isq (rtX a) = rtX a
    · rw [if_pos h0, decide_eq_false (by omega)]; rfl
    · rw [if_neg h0, decide_eq_true h0]; rfl
  have e3 : (xp a - rtU a) / 2 - 1 = rtE a := by unfold rtE; omega
  rw [e3] at c1 c2
  have e4 : ∀ p : Int, sS false p = p := fun p => by simp [sS]
  unfold rdV rtP rtF
  rw [c1, c2, e, e2, e4]
end Go.Proofs.Ytnolcojnodoecaa
