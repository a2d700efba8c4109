/-
  Products: 0 times Endless, Endless of a product's sign, the exact product (prod.isNoughtByEndless, endless, exact), as calls in every world.
-/
import Derived.Test.YtecaahiajbkioaaG27
import Derived.Test.YtecaahiajbkioaaG29
namespace Go.Proofs.Ytecaahiajbkioaa
open Go.KRun Go.Wd Go.Pt Go.Rn
set_option maxRecDepth 100000

def conP0 : Con := alt 45 (g2 (plain2 mulV4)) (alt 29 gSA conA0)
theorem conP0_ok : ConOk conP0 := alt_ok Try.func45 rfl (plain2_ok mul_calls) (alt_ok Try.func29 rfl gSA_ok conA0_ok)
/-! ### 0 times Endless -/
def badB (a b : Int) : Bool := decide ((cl a = 0 ∧ cl b = 3) ∨ (cl a = 3 ∧ cl b = 0))
theorem nb_tt (a b : Int) : Fits (reckon (tabOf Try.prog extY conP0 true) 300 15 [.int .u64 a, .int .u64 b] [cmp true, cmp true]) (.bool true) [(cl b == 3, true), lU b, (cl a == 0, true), lU a] := ⟨by kernel_rfl, by kernel_rfl, by kernel_rfl, by kernel_rfl⟩
theorem nb_tff (a b : Int) : Fits (reckon (tabOf Try.prog extY conP0 true) 300 15 [.int .u64 a, .int .u64 b] [cmp true, cmp false, cmp false]) (.bool false) [(cl a == 3, false), lU a, (cl b == 3, false), lU b, (cl a == 0, true), lU a] := ⟨by kernel_rfl, by kernel_rfl, by kernel_rfl, by kernel_rfl⟩
theorem nb_ff (a b : Int) : Fits (reckon (tabOf Try.prog extY conP0 true) 300 15 [.int .u64 a, .int .u64 b] [cmp false, cmp false]) (.bool false) [(cl a == 3, false), lU a, (cl a == 0, false), lU a] := ⟨by kernel_rfl, by kernel_rfl, by kernel_rfl, by kernel_rfl⟩
theorem nb_ftt (a b : Int) : Fits (reckon (tabOf Try.prog extY conP0 true) 300 15 [.int .u64 a, .int .u64 b] [cmp false, cmp true, cmp true]) (.bool true) [(cl b == 0, true), lU b, (cl a == 3, true), lU a, (cl a == 0, false), lU a] := ⟨by kernel_rfl, by kernel_rfl, by kernel_rfl, by kernel_rfl⟩
theorem nb_ftf (a b : Int) : Fits (reckon (tabOf Try.prog extY conP0 true) 300 15 [.int .u64 a, .int .u64 b] [cmp false, cmp true, cmp false]) (.bool false) [(cl b == 0, false), lU b, (cl a == 3, true), lU a, (cl a == 0, false), lU a] := ⟨by kernel_rfl, by kernel_rfl, by kernel_rfl, by kernel_rfl⟩
theorem nb_calls (a b : Int) (ha : U a) (hb : U b) (w : World) : Calls Try.prog 15 #[.int .u64 a, .int .u64 b] w fun r w' => r = .returned (.bool (badB a b)) ∧ Tidy w w' := by
  have hv : ([.int .u64 a, .int .u64 b].all (lt 0)) = true := rfl
  have ka : decide (U a) = true := decide_eq_true ha
  have kb : decide (U b) = true := decide_eq_true hb
  by_cases h0 : cl a = 0
  · by_cases h3 : cl b = 3
    · rw [show badB a b = true from decide_eq_true (.inl ⟨h0, h3⟩)]
      exact fits_calls (tabY_ok conP0_ok) (nb_tt a b) (okCons (beq_t h3) (okCons kb (okCons (beq_t h0) (okL1 ka)))) hv (by rfl) w
    · rw [show badB a b = false from decide_eq_false (by omega)]
      exact fits_calls (tabY_ok conP0_ok) (nb_tff a b) (okCons (beq_f (by omega)) (okCons ka (okCons (beq_f h3) (okCons kb (okCons (beq_t h0) (okL1 ka)))))) hv (by rfl) w
  · by_cases h3 : cl a = 3
    · by_cases hz : cl b = 0
      · rw [show badB a b = true from decide_eq_true (.inr ⟨h3, hz⟩)]
        exact fits_calls (tabY_ok conP0_ok) (nb_ftt a b) (okCons (beq_t hz) (okCons kb (okCons (beq_t h3) (okCons ka (okCons (beq_f h0) (okL1 ka)))))) hv (by rfl) w
      · rw [show badB a b = false from decide_eq_false (by omega)]
        exact fits_calls (tabY_ok conP0_ok) (nb_ftf a b) (okCons (beq_f hz) (okCons kb (okCons (beq_t h3) (okCons ka (okCons (beq_f h0) (okL1 ka)))))) hv (by rfl) w
    · rw [show badB a b = false from decide_eq_false (by omega)]
      exact fits_calls (tabY_ok conP0_ok) (nb_ff a b) (okCons (beq_f h3) (okCons ka (okCons (beq_f h0) (okL1 ka)))) hv (by rfl) w
/-- a truth of two words, told ahead -/
def gUUb (k : Int → Int → Bool) : Ans := fun vals s =>
  match vals, s with
  | [.int .u64 a, .int .u64 b], .inr (.inr (.inr (.inl d))) :: s' => some (.bool d, s', [(k a b, d), (decide (U a ∧ U b), true)])
  | _, _ => none
theorem gUUb_ok {f : Nat} {k : Int → Int → Bool} (hk : ∀ a b : Int, U a → U b → ∀ w, Calls Try.prog f #[.int .u64 a, .int .u64 b] w fun e w' => e = .returned (.bool (k a b)) ∧ Tidy w w') : AnsOk f (gUUb k) := by
  intro vals s v s' lg h hl w
  unfold gUUb at h
  split at h
  · cases h
    have e := hl _ (List.mem_cons_self)
    obtain ⟨h1, h2⟩ := of_decide_eq_true (hl _ (List.mem_cons_of_mem _ (List.mem_singleton.2 rfl)))
    simp only at e
    rw [← e]
    exact hk _ _ h1 h2 w
  · cases h
/-- a value of two words -/
def gUU (k : Int → Int → Value) (c : Int → Int → Bool) : Ans := fun vals s =>
  match vals with
  | [.int .u64 a, .int .u64 b] => some (k a b, s, [(c a b, true), (decide (U a ∧ U b), true)])
  | _ => none
theorem gUU_ok {f : Nat} {k : Int → Int → Value} {c : Int → Int → Bool} (hk : ∀ a b : Int, U a → U b → c a b = true → ∀ w, Calls Try.prog f #[.int .u64 a, .int .u64 b] w fun e w' => e = .returned (k a b) ∧ Tidy w w') : AnsOk f (gUU k c) := by
  intro vals s v s' lg h hl w
  unfold gUU at h
  split at h
  · cases h
    have e := hl _ (List.mem_cons_self)
    obtain ⟨h1, h2⟩ := of_decide_eq_true (hl _ (List.mem_cons_of_mem _ (List.mem_singleton.2 rfl)))
    exact hk _ _ h1 h2 e w
  · cases h
/-! ### Endless, with a product's sign -/
theorem xor_top {a b : Int} (ha : U a) (hb : U b) : U (bXor a b) ∧ bAnd (bXor a b) 9223372036854775808 = if prN a b = true then 9223372036854775808 else 0 := by
  obtain ⟨A, rfl⟩ := Int.eq_ofNat_of_zero_le ha.1
  obtain ⟨B, rfl⟩ := Int.eq_ofNat_of_zero_le hb.1
  have h1 : A < 2 ^ 64 := by have := ha.2; omega
  have h2 : B < 2 ^ 64 := by have := hb.2; omega
  have hx : A ^^^ B < 2 ^ 64 := Nat.xor_lt_two_pow h1 h2
  have e : bXor (A : Int) (B : Int) = ((A ^^^ B : Nat) : Int) := by
    unfold bXor
    rw [back, BitVec.toNat_xor, ofU (by omega), ofU (by omega)]
  have hU : U (bXor (A : Int) (B : Int)) := by rw [e]; exact ⟨by omega, by omega⟩
  refine ⟨hU, ?_⟩
  rw [bAnd_sign hU, e]
  have hd : (A ^^^ B) / 2 ^ 63 = A / 2 ^ 63 ^^^ B / 2 ^ 63 := Nat.xor_div_two_pow
  have a1 : A / 2 ^ 63 < 2 := by omega
  have b1 : B / 2 ^ 63 < 2 := by omega
  have hA : sgn (A : Int) = decide (A / 2 ^ 63 = 1) := by
    unfold sgn
    by_cases h : A / 2 ^ 63 = 1
    · rw [decide_eq_true h]; exact decide_eq_true (by omega)
    · rw [decide_eq_false h]; exact decide_eq_false (by omega)
  have hB : sgn (B : Int) = decide (B / 2 ^ 63 = 1) := by
    unfold sgn
    by_cases h : B / 2 ^ 63 = 1
    · rw [decide_eq_true h]; exact decide_eq_true (by omega)
    · rw [decide_eq_false h]; exact decide_eq_false (by omega)
  have e2 : ((A ^^^ B : Nat) : Int) / 9223372036854775808 = ((A / 2 ^ 63 ^^^ B / 2 ^ 63 : Nat) : Int) := by rw [← hd]; omega
  rw [e2]
  unfold prN
  rw [hA, hB]
  generalize A / 2 ^ 63 = x at *
  generalize B / 2 ^ 63 = y at *
  have hx : x = 0 ∨ x = 1 := by omega
  have hy : y = 0 ∨ y = 1 := by omega
  rcases hx with rfl | rfl <;> rcases hy with rfl | rfl <;> decide
def inf : Int := 9218868437227405312
theorem en_fits (a b : Int) : Fits (reckon (tabOf Try.prog extY conP0 true) 300 19 [.int .u64 a, .int .u64 b] []) (.int .u64 (bOr (bNot 9218868437227405312 9223372036854775808) (bAnd (bXor a b) 9223372036854775808))) [] := ⟨by kernel_rfl, by kernel_rfl, by kernel_rfl, by kernel_rfl⟩
theorem en_eq {a b : Int} (ha : U a) (hb : U b) : bOr (bNot 9218868437227405312 9223372036854775808) (bAnd (bXor a b) 9223372036854775808) = sS (prN a b) inf := by
  rw [(xor_top ha hb).2]
  cases prN a b <;> decide
theorem en_calls (a b : Int) (ha : U a) (hb : U b) (w : World) : Calls Try.prog 19 #[.int .u64 a, .int .u64 b] w fun r w' => r = .returned (.int .u64 (sS (prN a b) inf)) ∧ Tidy w w' := by
  have := fits_calls (tabY_ok conP0_ok) (en_fits a b) (fun x hx => by cases hx) (by rfl) (by rfl) w
  rw [en_eq ha hb] at this
  exact this
/-! ### the exact product -/
theorem xa_fits (a b : Int) : Fits (reckon (tabOf Try.prog extY conP0 true) 300 21 [.int .u64 a, .int .u64 b] [cmp true, cmp true]) (vN (prN a b) (IntKind.i64.wrap (xp a + xp b)) (W4.of ((wSg a).val * (wSg b).val)) false) [(decide ((wSg a).ok ∧ (wSg b).ok), true), lU b, (decide (cl b ≤ 2), true), lU b, lU a, (decide (cl a ≤ 2), true), lU a] := ⟨by kernel_rfl, by kernel_rfl, by kernel_rfl, by kernel_rfl⟩
def vPx (a b : Int) : Value := vN (prN a b) (prE a b) (ofN (prV a b)) false
def finB (a b : Int) : Bool := decide (cl a ≤ 2 ∧ cl b ≤ 2)
theorem xa_calls (a b : Int) (ha : U a) (hb : U b) (h : finB a b = true) (w : World) : Calls Try.prog 21 #[.int .u64 a, .int .u64 b] w fun r w' => r = .returned (vPx a b) ∧ Tidy w w' := by
  obtain ⟨ca, cb⟩ := of_decide_eq_true h
  have ka : decide (U a) = true := decide_eq_true ha
  have kb : decide (U b) = true := decide_eq_true hb
  have hE := prE_bd a b
  have e1 : IntKind.i64.wrap (xp a + xp b) = prE a b := wrapI' ⟨by unfold prE at hE; omega, by unfold prE at hE; omega⟩
  have e2 : W4.of ((wSg a).val * (wSg b).val) = ofN (prV a b) := by
    unfold ofN prV
    rw [W4.nat_val (wSg_ok a), W4.nat_val (wSg_ok b), wSg_nat, wSg_nat, Int.natCast_mul]
  have := fits_calls (tabY_ok conP0_ok) (xa_fits a b) (okCons (decide_eq_true ⟨wSg_ok a, wSg_ok b⟩) (okCons kb (okCons (decide_eq_true cb) (okCons kb (okCons ka (okCons (decide_eq_true ca) (okL1 ka))))))) (by rfl) (by rfl) w
  rw [e1, e2] at this
  exact this
def conP1 : Con := alt 15 (gUUb badB) (alt 19 (gUU (fun a b => .int .u64 (sS (prN a b) inf)) (fun _ _ => true)) (alt 21 (gUU vPx finB) conP0))
theorem conP1_ok : ConOk conP1 := alt_ok Try.func15 rfl (gUUb_ok nb_calls) (alt_ok Try.func19 rfl (gUU_ok fun a b ha hb _ w => en_calls a b ha hb w) (alt_ok Try.func21 rfl (gUU_ok xa_calls) conP0_ok))
end Go.Proofs.Ytecaahiajbkioaa

/-
  prod.Mul, as a call in every world.
-/
namespace Go.Proofs.Ytecaahiajbkioaa
open Go.KRun Go.Wd Go.Pt Go.Rn
set_option maxRecDepth 100000

theorem ml_bad (a b m : Int) : Fits (reckon (tabOf Try.prog extY conP1 true) 300 8 [.int .u64 a, .int .u64 b, .int .i64 m] [cmp true]) (rdT 9221120237041090560 1) [(badB a b, true), (decide (U a ∧ U b), true)] := ⟨by kernel_rfl, by kernel_rfl, by kernel_rfl, by kernel_rfl⟩
theorem ml_n1 (a b m : Int) : Fits (reckon (tabOf Try.prog extY conP1 true) 300 8 [.int .u64 a, .int .u64 b, .int .i64 m] [cmp false, cmp true, cmp true, cmp true]) (rdT 9221120237041090560 1) [(cl a == 5, true), lU a, (decide ((0 : Int) < ((2 : Nat) : Int)), true), (decide (cl a > 3), true), lU a, (badB a b, false), (decide (U a ∧ U b), true)] := ⟨by kernel_rfl, by kernel_rfl, by kernel_rfl, by kernel_rfl⟩
theorem ml_n2 (a b m : Int) : Fits (reckon (tabOf Try.prog extY conP1 true) 300 8 [.int .u64 a, .int .u64 b, .int .i64 m] [cmp false, cmp true, cmp true, cmp false, cmp true, cmp true]) (rdT 9221120237041090560 1) [(cl b == 5, true), lU b, (decide (IntKind.i64.wrap (0 + 1) < ((2 : Nat) : Int)), true), (cl a == 5, false), lU a, (decide ((0 : Int) < ((2 : Nat) : Int)), true), (decide (cl a > 3), true), lU a, (badB a b, false), (decide (U a ∧ U b), true)] := ⟨by kernel_rfl, by kernel_rfl, by kernel_rfl, by kernel_rfl⟩
theorem ml_n3 (a b m : Int) : Fits (reckon (tabOf Try.prog extY conP1 true) 300 8 [.int .u64 a, .int .u64 b, .int .i64 m] [cmp false, cmp true, cmp true, cmp false, cmp true, cmp false, cmp false]) (rdT 9221120237041090560 0) [(decide (IntKind.i64.wrap (IntKind.i64.wrap (0 + 1) + 1) < ((2 : Nat) : Int)), false), (cl b == 5, false), lU b, (decide (IntKind.i64.wrap (0 + 1) < ((2 : Nat) : Int)), true), (cl a == 5, false), lU a, (decide ((0 : Int) < ((2 : Nat) : Int)), true), (decide (cl a > 3), true), lU a, (badB a b, false), (decide (U a ∧ U b), true)] := ⟨by kernel_rfl, by kernel_rfl, by kernel_rfl, by kernel_rfl⟩
theorem ml_m2 (a b m : Int) : Fits (reckon (tabOf Try.prog extY conP1 true) 300 8 [.int .u64 a, .int .u64 b, .int .i64 m] [cmp false, cmp false, cmp true, cmp true, cmp false, cmp true, cmp true]) (rdT 9221120237041090560 1) [(cl b == 5, true), lU b, (decide (IntKind.i64.wrap (0 + 1) < ((2 : Nat) : Int)), true), (cl a == 5, false), lU a, (decide ((0 : Int) < ((2 : Nat) : Int)), true), (decide (cl b > 3), true), lU b, (decide (cl a > 3), false), lU a, (badB a b, false), (decide (U a ∧ U b), true)] := ⟨by kernel_rfl, by kernel_rfl, by kernel_rfl, by kernel_rfl⟩
theorem ml_m3 (a b m : Int) : Fits (reckon (tabOf Try.prog extY conP1 true) 300 8 [.int .u64 a, .int .u64 b, .int .i64 m] [cmp false, cmp false, cmp true, cmp true, cmp false, cmp true, cmp false, cmp false]) (rdT 9221120237041090560 0) [(decide (IntKind.i64.wrap (IntKind.i64.wrap (0 + 1) + 1) < ((2 : Nat) : Int)), false), (cl b == 5, false), lU b, (decide (IntKind.i64.wrap (0 + 1) < ((2 : Nat) : Int)), true), (cl a == 5, false), lU a, (decide ((0 : Int) < ((2 : Nat) : Int)), true), (decide (cl b > 3), true), lU b, (decide (cl a > 3), false), lU a, (badB a b, false), (decide (U a ∧ U b), true)] := ⟨by kernel_rfl, by kernel_rfl, by kernel_rfl, by kernel_rfl⟩
theorem ml_ea (a b m : Int) : Fits (reckon (tabOf Try.prog extY conP1 true) 300 8 [.int .u64 a, .int .u64 b, .int .i64 m] [cmp false, cmp false, cmp false, cmp true]) (rdT (sS (prN a b) inf) 0) [(true, true), (decide (U a ∧ U b), true), (cl a == 3, true), lU a, (decide (cl b > 3), false), lU b, (decide (cl a > 3), false), lU a, (badB a b, false), (decide (U a ∧ U b), true)] := ⟨by kernel_rfl, by kernel_rfl, by kernel_rfl, by kernel_rfl⟩
theorem ml_eb (a b m : Int) : Fits (reckon (tabOf Try.prog extY conP1 true) 300 8 [.int .u64 a, .int .u64 b, .int .i64 m] [cmp false, cmp false, cmp false, cmp false, cmp true]) (rdT (sS (prN a b) inf) 0) [(true, true), (decide (U a ∧ U b), true), (cl b == 3, true), lU b, (cl a == 3, false), lU a, (decide (cl b > 3), false), lU b, (decide (cl a > 3), false), lU a, (badB a b, false), (decide (U a ∧ U b), true)] := ⟨by kernel_rfl, by kernel_rfl, by kernel_rfl, by kernel_rfl⟩
theorem ml_fin (a b m : Int) : Fits (reckon (tabOf Try.prog extY conP1 true) 300 8 [.int .u64 a, .int .u64 b, .int .i64 m] [cmp false, cmp false, cmp false, cmp false, cmp false]) (rdV m (prN a b) (tw (ofN (prV a b)) false) (clp (prE a b) - 1)) [(decide (ofN (prV a b)).ok, true), (finB a b, true), (decide (U a ∧ U b), true), (cl b == 3, false), lU b, (cl a == 3, false), lU a, (decide (cl b > 3), false), lU b, (decide (cl a > 3), false), lU a, (badB a b, false), (decide (U a ∧ U b), true)] := ⟨by kernel_rfl, by kernel_rfl, by kernel_rfl, by kernel_rfl⟩
/-- what Mul answers -/
def muP (m a b : Int) : Int := if badB a b = true then 9221120237041090560 else if 3 < cl a ∨ 3 < cl b then 9221120237041090560 else if cl a = 3 ∨ cl b = 3 then sS (prN a b) inf else sS (prN a b) (mlP m a b)
def muF (m a b : Int) : Int := if badB a b = true then 1 else if 3 < cl a ∨ 3 < cl b then (if cl a = 5 ∨ cl b = 5 then 1 else 0) else if cl a = 3 ∨ cl b = 3 then 0 else mlF m a b
theorem prV_256 (a b : Int) : prV a b < 2 ^ 256 := by
  have := prV_lt a b
  exact Nat.lt_trans this (by decide)
theorem px_round (m a b : Int) : rdV m (prN a b) (tw (ofN (prV a b)) false) (clp (prE a b) - 1) = rdT (sS (prN a b) (mlP m a b)) (mlF m a b) := by
  obtain ⟨c1, c2⟩ := clp_round m (prN a b) (ofN_ok (prV a b)) false (prE a b)
  have e := tw_of (prV_256 a b) false
  have e2 : 2 * prV a b + bN false = prV a b * 2 ^ 1 := by show 2 * prV a b + 0 = _; omega
  have p := rnP_scale m (prN a b) (prV a b) 1 (prE a b)
  have q := rnF_scale m (prN a b) (prV a b) 1 (prE a b)
  have e3 : prE a b - ((1 : Nat) : Int) = prE a b - 1 := rfl
  rw [e3] at p q
  unfold rdV mlP mlF
  rw [c1, c2, e, e2, p, q]
theorem pmul_calls (a b m : Int) (ha : U a) (hb : U b) (w : World) : Calls Try.prog 8 #[.int .u64 a, .int .u64 b, .int .i64 m] w fun r w' => r = .returned (rdT (muP m a b) (muF m a b)) ∧ Tidy w w' := by
  have hv : ([.int .u64 a, .int .u64 b, .int .i64 m].all (lt 0)) = true := rfl
  have T := tabY_ok conP1_ok
  have ka : decide (U a) = true := decide_eq_true ha
  have kb : decide (U b) = true := decide_eq_true hb
  have kab : decide (U a ∧ U b) = true := decide_eq_true ⟨ha, hb⟩
  have ba := cl_bd a
  have bb := cl_bd b
  unfold muP muF
  by_cases hbd : badB a b = true
  · rw [if_pos hbd, if_pos hbd]
    exact fits_calls T (ml_bad a b m) (okCons hbd (okL1 kab)) hv (by rfl) w
  · have hb0 : badB a b = false := by simpa using hbd
    rw [if_neg hbd, if_neg hbd]
    by_cases ha3 : 3 < cl a
    · rw [if_pos (.inl ha3), if_pos (.inl ha3)]
      by_cases a5 : cl a = 5
      · rw [if_pos (.inl a5)]
        exact fits_calls T (ml_n1 a b m) (okCons (beq_t a5) (okCons ka (okCons (by decide) (okCons (decide_eq_true ha3) (okCons ka (okCons hb0 (okL1 kab))))))) hv (by rfl) w
      · by_cases b5 : cl b = 5
        · rw [if_pos (.inr b5)]
          exact fits_calls T (ml_n2 a b m) (okCons (beq_t b5) (okCons kb (okCons (by decide) (okCons (beq_f (by omega)) (okCons ka (okCons (by decide) (okCons (decide_eq_true ha3) (okCons ka (okCons hb0 (okL1 kab)))))))))) hv (by rfl) w
        · rw [if_neg (by omega)]
          exact fits_calls T (ml_n3 a b m) (okCons (by decide) (okCons (beq_f (by omega)) (okCons kb (okCons (by decide) (okCons (beq_f (by omega)) (okCons ka (okCons (by decide) (okCons (decide_eq_true ha3) (okCons ka (okCons hb0 (okL1 kab))))))))))) hv (by rfl) w
    · by_cases hb3 : 3 < cl b
      · rw [if_pos (.inr hb3), if_pos (.inr hb3)]
        by_cases b5 : cl b = 5
        · rw [if_pos (.inr b5)]
          exact fits_calls T (ml_m2 a b m) (okCons (beq_t b5) (okCons kb (okCons (by decide) (okCons (beq_f (by omega)) (okCons ka (okCons (by decide) (okCons (decide_eq_true hb3) (okCons kb (okCons (decide_eq_false ha3) (okCons ka (okCons hb0 (okL1 kab)))))))))))) hv (by rfl) w
        · rw [if_neg (by omega)]
          exact fits_calls T (ml_m3 a b m) (okCons (by decide) (okCons (beq_f (by omega)) (okCons kb (okCons (by decide) (okCons (beq_f (by omega)) (okCons ka (okCons (by decide) (okCons (decide_eq_true hb3) (okCons kb (okCons (decide_eq_false ha3) (okCons ka (okCons hb0 (okL1 kab))))))))))))) hv (by rfl) w
      · have hno : ¬ (3 < cl a ∨ 3 < cl b) := by omega
        rw [if_neg hno, if_neg hno]
        by_cases ae : cl a = 3
        · rw [if_pos (.inl ae), if_pos (.inl ae)]
          exact fits_calls T (ml_ea a b m) (okCons rfl (okCons kab (okCons (beq_t ae) (okCons ka (okCons (decide_eq_false hb3) (okCons kb (okCons (decide_eq_false ha3) (okCons ka (okCons hb0 (okL1 kab)))))))))) hv (by rfl) w
        · by_cases be : cl b = 3
          · rw [if_pos (.inr be), if_pos (.inr be)]
            exact fits_calls T (ml_eb a b m) (okCons rfl (okCons kab (okCons (beq_t be) (okCons kb (okCons (beq_f ae) (okCons ka (okCons (decide_eq_false hb3) (okCons kb (okCons (decide_eq_false ha3) (okCons ka (okCons hb0 (okL1 kab)))))))))))) hv (by rfl) w
          · have hno2 : ¬ (cl a = 3 ∨ cl b = 3) := by omega
            rw [if_neg hno2, if_neg hno2]
            have hf := ml_fin a b m
            rw [px_round] at hf
            exact fits_calls T hf (okCons (decide_eq_true (ofN_ok _)) (okCons (decide_eq_true ⟨by omega, by omega⟩) (okCons kab (okCons (beq_f be) (okCons kb (okCons (beq_f ae) (okCons ka (okCons (decide_eq_false hb3) (okCons kb (okCons (decide_eq_false ha3) (okCons ka (okCons hb0 (okL1 kab))))))))))))) hv (by rfl) w
def gPM : Ans := fun vals s =>
  match vals with
  | [.int .u64 a, .int .u64 b, .int .i64 m] => some (rdT (muP m a b) (muF m a b), s, [(decide (U a ∧ U b), true)])
  | _ => none
theorem gPM_ok : AnsOk 8 gPM := by
  intro vals s v s' lg h hl w
  unfold gPM at h
  split at h
  · cases h
    obtain ⟨h1, h2⟩ := of_decide_eq_true (hl _ (List.mem_singleton.2 rfl))
    exact pmul_calls _ _ _ h1 h2 w
  · cases h
end Go.Proofs.Ytecaahiajbkioaa

/-
  prod.Fma, as a call in every world.
-/
namespace Go.Proofs.Ytecaahiajbkioaa
open Go.KRun Go.Wd Go.Pt Go.Rn
set_option maxRecDepth 100000

theorem fm_bad (a b c m : Int) : Fits (reckon (tabOf Try.prog extY conP1 true) 300 11 [.int .u64 a, .int .u64 b, .int .u64 c, .int .i64 m] [cmp true]) (rdT 9221120237041090560 1) [(badB a b, true), (decide (U a ∧ U b), true)] := ⟨by kernel_rfl, by kernel_rfl, by kernel_rfl, by kernel_rfl⟩
theorem fm_a1 (a b c m : Int) : Fits (reckon (tabOf Try.prog extY conP1 true) 300 11 [.int .u64 a, .int .u64 b, .int .u64 c, .int .i64 m] [cmp false, cmp true, cmp true, cmp true]) (rdT 9221120237041090560 1) [(cl a == 5, true), lU a, (decide ((0 : Int) < ((3 : Nat) : Int)), true), (decide (cl a > 3), true), lU a, (badB a b, false), (decide (U a ∧ U b), true)] := ⟨by kernel_rfl, by kernel_rfl, by kernel_rfl, by kernel_rfl⟩
theorem fm_a2 (a b c m : Int) : Fits (reckon (tabOf Try.prog extY conP1 true) 300 11 [.int .u64 a, .int .u64 b, .int .u64 c, .int .i64 m] [cmp false, cmp true, cmp true, cmp false, cmp true, cmp true]) (rdT 9221120237041090560 1) [(cl b == 5, true), lU b, (decide (IntKind.i64.wrap (0 + 1) < ((3 : Nat) : Int)), true), (cl a == 5, false), lU a, (decide ((0 : Int) < ((3 : Nat) : Int)), true), (decide (cl a > 3), true), lU a, (badB a b, false), (decide (U a ∧ U b), true)] := ⟨by kernel_rfl, by kernel_rfl, by kernel_rfl, by kernel_rfl⟩
theorem fm_a3 (a b c m : Int) : Fits (reckon (tabOf Try.prog extY conP1 true) 300 11 [.int .u64 a, .int .u64 b, .int .u64 c, .int .i64 m] [cmp false, cmp true, cmp true, cmp false, cmp true, cmp false, cmp true, cmp true]) (rdT 9221120237041090560 1) [(cl c == 5, true), lU c, (decide (IntKind.i64.wrap (IntKind.i64.wrap (0 + 1) + 1) < ((3 : Nat) : Int)), true), (cl b == 5, false), lU b, (decide (IntKind.i64.wrap (0 + 1) < ((3 : Nat) : Int)), true), (cl a == 5, false), lU a, (decide ((0 : Int) < ((3 : Nat) : Int)), true), (decide (cl a > 3), true), lU a, (badB a b, false), (decide (U a ∧ U b), true)] := ⟨by kernel_rfl, by kernel_rfl, by kernel_rfl, by kernel_rfl⟩
theorem fm_a0 (a b c m : Int) : Fits (reckon (tabOf Try.prog extY conP1 true) 300 11 [.int .u64 a, .int .u64 b, .int .u64 c, .int .i64 m] [cmp false, cmp true, cmp true, cmp false, cmp true, cmp false, cmp true, cmp false, cmp false]) (rdT 9221120237041090560 0) [(decide (IntKind.i64.wrap (IntKind.i64.wrap (IntKind.i64.wrap (0 + 1) + 1) + 1) < ((3 : Nat) : Int)), false), (cl c == 5, false), lU c, (decide (IntKind.i64.wrap (IntKind.i64.wrap (0 + 1) + 1) < ((3 : Nat) : Int)), true), (cl b == 5, false), lU b, (decide (IntKind.i64.wrap (0 + 1) < ((3 : Nat) : Int)), true), (cl a == 5, false), lU a, (decide ((0 : Int) < ((3 : Nat) : Int)), true), (decide (cl a > 3), true), lU a, (badB a b, false), (decide (U a ∧ U b), true)] := ⟨by kernel_rfl, by kernel_rfl, by kernel_rfl, by kernel_rfl⟩
theorem fm_b2 (a b c m : Int) : Fits (reckon (tabOf Try.prog extY conP1 true) 300 11 [.int .u64 a, .int .u64 b, .int .u64 c, .int .i64 m] [cmp false, cmp false, cmp true, cmp true, cmp false, cmp true, cmp true]) (rdT 9221120237041090560 1) [(cl b == 5, true), lU b, (decide (IntKind.i64.wrap (0 + 1) < ((3 : Nat) : Int)), true), (cl a == 5, false), lU a, (decide ((0 : Int) < ((3 : Nat) : Int)), true), (decide (cl b > 3), true), lU b, (decide (cl a > 3), false), lU a, (badB a b, false), (decide (U a ∧ U b), true)] := ⟨by kernel_rfl, by kernel_rfl, by kernel_rfl, by kernel_rfl⟩
theorem fm_b3 (a b c m : Int) : Fits (reckon (tabOf Try.prog extY conP1 true) 300 11 [.int .u64 a, .int .u64 b, .int .u64 c, .int .i64 m] [cmp false, cmp false, cmp true, cmp true, cmp false, cmp true, cmp false, cmp true, cmp true]) (rdT 9221120237041090560 1) [(cl c == 5, true), lU c, (decide (IntKind.i64.wrap (IntKind.i64.wrap (0 + 1) + 1) < ((3 : Nat) : Int)), true), (cl b == 5, false), lU b, (decide (IntKind.i64.wrap (0 + 1) < ((3 : Nat) : Int)), true), (cl a == 5, false), lU a, (decide ((0 : Int) < ((3 : Nat) : Int)), true), (decide (cl b > 3), true), lU b, (decide (cl a > 3), false), lU a, (badB a b, false), (decide (U a ∧ U b), true)] := ⟨by kernel_rfl, by kernel_rfl, by kernel_rfl, by kernel_rfl⟩
theorem fm_b0 (a b c m : Int) : Fits (reckon (tabOf Try.prog extY conP1 true) 300 11 [.int .u64 a, .int .u64 b, .int .u64 c, .int .i64 m] [cmp false, cmp false, cmp true, cmp true, cmp false, cmp true, cmp false, cmp true, cmp false, cmp false]) (rdT 9221120237041090560 0) [(decide (IntKind.i64.wrap (IntKind.i64.wrap (IntKind.i64.wrap (0 + 1) + 1) + 1) < ((3 : Nat) : Int)), false), (cl c == 5, false), lU c, (decide (IntKind.i64.wrap (IntKind.i64.wrap (0 + 1) + 1) < ((3 : Nat) : Int)), true), (cl b == 5, false), lU b, (decide (IntKind.i64.wrap (0 + 1) < ((3 : Nat) : Int)), true), (cl a == 5, false), lU a, (decide ((0 : Int) < ((3 : Nat) : Int)), true), (decide (cl b > 3), true), lU b, (decide (cl a > 3), false), lU a, (badB a b, false), (decide (U a ∧ U b), true)] := ⟨by kernel_rfl, by kernel_rfl, by kernel_rfl, by kernel_rfl⟩
theorem fm_c3 (a b c m : Int) : Fits (reckon (tabOf Try.prog extY conP1 true) 300 11 [.int .u64 a, .int .u64 b, .int .u64 c, .int .i64 m] [cmp false, cmp false, cmp false, cmp true, cmp true, cmp false, cmp true, cmp false, cmp true, cmp true]) (rdT 9221120237041090560 1) [(cl c == 5, true), lU c, (decide (IntKind.i64.wrap (IntKind.i64.wrap (0 + 1) + 1) < ((3 : Nat) : Int)), true), (cl b == 5, false), lU b, (decide (IntKind.i64.wrap (0 + 1) < ((3 : Nat) : Int)), true), (cl a == 5, false), lU a, (decide ((0 : Int) < ((3 : Nat) : Int)), true), (decide (cl c > 3), true), lU c, (decide (cl b > 3), false), lU b, (decide (cl a > 3), false), lU a, (badB a b, false), (decide (U a ∧ U b), true)] := ⟨by kernel_rfl, by kernel_rfl, by kernel_rfl, by kernel_rfl⟩
theorem fm_c0 (a b c m : Int) : Fits (reckon (tabOf Try.prog extY conP1 true) 300 11 [.int .u64 a, .int .u64 b, .int .u64 c, .int .i64 m] [cmp false, cmp false, cmp false, cmp true, cmp true, cmp false, cmp true, cmp false, cmp true, cmp false, cmp false]) (rdT 9221120237041090560 0) [(decide (IntKind.i64.wrap (IntKind.i64.wrap (IntKind.i64.wrap (0 + 1) + 1) + 1) < ((3 : Nat) : Int)), false), (cl c == 5, false), lU c, (decide (IntKind.i64.wrap (IntKind.i64.wrap (0 + 1) + 1) < ((3 : Nat) : Int)), true), (cl b == 5, false), lU b, (decide (IntKind.i64.wrap (0 + 1) < ((3 : Nat) : Int)), true), (cl a == 5, false), lU a, (decide ((0 : Int) < ((3 : Nat) : Int)), true), (decide (cl c > 3), true), lU c, (decide (cl b > 3), false), lU b, (decide (cl a > 3), false), lU a, (badB a b, false), (decide (U a ∧ U b), true)] := ⟨by kernel_rfl, by kernel_rfl, by kernel_rfl, by kernel_rfl⟩
theorem fm_ea (a b c m : Int) : Fits (reckon (tabOf Try.prog extY conP1 true) 300 11 [.int .u64 a, .int .u64 b, .int .u64 c, .int .i64 m] [cmp false, cmp false, cmp false, cmp false, cmp true]) (suV m (sS (prN a b) inf) c) [(decide (U (sS (prN a b) inf) ∧ U c), true), (true, true), (decide (U a ∧ U b), true), (cl a == 3, true), lU a, (decide (cl c > 3), false), lU c, (decide (cl b > 3), false), lU b, (decide (cl a > 3), false), lU a, (badB a b, false), (decide (U a ∧ U b), true)] := ⟨by kernel_rfl, by kernel_rfl, by kernel_rfl, by kernel_rfl⟩
theorem fm_eb (a b c m : Int) : Fits (reckon (tabOf Try.prog extY conP1 true) 300 11 [.int .u64 a, .int .u64 b, .int .u64 c, .int .i64 m] [cmp false, cmp false, cmp false, cmp false, cmp false, cmp true]) (suV m (sS (prN a b) inf) c) [(decide (U (sS (prN a b) inf) ∧ U c), true), (true, true), (decide (U a ∧ U b), true), (cl b == 3, true), lU b, (cl a == 3, false), lU a, (decide (cl c > 3), false), lU c, (decide (cl b > 3), false), lU b, (decide (cl a > 3), false), lU a, (badB a b, false), (decide (U a ∧ U b), true)] := ⟨by kernel_rfl, by kernel_rfl, by kernel_rfl, by kernel_rfl⟩
theorem fm_ec (a b c m : Int) : Fits (reckon (tabOf Try.prog extY conP1 true) 300 11 [.int .u64 a, .int .u64 b, .int .u64 c, .int .i64 m] [cmp false, cmp false, cmp false, cmp false, cmp false, cmp false, cmp true]) (rdT c 0) [(cl c == 3, true), lU c, (cl b == 3, false), lU b, (cl a == 3, false), lU a, (decide (cl c > 3), false), lU c, (decide (cl b > 3), false), lU b, (decide (cl a > 3), false), lU a, (badB a b, false), (decide (U a ∧ U b), true)] := ⟨by kernel_rfl, by kernel_rfl, by kernel_rfl, by kernel_rfl⟩
theorem fm_fin (a b c m : Int) : Fits (reckon (tabOf Try.prog extY conP1 true) 300 11 [.int .u64 a, .int .u64 b, .int .u64 c, .int .i64 m] [cmp false, cmp false, cmp false, cmp false, cmp false, cmp false, cmp false, cmp true]) (rdV m (xuN m (prN a b) (prE a b) (ofN (prV a b)).nat (sgn c) (xp c) (wSg c).nat) (tw (ofN (xuQ (prN a b) (prE a b) (ofN (prV a b)).nat (sgn c) (xp c) (wSg c).nat)) (xuB (prN a b) (prE a b) (ofN (prV a b)).nat (sgn c) (xp c) (wSg c).nat)) (clp (unN (prE a b) (ofN (prV a b)).nat (xp c) (wSg c).nat) - 1)) [(decide (ofN (xuQ (prN a b) (prE a b) (ofN (prV a b)).nat (sgn c) (xp c) (wSg c).nat)).ok, true), (okEx (prE a b) (ofN (prV a b)) false (xp c) (wSg c) false, true), (finB a b, true), (decide (U a ∧ U b), true), (okEx (prE a b) (ofN (prV a b)) false (xp c) (wSg c) false, true), (okEx (prE a b) (ofN (prV a b)) false (xp c) (wSg c) false, true), (finB a b, true), (decide (U a ∧ U b), true), lU c, (decide (cl c ≤ 2), true), lU c, (cl c == 3, false), lU c, (cl b == 3, false), lU b, (cl a == 3, false), lU a, (decide (cl c > 3), false), lU c, (decide (cl b > 3), false), lU b, (decide (cl a > 3), false), lU a, (badB a b, false), (decide (U a ∧ U b), true)] := ⟨by kernel_rfl, by kernel_rfl, by kernel_rfl, by kernel_rfl⟩
/-- what Fma answers -/
def fmP (m a b c : Int) : Int := if badB a b = true then 9221120237041090560 else if 3 < cl a ∨ 3 < cl b ∨ 3 < cl c then 9221120237041090560 else if cl a = 3 ∨ cl b = 3 then suP m (sS (prN a b) inf) c else if cl c = 3 then c else sS (fsN m a b c) (fsP m a b c)
def fmF (m a b c : Int) : Int := if badB a b = true then 1 else if 3 < cl a ∨ 3 < cl b ∨ 3 < cl c then (if cl a = 5 ∨ cl b = 5 ∨ cl c = 5 then 1 else 0) else if cl a = 3 ∨ cl b = 3 then suF m (sS (prN a b) inf) c else if cl c = 3 then 0 else fsF m a b c
theorem inf_U (n : Bool) : U (sS n inf) := by cases n <;> decide
theorem fx_round (m a b c : Int) : rdV m (xuN m (prN a b) (prE a b) (ofN (prV a b)).nat (sgn c) (xp c) (wSg c).nat) (tw (ofN (xuQ (prN a b) (prE a b) (ofN (prV a b)).nat (sgn c) (xp c) (wSg c).nat)) (xuB (prN a b) (prE a b) (ofN (prV a b)).nat (sgn c) (xp c) (wSg c).nat)) (clp (unN (prE a b) (ofN (prV a b)).nat (xp c) (wSg c).nat) - 1) = rdT (sS (fsN m a b c) (fsP m a b c)) (fsF m a b c) := by
  have hE := prE_bd a b
  have hc := xp_bd c
  rw [ofN_nat (prV_256 a b), wSg_nat]
  exact xu_rd m m (may_prod a b) (may_pat c) (G := -2148) (by omega) (by omega) (prN a b) (sgn c)
theorem kE_of (a b c : Int) : okEx (prE a b) (ofN (prV a b)) false (xp c) (wSg c) false = true := by
  have h1 := may_prod a b
  have h2 := may_pat c
  refine decide_eq_true ⟨ofN_ok _, wSg_ok c, rfl, rfl, (may_iff (ofN_ok _)).2 ?_, (may_iff (wSg_ok c)).2 ?_⟩
  · rw [ofN_nat (prV_256 a b)]; exact h1
  · rw [wSg_nat]; exact h2
theorem pfma_calls (a b c m : Int) (ha : U a) (hb : U b) (hc : U c) (w : World) : Calls Try.prog 11 #[.int .u64 a, .int .u64 b, .int .u64 c, .int .i64 m] w fun r w' => r = .returned (rdT (fmP m a b c) (fmF m a b c)) ∧ Tidy w w' := by
  have hv : ([.int .u64 a, .int .u64 b, .int .u64 c, .int .i64 m].all (lt 0)) = true := rfl
  have T := tabY_ok conP1_ok
  have ka : decide (U a) = true := decide_eq_true ha
  have kb : decide (U b) = true := decide_eq_true hb
  have kc : decide (U c) = true := decide_eq_true hc
  have kab : decide (U a ∧ U b) = true := decide_eq_true ⟨ha, hb⟩
  have kic : decide (U (sS (prN a b) inf) ∧ U c) = true := decide_eq_true ⟨inf_U _, hc⟩
  have kE := kE_of a b c
  have ba := cl_bd a
  have bb := cl_bd b
  have bc := cl_bd c
  unfold fmP fmF
  by_cases hbd : badB a b = true
  · rw [if_pos hbd, if_pos hbd]
    exact fits_calls T (fm_bad a b c m) (okCons hbd (okL1 kab)) hv (by rfl) w
  · have hb0 : badB a b = false := by simpa using hbd
    rw [if_neg hbd, if_neg hbd]
    by_cases ha3 : 3 < cl a
    · rw [if_pos (.inl ha3), if_pos (.inl ha3)]
      by_cases a5 : cl a = 5
      · rw [if_pos (.inl a5)]
        exact fits_calls T (fm_a1 a b c m) (okCons (beq_t a5) (okCons ka (okCons (by decide) (okCons (decide_eq_true ha3) (okCons ka (okCons hb0 (okL1 kab))))))) hv (by rfl) w
      · by_cases b5 : cl b = 5
        · rw [if_pos (.inr (.inl b5))]
          exact fits_calls T (fm_a2 a b c m) (okCons (beq_t b5) (okCons kb (okCons (by decide) (okCons (beq_f (by omega)) (okCons ka (okCons (by decide) (okCons (decide_eq_true ha3) (okCons ka (okCons hb0 (okL1 kab)))))))))) hv (by rfl) w
        · by_cases c5 : cl c = 5
          · rw [if_pos (.inr (.inr c5))]
            exact fits_calls T (fm_a3 a b c m) (okCons (beq_t c5) (okCons kc (okCons (by decide) (okCons (beq_f (by omega)) (okCons kb (okCons (by decide) (okCons (beq_f (by omega)) (okCons ka (okCons (by decide) (okCons (decide_eq_true ha3) (okCons ka (okCons hb0 (okL1 kab))))))))))))) hv (by rfl) w
          · rw [if_neg (by omega)]
            exact fits_calls T (fm_a0 a b c m) (okCons (by decide) (okCons (beq_f (by omega)) (okCons kc (okCons (by decide) (okCons (beq_f (by omega)) (okCons kb (okCons (by decide) (okCons (beq_f (by omega)) (okCons ka (okCons (by decide) (okCons (decide_eq_true ha3) (okCons ka (okCons hb0 (okL1 kab)))))))))))))) hv (by rfl) w
    · by_cases hb3 : 3 < cl b
      · rw [if_pos (.inr (.inl hb3)), if_pos (.inr (.inl hb3))]
        by_cases b5 : cl b = 5
        · rw [if_pos (.inr (.inl b5))]
          exact fits_calls T (fm_b2 a b c m) (okCons (beq_t b5) (okCons kb (okCons (by decide) (okCons (beq_f (by omega)) (okCons ka (okCons (by decide) (okCons (decide_eq_true hb3) (okCons kb (okCons (decide_eq_false ha3) (okCons ka (okCons hb0 (okL1 kab)))))))))))) hv (by rfl) w
        · by_cases c5 : cl c = 5
          · rw [if_pos (.inr (.inr c5))]
            exact fits_calls T (fm_b3 a b c m) (okCons (beq_t c5) (okCons kc (okCons (by decide) (okCons (beq_f (by omega)) (okCons kb (okCons (by decide) (okCons (beq_f (by omega)) (okCons ka (okCons (by decide) (okCons (decide_eq_true hb3) (okCons kb (okCons (decide_eq_false ha3) (okCons ka (okCons hb0 (okL1 kab))))))))))))))) hv (by rfl) w
          · rw [if_neg (by omega)]
            exact fits_calls T (fm_b0 a b c m) (okCons (by decide) (okCons (beq_f (by omega)) (okCons kc (okCons (by decide) (okCons (beq_f (by omega)) (okCons kb (okCons (by decide) (okCons (beq_f (by omega)) (okCons ka (okCons (by decide) (okCons (decide_eq_true hb3) (okCons kb (okCons (decide_eq_false ha3) (okCons ka (okCons hb0 (okL1 kab)))))))))))))))) hv (by rfl) w
      · by_cases hc3 : 3 < cl c
        · rw [if_pos (.inr (.inr hc3)), if_pos (.inr (.inr hc3))]
          by_cases c5 : cl c = 5
          · rw [if_pos (.inr (.inr c5))]
            exact fits_calls T (fm_c3 a b c m) (okCons (beq_t c5) (okCons kc (okCons (by decide) (okCons (beq_f (by omega)) (okCons kb (okCons (by decide) (okCons (beq_f (by omega)) (okCons ka (okCons (by decide) (okCons (decide_eq_true hc3) (okCons kc (okCons (decide_eq_false hb3) (okCons kb (okCons (decide_eq_false ha3) (okCons ka (okCons hb0 (okL1 kab))))))))))))))))) hv (by rfl) w
          · rw [if_neg (by omega)]
            exact fits_calls T (fm_c0 a b c m) (okCons (by decide) (okCons (beq_f (by omega)) (okCons kc (okCons (by decide) (okCons (beq_f (by omega)) (okCons kb (okCons (by decide) (okCons (beq_f (by omega)) (okCons ka (okCons (by decide) (okCons (decide_eq_true hc3) (okCons kc (okCons (decide_eq_false hb3) (okCons kb (okCons (decide_eq_false ha3) (okCons ka (okCons hb0 (okL1 kab)))))))))))))))))) hv (by rfl) w
        · have hno : ¬ (3 < cl a ∨ 3 < cl b ∨ 3 < cl c) := by omega
          rw [if_neg hno, if_neg hno]
          by_cases ae : cl a = 3
          · rw [if_pos (.inl ae), if_pos (.inl ae)]
            exact fits_calls T (fm_ea a b c m) (okCons kic (okCons rfl (okCons kab (okCons (beq_t ae) (okCons ka (okCons (decide_eq_false hc3) (okCons kc (okCons (decide_eq_false hb3) (okCons kb (okCons (decide_eq_false ha3) (okCons ka (okCons hb0 (okL1 kab))))))))))))) hv (by rfl) w
          · by_cases be : cl b = 3
            · rw [if_pos (.inr be), if_pos (.inr be)]
              exact fits_calls T (fm_eb a b c m) (okCons kic (okCons rfl (okCons kab (okCons (beq_t be) (okCons kb (okCons (beq_f ae) (okCons ka (okCons (decide_eq_false hc3) (okCons kc (okCons (decide_eq_false hb3) (okCons kb (okCons (decide_eq_false ha3) (okCons ka (okCons hb0 (okL1 kab))))))))))))))) hv (by rfl) w
            · have hno2 : ¬ (cl a = 3 ∨ cl b = 3) := by omega
              rw [if_neg hno2, if_neg hno2]
              by_cases ce : cl c = 3
              · rw [if_pos ce, if_pos ce]
                exact fits_calls T (fm_ec a b c m) (okCons (beq_t ce) (okCons kc (okCons (beq_f be) (okCons kb (okCons (beq_f ae) (okCons ka (okCons (decide_eq_false hc3) (okCons kc (okCons (decide_eq_false hb3) (okCons kb (okCons (decide_eq_false ha3) (okCons ka (okCons hb0 (okL1 kab)))))))))))))) hv (by rfl) w
              · rw [if_neg ce, if_neg ce]
                have hf := fm_fin a b c m
                rw [fx_round] at hf
                exact fits_calls T hf (okCons (decide_eq_true (ofN_ok _)) (okCons kE (okCons (decide_eq_true ⟨by omega, by omega⟩) (okCons kab (okCons kE (okCons kE (okCons (decide_eq_true ⟨by omega, by omega⟩) (okCons kab (okCons kc (okCons (decide_eq_true (by omega)) (okCons kc (okCons (beq_f ce) (okCons kc (okCons (beq_f be) (okCons kb (okCons (beq_f ae) (okCons ka (okCons (decide_eq_false hc3) (okCons kc (okCons (decide_eq_false hb3) (okCons kb (okCons (decide_eq_false ha3) (okCons ka (okCons hb0 (okL1 kab))))))))))))))))))))))))) hv (by rfl) w
def gPF : Ans := fun vals s =>
  match vals with
  | [.int .u64 a, .int .u64 b, .int .u64 c, .int .i64 m] => some (rdT (fmP m a b c) (fmF m a b c), s, [(decide (U a ∧ U b ∧ U c), true)])
  | _ => none
theorem gPF_ok : AnsOk 11 gPF := by
  intro vals s v s' lg h hl w
  unfold gPF at h
  split at h
  · cases h
    obtain ⟨h1, h2, h3⟩ := of_decide_eq_true (hl _ (List.mem_singleton.2 rfl))
    exact pfma_calls _ _ _ _ h1 h2 h3 w
  · cases h
def conP2 : Con := alt 8 gPM (alt 11 gPF conN)
theorem conP2_ok : ConOk conP2 := alt_ok Try.func8 rfl gPM_ok (alt_ok Try.func11 rfl gPF_ok conN_ok)
end Go.Proofs.Ytecaahiajbkioaa
