/-
  PLAIN ARITHMETIC: the root of a square that needs no rounding; a root by Down and Up.
-/
import Derived.Test.YtnolcojnodoecaaG32
import Derived.Test.YtnolcojnodoecaaG19
import Derived.Test.YtnolcojnodoecaaG25
namespace Go.Rn
open Go.Nt Go.Wd Go.Pt

/-- a product without flags, as a number: in units of 2^-2148 -/
theorem ml_exact {m : Int} {n : Bool} {T : Nat} {E : Int} {j : Nat} (hj : (j : Int) = 1074) (hT : T ≠ 0) (hE : -2148 ≤ E) (h : rnF m n T E = 0) : uV (rnP m n T E) * 2 ^ j = T * 2 ^ (E + 2148).toNat ∧ rnP m n T E < 9218868437227405312 := by
  obtain ⟨h1, h2, h3, h4⟩ := rn_num hT (.inl h)
  have hl := h4.1 h
  refine ⟨?_, by omega⟩
  rw [h3]
  have hge := lowE_ge T E
  generalize lowE T E = e at *
  unfold toL at hl
  unfold toQ
  by_cases he : e ≤ E
  · rw [if_pos he, Nat.mul_assoc, Nat.mul_assoc, ← Nat.pow_add, ← Nat.pow_add]
    congr 2
    omega
  · rw [if_neg he] at hl ⊢
    have hz : T % 2 ^ (e - E).toNat = 0 := by simpa using hl
    rw [rq_exact hz]
    have hd := Nat.div_add_mod T (2 ^ (e - E).toNat)
    rw [hz, Nat.add_zero] at hd
    have ee : 2 ^ (e + 1074).toNat * 2 ^ j = 2 ^ (e - E).toNat * 2 ^ (E + 2148).toNat := by
      rw [← Nat.pow_add, ← Nat.pow_add]
      congr 1
      omega
    rw [Nat.mul_assoc, ee, ← Nat.mul_assoc, Nat.mul_comm _ (2 ^ (e - E).toNat), hd]
/-- the root of a square -/
theorem rt_square {m a s : Int} {j : Nat} (hj : (j : Int) = 1074) (hf : ex a ≠ 2047) (hs : sg s ≠ 0) (h : uV s * 2 ^ j = prV a a * 2 ^ (prE a a + 2148).toNat) : rtP m s = mag a ∧ rtF m s = 0 := by
  have hA := sg_lt a
  have hS := sg_lt s
  have xa := xp_bd a
  have xs := xp_bd s
  have uU := rtU_bd s
  have ev : (xp s - rtU s) % 2 = 0 := by unfold rtU; omega
  unfold uV szF prV prE at h
  obtain ⟨S, eS⟩ : ∃ S, S = (sg s).toNat := ⟨_, rfl⟩
  obtain ⟨A, eA⟩ : ∃ A, A = (sg a).toNat := ⟨_, rfl⟩
  rw [← eS, ← eA] at h
  obtain ⟨x, ex⟩ : ∃ x : Nat, x = (xp s - -1074).toNat + j := ⟨_, rfl⟩
  obtain ⟨y, ey⟩ : ∃ y : Nat, y = (xp a + xp a + 2148).toNat := ⟨_, rfl⟩
  rw [Nat.mul_assoc, ← Nat.pow_add, ← ex, ← ey] at h
  have hA2 : A * A < 2 ^ 106 := by
    have := Nat.mul_le_mul (show A ≤ 9007199254740991 by omega) (show A ≤ 9007199254740991 by omega)
    exact Nat.lt_of_le_of_lt this (by decide)
  have hxy : x ≤ y + 105 := by
    rcases Nat.lt_or_ge (y + 105) x with hc | hc
    · exfalso
      have e1 : x = (x - y) + y := by omega
      rw [e1, Nat.pow_add, ← Nat.mul_assoc] at h
      have e2 := Nat.eq_of_mul_eq_mul_right (Nat.pow_pos (by omega)) h
      have h1 : 2 ^ 106 ≤ 2 ^ (x - y) := Nat.pow_le_pow_right (by omega) (by omega)
      have h2 : 2 ^ (x - y) ≤ S * 2 ^ (x - y) := Nat.le_mul_of_pos_left _ (by omega)
      omega
    · exact hc
  obtain ⟨k, hk⟩ : ∃ k : Nat, y + rtU s = x + (k + k) := ⟨(y + rtU s - x) / 2, by omega⟩
  have hX : rtX s = A * 2 ^ k * (A * 2 ^ k) := by
    unfold rtX
    rw [← eS]
    refine Nat.eq_of_mul_eq_mul_right (show 0 < 2 ^ x from Nat.pow_pos (by omega)) ?_
    rw [Nat.mul_mul_mul_comm, Nat.mul_right_comm, h, Nat.mul_assoc (A * A), ← Nat.pow_add, ← Nat.pow_add, Nat.mul_assoc (A * A), ← Nat.pow_add]
    congr 2
    omega
  have hlim : A * 2 ^ k * (A * 2 ^ k) < lim := by
    rw [← hX]
    exact Nat.lt_trans (Nat.lt_of_le_of_lt (Nat.le_mul_of_pos_right _ (by decide)) (rtX_lt s 0 (by omega))) (by decide)
  have hK : rtK (rtX s) = A * 2 ^ (k + 1) := by
    unfold rtK
    rw [hX, isq_sq hlim, if_pos rfl, Nat.pow_succ, Nat.add_zero, Nat.mul_comm 2, Nat.mul_assoc]
  have hE : rtE s = xp a - ((k + 1 : Nat) : Int) := by unfold rtE; omega
  obtain ⟨q1, q2⟩ := own_pat (m := m) (neg := false) hf
  unfold rtP rtF
  rw [hK, hE, rnP_scale, rnF_scale, eA, q1, q2]
  exact ⟨rfl, rfl⟩
theorem rtK_bd {a : Int} (h : sg a ≠ 0) : 66 ≤ bitLen (rtK (rtX a)) ∧ bitLen (rtK (rtX a)) ≤ 98 := by
  have h0 := sg_lt a
  have u := rtU_bd a
  have x1 : rtX a < 2 ^ 194 := Nat.lt_of_le_of_lt (Nat.le_mul_of_pos_right _ (by decide)) (rtX_lt a 0 (by omega))
  have x0 : 2 ^ 128 ≤ rtX a := by
    unfold rtX
    exact Nat.le_trans (Nat.pow_le_pow_right (by omega) u.1) (Nat.le_mul_of_pos_left _ (by omega))
  obtain ⟨s1, s2⟩ := isq_spec (n := rtX a) (Nat.lt_trans x1 (by decide))
  have r0 : 2 ^ 64 ≤ isq (rtX a) := by
    rcases Nat.lt_or_ge (isq (rtX a)) (2 ^ 64) with hc | hc
    · have := Nat.mul_le_mul hc hc
      rw [← Nat.pow_add] at this
      have h1 := Nat.lt_of_lt_of_le s2 this
      omega
    · exact hc
  have r1 : isq (rtX a) < 2 ^ 97 := by
    rcases Nat.lt_or_ge (isq (rtX a)) (2 ^ 97) with hc | hc
    · exact hc
    · have := Nat.mul_le_mul hc hc
      rw [← Nat.pow_add] at this
      have h1 := Nat.le_trans this s1
      omega
  refine ⟨le_len (k := 65) ?_, len_le (k := 98) ?_⟩
  · unfold rtK
    split <;> omega
  · unfold rtK
    split <;> omega
/-- a root by Down and Up -/
theorem rt_sides {a : Int} (h : sg a ≠ 0) : (rtP 3 a = rtP 4 a ∧ rtF 3 a = 0 ∧ rtF 4 a = 0) ∨ (rtP 3 a = rtP 4 a + 1 ∧ rtF 3 a = 16 ∧ rtF 4 a = 16) := by
  obtain ⟨b1, b2⟩ := rtK_bd h
  have u := rtU_bd a
  have xa := xp_bd a
  have hE : -605 ≤ rtE a ∧ rtE a ≤ 425 := by unfold rtE; omega
  have hT : rtK (rtX a) ≠ 0 := fun h0 => by rw [h0] at b1; simp [bitLen] at b1
  have hlg : -540 ≤ lgN (rtK (rtX a)) (rtE a) ∧ lgN (rtK (rtX a)) (rtE a) ≤ 522 := by unfold lgN; omega
  have hlo : lowE (rtK (rtX a)) (rtE a) ≤ 470 := by unfold lowE; split <;> omega
  have hF : ∀ m, rnF m false (rtK (rtX a)) (rtE a) = 0 ∨ rnF m false (rtK (rtX a)) (rtE a) = 16 := by
    intro m
    have hq := low_hi m false (rtK (rtX a)) (rtE a)
    have hp : p0 m false (rtK (rtX a)) (rtE a) < 9218868437227405312 := by unfold p0; omega
    have ht : tiny m false (rtK (rtX a)) (rtE a) = false := by
      unfold tiny
      rw [if_neg (by omega)]
      exact decide_eq_false (by omega)
    unfold rnF
    rw [if_neg hT, if_neg (by omega), ht]
    split
    · exact .inr rfl
    · exact .inl rfl
  unfold rtP rtF
  cases hi : inex (rtK (rtX a)) (rtE a) with
  | false =>
    left
    obtain ⟨p3, f3⟩ := exact_of (m := 3) (neg := false) hi
    obtain ⟨p4, f4⟩ := exact_of (m := 4) (neg := false) hi
    exact ⟨by rw [p3, p4], f3, f4⟩
  | true =>
    right
    obtain ⟨p3, p4⟩ := inex_side (neg := false) hi
    have f3 := inex_F (m := 3) (neg := false) hi
    have f4 := inex_F (m := 4) (neg := false) hi
    have g3 := hF 3
    have g4 := hF 4
    refine ⟨?_, by omega, by omega⟩
    rw [p3, p4]
    simp
end Go.Rn

/-
  Products: 0 times Endless, Endless of a product's sign, the exact product (prod.isNoughtByEndless, endless, exact), as calls in every world.
-/
namespace Go.Proofs.Ytnolcojnodoecaa
open Go.KRun Go.Wd Go.Pt Go.Rn
set_option maxRecDepth 100000

def conP0 : Con := alt 63 (g2 (plain2 mulV4)) conG0
theorem conP0_ok : ConOk conP0 := alt_ok Try.func63 rfl (plain2_ok mul_calls) conG0_ok
/-! ### 0 times Endless -/
def badB (a b : Int) : Bool := decide ((cl a = 0 ∧ cl b = 3) ∨ (cl a = 3 ∧ cl b = 0))
theorem nb_tt (a b : Int) : Fits (reckon (tabOf Try.prog extY conP0 true) 300 35 [.int .u64 a, .int .u64 b] [cmp true, cmp true]) (.bool true) [(cl b == 3, true), lU b, (cl a == 0, true), lU a] := ⟨by kernel_rfl, by kernel_rfl, by kernel_rfl, by kernel_rfl⟩
theorem nb_tff (a b : Int) : Fits (reckon (tabOf Try.prog extY conP0 true) 300 35 [.int .u64 a, .int .u64 b] [cmp true, cmp false, cmp false]) (.bool false) [(cl a == 3, false), lU a, (cl b == 3, false), lU b, (cl a == 0, true), lU a] := ⟨by kernel_rfl, by kernel_rfl, by kernel_rfl, by kernel_rfl⟩
theorem nb_ff (a b : Int) : Fits (reckon (tabOf Try.prog extY conP0 true) 300 35 [.int .u64 a, .int .u64 b] [cmp false, cmp false]) (.bool false) [(cl a == 3, false), lU a, (cl a == 0, false), lU a] := ⟨by kernel_rfl, by kernel_rfl, by kernel_rfl, by kernel_rfl⟩
theorem nb_ftt (a b : Int) : Fits (reckon (tabOf Try.prog extY conP0 true) 300 35 [.int .u64 a, .int .u64 b] [cmp false, cmp true, cmp true]) (.bool true) [(cl b == 0, true), lU b, (cl a == 3, true), lU a, (cl a == 0, false), lU a] := ⟨by kernel_rfl, by kernel_rfl, by kernel_rfl, by kernel_rfl⟩
theorem nb_ftf (a b : Int) : Fits (reckon (tabOf Try.prog extY conP0 true) 300 35 [.int .u64 a, .int .u64 b] [cmp false, cmp true, cmp false]) (.bool false) [(cl b == 0, false), lU b, (cl a == 3, true), lU a, (cl a == 0, false), lU a] := ⟨by kernel_rfl, by kernel_rfl, by kernel_rfl, by kernel_rfl⟩
theorem nb_calls (a b : Int) (ha : U a) (hb : U b) (w : World) : Calls Try.prog 35 #[.int .u64 a, .int .u64 b] w fun r w' => r = .returned (.bool (badB a b)) ∧ Tidy w w' := by
  have hv : ([.int .u64 a, .int .u64 b].all (lt 0)) = true := rfl
  have ka : decide (U a) = true := decide_eq_true ha
  have kb : decide (U b) = true := decide_eq_true hb
  by_cases h0 : cl a = 0
  · by_cases h3 : cl b = 3
    · rw [show badB a b = true from decide_eq_true (.inl ⟨h0, h3⟩)]
      exact fits_calls (tabY_ok conP0_ok) (nb_tt a b) (okCons (beq_t h3) (okCons kb (okCons (beq_t h0) (okL1 ka)))) hv (by rfl) w
    · rw [show badB a b = false from decide_eq_false (by omega)]
      exact fits_calls (tabY_ok conP0_ok) (nb_tff a b) (okCons (beq_f (by omega)) (okCons ka (okCons (beq_f h3) (okCons kb (okCons (beq_t h0) (okL1 ka)))))) hv (by rfl) w
  · by_cases h3 : cl a = 3
    · by_cases hz : cl b = 0
      · rw [show badB a b = true from decide_eq_true (.inr ⟨h3, hz⟩)]
        exact fits_calls (tabY_ok conP0_ok) (nb_ftt a b) (okCons (beq_t hz) (okCons kb (okCons (beq_t h3) (okCons ka (okCons (beq_f h0) (okL1 ka)))))) hv (by rfl) w
      · rw [show badB a b = false from decide_eq_false (by omega)]
        exact fits_calls (tabY_ok conP0_ok) (nb_ftf a b) (okCons (beq_f hz) (okCons kb (okCons (beq_t h3) (okCons ka (okCons (beq_f h0) (okL1 ka)))))) hv (by rfl) w
    · rw [show badB a b = false from decide_eq_false (by omega)]
      exact fits_calls (tabY_ok conP0_ok) (nb_ff a b) (okCons (beq_f h3) (okCons ka (okCons (beq_f h0) (okL1 ka)))) hv (by rfl) w
/-- a truth of two words, told ahead -/
def gUUb (k : Int → Int → Bool) : Ans := fun vals s =>
  match vals, s with
  | [.int .u64 a, .int .u64 b], .inr (.inr (.inr (.inl d))) :: s' => some (.bool d, s', [(k a b, d), (decide (U a ∧ U b), true)])
  | _, _ => none
theorem gUUb_ok {f : Nat} {k : Int → Int → Bool} (hk : ∀ a b : Int, U a → U b → ∀ w, Calls Try.prog f #[.int .u64 a, .int .u64 b] w fun e w' => e = .returned (.bool (k a b)) ∧ Tidy w w') : AnsOk f (gUUb k) := by
  intro vals s v s' lg h hl w
  unfold gUUb at h
  split at h
  · cases h
    have e := hl _ (List.mem_cons_self)
    obtain ⟨h1, h2⟩ := of_decide_eq_true (hl _ (List.mem_cons_of_mem _ (List.mem_singleton.2 rfl)))
    simp only at e
    rw [← e]
    exact hk _ _ h1 h2 w
  · cases h
/-- a value of two words -/
def gUU (k : Int → Int → Value) (c : Int → Int → Bool) : Ans := fun vals s =>
  match vals with
  | [.int .u64 a, .int .u64 b] => some (k a b, s, [(c a b, true), (decide (U a ∧ U b), true)])
  | _ => none
theorem gUU_ok {f : Nat} {k : Int → Int → Value} {c : Int → Int → Bool} (hk : ∀ a b : Int, U a → U b → c a b = true → ∀ w, Calls Try.prog f #[.int .u64 a, .int .u64 b] w fun e w' => e = .returned (k a b) ∧ Tidy w w') : AnsOk f (gUU k c) := by
  intro vals s v s' lg h hl w
  unfold gUU at h
  split at h
  · cases h
    have e := hl _ (List.mem_cons_self)
    obtain ⟨h1, h2⟩ := of_decide_eq_true (hl _ (List.mem_cons_of_mem _ (List.mem_singleton.2 rfl)))
    exact hk _ _ h1 h2 e w
  · cases h
/-! ### Endless, with a product's sign -/
theorem xor_top {a b : Int} (ha : U a) (hb : U b) : U (bXor a b) ∧ bAnd (bXor a b) 9223372036854775808 = if prN a b = true then 9223372036854775808 else 0 := by
  obtain ⟨A, rfl⟩ := Int.eq_ofNat_of_zero_le ha.1
  obtain ⟨B, rfl⟩ := Int.eq_ofNat_of_zero_le hb.1
  have h1 : A < 2 ^ 64 := by have := ha.2; omega
  have h2 : B < 2 ^ 64 := by have := hb.2; omega
  have hx : A ^^^ B < 2 ^ 64 := Nat.xor_lt_two_pow h1 h2
  have e : bXor (A : Int) (B : Int) = ((A ^^^ B : Nat) : Int) := by
    unfold bXor
    rw [back, BitVec.toNat_xor, ofU (by omega), ofU (by omega)]
  have hU : U (bXor (A : Int) (B : Int)) := by rw [e]; exact ⟨by omega, by omega⟩
  refine ⟨hU, ?_⟩
  rw [bAnd_sign hU, e]
  have hd : (A ^^^ B) / 2 ^ 63 = A / 2 ^ 63 ^^^ B / 2 ^ 63 := Nat.xor_div_two_pow
  have a1 : A / 2 ^ 63 < 2 := by omega
  have b1 : B / 2 ^ 63 < 2 := by omega
  have hA : sgn (A : Int) = decide (A / 2 ^ 63 = 1) := by
    unfold sgn
    by_cases h : A / 2 ^ 63 = 1
    · rw [decide_eq_true h]; exact decide_eq_true (by omega)
    · rw [decide_eq_false h]; exact decide_eq_false (by omega)
  have hB : sgn (B : Int) = decide (B / 2 ^ 63 = 1) := by
    unfold sgn
    by_cases h : B / 2 ^ 63 = 1
    · rw [decide_eq_true h]; exact decide_eq_true (by omega)
    · rw [decide_eq_false h]; exact decide_eq_false (by omega)
  have e2 : ((A ^^^ B : Nat) : Int) / 9223372036854775808 = ((A / 2 ^ 63 ^^^ B / 2 ^ 63 : Nat) : Int) := by rw [← hd]; omega
  rw [e2]
  unfold prN
  rw [hA, hB]
  generalize A / 2 ^ 63 = x at *
  generalize B / 2 ^ 63 = y at *
  have hx : x = 0 ∨ x = 1 := by omega
  have hy : y = 0 ∨ y = 1 := by omega
  rcases hx with rfl | rfl <;> rcases hy with rfl | rfl <;> decide
def inf : Int := 9218868437227405312
theorem en_fits (a b : Int) : Fits (reckon (tabOf Try.prog extY conP0 true) 300 38 [.int .u64 a, .int .u64 b] []) (.int .u64 (bOr (bNot 9218868437227405312 9223372036854775808) (bAnd (bXor a b) 9223372036854775808))) [] := ⟨by kernel_rfl, by kernel_rfl, by kernel_rfl, by kernel_rfl⟩
theorem en_eq {a b : Int} (ha : U a) (hb : U b) : bOr (bNot 9218868437227405312 9223372036854775808) (bAnd (bXor a b) 9223372036854775808) = sS (prN a b) inf := by
  rw [(xor_top ha hb).2]
  cases prN a b <;> decide
theorem en_calls (a b : Int) (ha : U a) (hb : U b) (w : World) : Calls Try.prog 38 #[.int .u64 a, .int .u64 b] w fun r w' => r = .returned (.int .u64 (sS (prN a b) inf)) ∧ Tidy w w' := by
  have := fits_calls (tabY_ok conP0_ok) (en_fits a b) (fun x hx => by cases hx) (by rfl) (by rfl) w
  rw [en_eq ha hb] at this
  exact this
/-! ### the exact product -/
theorem xa_fits (a b : Int) : Fits (reckon (tabOf Try.prog extY conP0 true) 300 39 [.int .u64 a, .int .u64 b] [cmp true, cmp true]) (vN (prN a b) (IntKind.i64.wrap (xp a + xp b)) (W4.of ((wSg a).val * (wSg b).val)) false) [(decide ((wSg a).ok ∧ (wSg b).ok), true), lU b, (decide (cl b ≤ 2), true), lU b, lU a, (decide (cl a ≤ 2), true), lU a] := ⟨by kernel_rfl, by kernel_rfl, by kernel_rfl, by kernel_rfl⟩
def vPx (a b : Int) : Value := vN (prN a b) (prE a b) (ofN (prV a b)) false
def finB (a b : Int) : Bool := decide (cl a ≤ 2 ∧ cl b ≤ 2)
theorem xa_calls (a b : Int) (ha : U a) (hb : U b) (h : finB a b = true) (w : World) : Calls Try.prog 39 #[.int .u64 a, .int .u64 b] w fun r w' => r = .returned (vPx a b) ∧ Tidy w w' := by
  obtain ⟨ca, cb⟩ := of_decide_eq_true h
  have ka : decide (U a) = true := decide_eq_true ha
  have kb : decide (U b) = true := decide_eq_true hb
  have hE := prE_bd a b
  have e1 : IntKind.i64.wrap (xp a + xp b) = prE a b := wrapI' ⟨by unfold prE at hE; omega, by unfold prE at hE; omega⟩
  have e2 : W4.of ((wSg a).val * (wSg b).val) = ofN (prV a b) := by
    unfold ofN prV
    rw [W4.nat_val (wSg_ok a), W4.nat_val (wSg_ok b), wSg_nat, wSg_nat, Int.natCast_mul]
  have := fits_calls (tabY_ok conP0_ok) (xa_fits a b) (okCons (decide_eq_true ⟨wSg_ok a, wSg_ok b⟩) (okCons kb (okCons (decide_eq_true cb) (okCons kb (okCons ka (okCons (decide_eq_true ca) (okL1 ka))))))) (by rfl) (by rfl) w
  rw [e1, e2] at this
  exact this
def conP1 : Con := alt 35 (gUUb badB) (alt 38 (gUU (fun a b => .int .u64 (sS (prN a b) inf)) (fun _ _ => true)) (alt 39 (gUU vPx finB) conP0))
theorem conP1_ok : ConOk conP1 := alt_ok Try.func35 rfl (gUUb_ok nb_calls) (alt_ok Try.func38 rfl (gUU_ok fun a b ha hb _ w => en_calls a b ha hb w) (alt_ok Try.func39 rfl (gUU_ok xa_calls) conP0_ok))
end Go.Proofs.Ytnolcojnodoecaa
