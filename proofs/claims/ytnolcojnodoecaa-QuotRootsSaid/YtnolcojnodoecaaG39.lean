/-
  quot.Div and quot.Sqrt, as calls in every world.
-/
import Derived.Test.YtnolcojnodoecaaG38
import Derived.Test.YtnolcojnodoecaaG31
namespace Go.Proofs.Ytnolcojnodoecaa
open Go.KRun Go.Wd Go.Pt Go.Rn
set_option maxRecDepth 100000

theorem dq_n1 (a b m : Int) : Fits (reckon (tabOf Try.prog extY conU1 true) 300 8 [.int .u64 a, .int .u64 b, .int .i64 m] [cmp true, cmp true, cmp true]) (rdT 9221120237041090560 1) [(cl a == 5, true), lU a, (decide ((0 : Int) < ((2 : Nat) : Int)), true), (decide (cl a > 3), true), lU a] := ⟨by kernel_rfl, by kernel_rfl, by kernel_rfl, by kernel_rfl⟩
theorem dq_n2 (a b m : Int) : Fits (reckon (tabOf Try.prog extY conU1 true) 300 8 [.int .u64 a, .int .u64 b, .int .i64 m] [cmp true, cmp true, cmp false, cmp true, cmp true]) (rdT 9221120237041090560 1) [(cl b == 5, true), lU b, (decide (IntKind.i64.wrap (0 + 1) < ((2 : Nat) : Int)), true), (cl a == 5, false), lU a, (decide ((0 : Int) < ((2 : Nat) : Int)), true), (decide (cl a > 3), true), lU a] := ⟨by kernel_rfl, by kernel_rfl, by kernel_rfl, by kernel_rfl⟩
theorem dq_n3 (a b m : Int) : Fits (reckon (tabOf Try.prog extY conU1 true) 300 8 [.int .u64 a, .int .u64 b, .int .i64 m] [cmp true, cmp true, cmp false, cmp true, cmp false, cmp false]) (rdT 9221120237041090560 0) [(decide (IntKind.i64.wrap (IntKind.i64.wrap (0 + 1) + 1) < ((2 : Nat) : Int)), false), (cl b == 5, false), lU b, (decide (IntKind.i64.wrap (0 + 1) < ((2 : Nat) : Int)), true), (cl a == 5, false), lU a, (decide ((0 : Int) < ((2 : Nat) : Int)), true), (decide (cl a > 3), true), lU a] := ⟨by kernel_rfl, by kernel_rfl, by kernel_rfl, by kernel_rfl⟩
theorem dq_m2 (a b m : Int) : Fits (reckon (tabOf Try.prog extY conU1 true) 300 8 [.int .u64 a, .int .u64 b, .int .i64 m] [cmp false, cmp true, cmp true, cmp false, cmp true, cmp true]) (rdT 9221120237041090560 1) [(cl b == 5, true), lU b, (decide (IntKind.i64.wrap (0 + 1) < ((2 : Nat) : Int)), true), (cl a == 5, false), lU a, (decide ((0 : Int) < ((2 : Nat) : Int)), true), (decide (cl b > 3), true), lU b, (decide (cl a > 3), false), lU a] := ⟨by kernel_rfl, by kernel_rfl, by kernel_rfl, by kernel_rfl⟩
theorem dq_m3 (a b m : Int) : Fits (reckon (tabOf Try.prog extY conU1 true) 300 8 [.int .u64 a, .int .u64 b, .int .i64 m] [cmp false, cmp true, cmp true, cmp false, cmp true, cmp false, cmp false]) (rdT 9221120237041090560 0) [(decide (IntKind.i64.wrap (IntKind.i64.wrap (0 + 1) + 1) < ((2 : Nat) : Int)), false), (cl b == 5, false), lU b, (decide (IntKind.i64.wrap (0 + 1) < ((2 : Nat) : Int)), true), (cl a == 5, false), lU a, (decide ((0 : Int) < ((2 : Nat) : Int)), true), (decide (cl b > 3), true), lU b, (decide (cl a > 3), false), lU a] := ⟨by kernel_rfl, by kernel_rfl, by kernel_rfl, by kernel_rfl⟩
theorem dq_zz (a b m : Int) : Fits (reckon (tabOf Try.prog extY conU1 true) 300 8 [.int .u64 a, .int .u64 b, .int .i64 m] [cmp false, cmp false, cmp true, cmp true]) (rdT 9221120237041090560 1) [(cl b == 0, true), lU b, (cl a == 0, true), lU a, (decide (cl b > 3), false), lU b, (decide (cl a > 3), false), lU a] := ⟨by kernel_rfl, by kernel_rfl, by kernel_rfl, by kernel_rfl⟩
theorem dq_ii (a b m : Int) : Fits (reckon (tabOf Try.prog extY conU1 true) 300 8 [.int .u64 a, .int .u64 b, .int .i64 m] [cmp false, cmp false, cmp false, cmp true, cmp true]) (rdT 9221120237041090560 1) [(cl b == 3, true), lU b, (cl a == 3, true), lU a, (cl a == 0, false), lU a, (decide (cl b > 3), false), lU b, (decide (cl a > 3), false), lU a] := ⟨by kernel_rfl, by kernel_rfl, by kernel_rfl, by kernel_rfl⟩
theorem dq_ia (a b m : Int) : Fits (reckon (tabOf Try.prog extY conU1 true) 300 8 [.int .u64 a, .int .u64 b, .int .i64 m] [cmp false, cmp false, cmp false, cmp true, cmp false, cmp true]) (rdT (bOr (bNot 9218868437227405312 9223372036854775808) (bAnd (bXor a b) 9223372036854775808)) 0) [(cl a == 3, true), lU a, (cl b == 3, false), lU b, (cl a == 3, true), lU a, (cl a == 0, false), lU a, (decide (cl b > 3), false), lU b, (decide (cl a > 3), false), lU a] := ⟨by kernel_rfl, by kernel_rfl, by kernel_rfl, by kernel_rfl⟩
theorem dq_ib (a b m : Int) : Fits (reckon (tabOf Try.prog extY conU1 true) 300 8 [.int .u64 a, .int .u64 b, .int .i64 m] [cmp false, cmp false, cmp false, cmp false, cmp false, cmp true]) (rdT (bOr (bNot 0 9223372036854775808) (bAnd (bXor a b) 9223372036854775808)) 0) [(cl b == 3, true), lU b, (cl a == 3, false), lU a, (cl a == 3, false), lU a, (cl a == 0, false), lU a, (decide (cl b > 3), false), lU b, (decide (cl a > 3), false), lU a] := ⟨by kernel_rfl, by kernel_rfl, by kernel_rfl, by kernel_rfl⟩
theorem dq_zb (a b m : Int) : Fits (reckon (tabOf Try.prog extY conU1 true) 300 8 [.int .u64 a, .int .u64 b, .int .i64 m] [cmp false, cmp false, cmp true, cmp false, cmp false, cmp false, cmp true]) (rdT (bOr (bNot 0 9223372036854775808) (bAnd (bXor a b) 9223372036854775808)) 0) [(cl b == 3, true), lU b, (cl a == 3, false), lU a, (cl a == 3, false), lU a, (cl b == 0, false), lU b, (cl a == 0, true), lU a, (decide (cl b > 3), false), lU b, (decide (cl a > 3), false), lU a] := ⟨by kernel_rfl, by kernel_rfl, by kernel_rfl, by kernel_rfl⟩
theorem dq_bz (a b m : Int) : Fits (reckon (tabOf Try.prog extY conU1 true) 300 8 [.int .u64 a, .int .u64 b, .int .i64 m] [cmp false, cmp false, cmp false, cmp false, cmp false, cmp false, cmp true]) (rdT (bOr (bNot 9218868437227405312 9223372036854775808) (bAnd (bXor a b) 9223372036854775808)) 2) [(cl b == 0, true), lU b, (cl b == 3, false), lU b, (cl a == 3, false), lU a, (cl a == 3, false), lU a, (cl a == 0, false), lU a, (decide (cl b > 3), false), lU b, (decide (cl a > 3), false), lU a] := ⟨by kernel_rfl, by kernel_rfl, by kernel_rfl, by kernel_rfl⟩
theorem dq_f (a b m : Int) : Fits (reckon (tabOf Try.prog extY conU1 true) 300 8 [.int .u64 a, .int .u64 b, .int .i64 m] [cmp false, cmp false, cmp false, cmp false, cmp false, cmp false, cmp false]) (rdV m (prN a b) (tw (ofN (dvQ a b)) (dvM a b)) (clp (xp a - xp b - 128) - 1)) [(decide (ofN (dvQ a b)).ok, true), (okQo a b, true), (decide (U a ∧ U b), true), (cl b == 0, false), lU b, (cl b == 3, false), lU b, (cl a == 3, false), lU a, (cl a == 3, false), lU a, (cl a == 0, false), lU a, (decide (cl b > 3), false), lU b, (decide (cl a > 3), false), lU a] := ⟨by kernel_rfl, by kernel_rfl, by kernel_rfl, by kernel_rfl⟩
theorem dq_zf (a b m : Int) : Fits (reckon (tabOf Try.prog extY conU1 true) 300 8 [.int .u64 a, .int .u64 b, .int .i64 m] [cmp false, cmp false, cmp true, cmp false, cmp false, cmp false, cmp false, cmp false]) (rdV m (prN a b) (tw (ofN (dvQ a b)) (dvM a b)) (clp (xp a - xp b - 128) - 1)) [(decide (ofN (dvQ a b)).ok, true), (okQo a b, true), (decide (U a ∧ U b), true), (cl b == 0, false), lU b, (cl b == 3, false), lU b, (cl a == 3, false), lU a, (cl a == 3, false), lU a, (cl b == 0, false), lU b, (cl a == 0, true), lU a, (decide (cl b > 3), false), lU b, (decide (cl a > 3), false), lU a] := ⟨by kernel_rfl, by kernel_rfl, by kernel_rfl, by kernel_rfl⟩
theorem sq_n1 (a m : Int) : Fits (reckon (tabOf Try.prog extY conU1 true) 300 11 [.int .u64 a, .int .i64 m] [cmp true, cmp true, cmp true]) (rdT 9221120237041090560 1) [(cl a == 5, true), lU a, (decide ((0 : Int) < ((1 : Nat) : Int)), true), (decide (cl a > 3), true), lU a] := ⟨by kernel_rfl, by kernel_rfl, by kernel_rfl, by kernel_rfl⟩
theorem sq_n0 (a m : Int) : Fits (reckon (tabOf Try.prog extY conU1 true) 300 11 [.int .u64 a, .int .i64 m] [cmp true, cmp true, cmp false, cmp false]) (rdT 9221120237041090560 0) [(decide (IntKind.i64.wrap (0 + 1) < ((1 : Nat) : Int)), false), (cl a == 5, false), lU a, (decide ((0 : Int) < ((1 : Nat) : Int)), true), (decide (cl a > 3), true), lU a] := ⟨by kernel_rfl, by kernel_rfl, by kernel_rfl, by kernel_rfl⟩
theorem sq_z (a m : Int) : Fits (reckon (tabOf Try.prog extY conU1 true) 300 11 [.int .u64 a, .int .i64 m] [cmp false, cmp true]) (rdT a 0) [(cl a == 0, true), lU a, (decide (cl a > 3), false), lU a] := ⟨by kernel_rfl, by kernel_rfl, by kernel_rfl, by kernel_rfl⟩
theorem sq_m (a m : Int) : Fits (reckon (tabOf Try.prog extY conU1 true) 300 11 [.int .u64 a, .int .i64 m] [cmp false, cmp false, cmp true]) (rdT 9221120237041090560 1) [((bNot a 9223372036854775808) != a, true), (cl a == 0, false), lU a, (decide (cl a > 3), false), lU a] := ⟨by kernel_rfl, by kernel_rfl, by kernel_rfl, by kernel_rfl⟩
theorem sq_i (a m : Int) : Fits (reckon (tabOf Try.prog extY conU1 true) 300 11 [.int .u64 a, .int .i64 m] [cmp false, cmp false, cmp false, cmp true]) (rdT a 0) [(cl a == 3, true), lU a, ((bNot a 9223372036854775808) != a, false), (cl a == 0, false), lU a, (decide (cl a > 3), false), lU a] := ⟨by kernel_rfl, by kernel_rfl, by kernel_rfl, by kernel_rfl⟩
theorem sq_f (a m : Int) : Fits (reckon (tabOf Try.prog extY conU1 true) 300 11 [.int .u64 a, .int .i64 m] [cmp false, cmp false, cmp false, cmp false]) (rdV m false (tw (ofN (isq (rtX a))) (rtM a)) (clp ((xp a - rtU a) / 2) - 1)) [(decide (ofN (isq (rtX a))).ok, true), ((fun a => decide (cl a ≤ 2)) a, true), lU a, (cl a == 3, false), lU a, ((bNot a 9223372036854775808) != a, false), (cl a == 0, false), lU a, (decide (cl a > 3), false), lU a] := ⟨by kernel_rfl, by kernel_rfl, by kernel_rfl, by kernel_rfl⟩
/-- what Div answers -/
def quP (m a b : Int) : Int := if 3 < cl a ∨ 3 < cl b then 9221120237041090560 else if (cl a = 0 ∧ cl b = 0) ∨ (cl a = 3 ∧ cl b = 3) then 9221120237041090560 else if cl a = 3 then sS (prN a b) inf else if cl b = 3 then sS (prN a b) 0 else if cl b = 0 then sS (prN a b) inf else sS (prN a b) (dvP m a b)
def quF (m a b : Int) : Int := if 3 < cl a ∨ 3 < cl b then (if cl a = 5 ∨ cl b = 5 then 1 else 0) else if (cl a = 0 ∧ cl b = 0) ∨ (cl a = 3 ∧ cl b = 3) then 1 else if cl a = 3 then 0 else if cl b = 3 then 0 else if cl b = 0 then 2 else dvF m a b
theorem en_eq0 {a b : Int} (ha : U a) (hb : U b) : bOr (bNot 0 9223372036854775808) (bAnd (bXor a b) 9223372036854775808) = sS (prN a b) 0 := by
  rw [(xor_top ha hb).2]
  cases prN a b <;> decide
theorem div_calls7 (a b m : Int) (ha : U a) (hb : U b) (w : World) : Calls Try.prog 8 #[.int .u64 a, .int .u64 b, .int .i64 m] w fun r w' => r = .returned (rdT (quP m a b) (quF m a b)) ∧ Tidy w w' := by
  have hv : ([.int .u64 a, .int .u64 b, .int .i64 m].all (lt 0)) = true := rfl
  have T := tabY_ok conU1_ok
  have ka : decide (U a) = true := decide_eq_true ha
  have kb : decide (U b) = true := decide_eq_true hb
  have kab : decide (U a ∧ U b) = true := decide_eq_true ⟨ha, hb⟩
  have ba := cl_bd a
  have bb := cl_bd b
  have en := en_eq ha hb
  have en0 := en_eq0 ha hb
  unfold quP quF
  by_cases ha3 : 3 < cl a
  · rw [if_pos (.inl ha3), if_pos (.inl ha3)]
    by_cases a5 : cl a = 5
    · rw [if_pos (.inl a5)]
      exact fits_calls T (dq_n1 a b m) (okCons (beq_t (by omega)) (okCons ka (okCons (by decide) (okCons (decide_eq_true (by omega)) (okL1 ka))))) hv (by rfl) w
    · by_cases b5 : cl b = 5
      · rw [if_pos (.inr b5)]
        exact fits_calls T (dq_n2 a b m) (okCons (beq_t (by omega)) (okCons kb (okCons (by decide) (okCons (beq_f (by omega)) (okCons ka (okCons (by decide) (okCons (decide_eq_true (by omega)) (okL1 ka)))))))) hv (by rfl) w
      · rw [if_neg (by omega)]
        exact fits_calls T (dq_n3 a b m) (okCons (by decide) (okCons (beq_f (by omega)) (okCons kb (okCons (by decide) (okCons (beq_f (by omega)) (okCons ka (okCons (by decide) (okCons (decide_eq_true (by omega)) (okL1 ka))))))))) hv (by rfl) w
  · by_cases hb3 : 3 < cl b
    · rw [if_pos (.inr hb3), if_pos (.inr hb3)]
      by_cases b5 : cl b = 5
      · rw [if_pos (.inr b5)]
        exact fits_calls T (dq_m2 a b m) (okCons (beq_t (by omega)) (okCons kb (okCons (by decide) (okCons (beq_f (by omega)) (okCons ka (okCons (by decide) (okCons (decide_eq_true (by omega)) (okCons kb (okCons (decide_eq_false (by omega)) (okL1 ka)))))))))) hv (by rfl) w
      · rw [if_neg (by omega)]
        exact fits_calls T (dq_m3 a b m) (okCons (by decide) (okCons (beq_f (by omega)) (okCons kb (okCons (by decide) (okCons (beq_f (by omega)) (okCons ka (okCons (by decide) (okCons (decide_eq_true (by omega)) (okCons kb (okCons (decide_eq_false (by omega)) (okL1 ka))))))))))) hv (by rfl) w
    · have hno : ¬ (3 < cl a ∨ 3 < cl b) := by omega
      rw [if_neg hno, if_neg hno]
      by_cases az : cl a = 0
      · by_cases bz : cl b = 0
        · rw [if_pos (.inl ⟨az, bz⟩), if_pos (.inl ⟨az, bz⟩)]
          exact fits_calls T (dq_zz a b m) (okCons (beq_t (by omega)) (okCons kb (okCons (beq_t (by omega)) (okCons ka (okCons (decide_eq_false (by omega)) (okCons kb (okCons (decide_eq_false (by omega)) (okL1 ka)))))))) hv (by rfl) w
        · have hn2 : ¬ ((cl a = 0 ∧ cl b = 0) ∨ (cl a = 3 ∧ cl b = 3)) := by omega
          have a3 : ¬ cl a = 3 := by omega
          rw [if_neg hn2, if_neg hn2, if_neg a3, if_neg a3]
          by_cases b3 : cl b = 3
          · rw [if_pos b3, if_pos b3, ← en0]
            exact fits_calls T (dq_zb a b m) (okCons (beq_t (by omega)) (okCons kb (okCons (beq_f (by omega)) (okCons ka (okCons (beq_f (by omega)) (okCons ka (okCons (beq_f (by omega)) (okCons kb (okCons (beq_t (by omega)) (okCons ka (okCons (decide_eq_false (by omega)) (okCons kb (okCons (decide_eq_false (by omega)) (okL1 ka)))))))))))))) hv (by rfl) w
          · rw [if_neg b3, if_neg b3, if_neg bz, if_neg bz]
            have hf := dq_zf a b m
            rw [dv_round] at hf
            exact fits_calls T hf (okCons (decide_eq_true (ofN_ok _)) (okCons (decide_eq_true ⟨by omega, by omega, by omega⟩) (okCons kab (okCons (beq_f (by omega)) (okCons kb (okCons (beq_f (by omega)) (okCons kb (okCons (beq_f (by omega)) (okCons ka (okCons (beq_f (by omega)) (okCons ka (okCons (beq_f (by omega)) (okCons kb (okCons (beq_t (by omega)) (okCons ka (okCons (decide_eq_false (by omega)) (okCons kb (okCons (decide_eq_false (by omega)) (okL1 ka))))))))))))))))))) hv (by rfl) w
      · by_cases a3 : cl a = 3
        · by_cases b3 : cl b = 3
          · rw [if_pos (.inr ⟨a3, b3⟩), if_pos (.inr ⟨a3, b3⟩)]
            exact fits_calls T (dq_ii a b m) (okCons (beq_t (by omega)) (okCons kb (okCons (beq_t (by omega)) (okCons ka (okCons (beq_f (by omega)) (okCons ka (okCons (decide_eq_false (by omega)) (okCons kb (okCons (decide_eq_false (by omega)) (okL1 ka)))))))))) hv (by rfl) w
          · have hn2 : ¬ ((cl a = 0 ∧ cl b = 0) ∨ (cl a = 3 ∧ cl b = 3)) := by omega
            rw [if_neg hn2, if_neg hn2, if_pos a3, if_pos a3, ← en]
            exact fits_calls T (dq_ia a b m) (okCons (beq_t (by omega)) (okCons ka (okCons (beq_f (by omega)) (okCons kb (okCons (beq_t (by omega)) (okCons ka (okCons (beq_f (by omega)) (okCons ka (okCons (decide_eq_false (by omega)) (okCons kb (okCons (decide_eq_false (by omega)) (okL1 ka)))))))))))) hv (by rfl) w
        · have hn2 : ¬ ((cl a = 0 ∧ cl b = 0) ∨ (cl a = 3 ∧ cl b = 3)) := by omega
          rw [if_neg hn2, if_neg hn2, if_neg a3, if_neg a3]
          by_cases b3 : cl b = 3
          · rw [if_pos b3, if_pos b3, ← en0]
            exact fits_calls T (dq_ib a b m) (okCons (beq_t (by omega)) (okCons kb (okCons (beq_f (by omega)) (okCons ka (okCons (beq_f (by omega)) (okCons ka (okCons (beq_f (by omega)) (okCons ka (okCons (decide_eq_false (by omega)) (okCons kb (okCons (decide_eq_false (by omega)) (okL1 ka)))))))))))) hv (by rfl) w
          · rw [if_neg b3, if_neg b3]
            by_cases bz : cl b = 0
            · rw [if_pos bz, if_pos bz, ← en]
              exact fits_calls T (dq_bz a b m) (okCons (beq_t (by omega)) (okCons kb (okCons (beq_f (by omega)) (okCons kb (okCons (beq_f (by omega)) (okCons ka (okCons (beq_f (by omega)) (okCons ka (okCons (beq_f (by omega)) (okCons ka (okCons (decide_eq_false (by omega)) (okCons kb (okCons (decide_eq_false (by omega)) (okL1 ka)))))))))))))) hv (by rfl) w
            · rw [if_neg bz, if_neg bz]
              have hf := dq_f a b m
              rw [dv_round] at hf
              exact fits_calls T hf (okCons (decide_eq_true (ofN_ok _)) (okCons (decide_eq_true ⟨by omega, by omega, by omega⟩) (okCons kab (okCons (beq_f (by omega)) (okCons kb (okCons (beq_f (by omega)) (okCons kb (okCons (beq_f (by omega)) (okCons ka (okCons (beq_f (by omega)) (okCons ka (okCons (beq_f (by omega)) (okCons ka (okCons (decide_eq_false (by omega)) (okCons kb (okCons (decide_eq_false (by omega)) (okL1 ka))))))))))))))))) hv (by rfl) w
def gQD : Ans := fun vals s =>
  match vals with
  | [.int .u64 a, .int .u64 b, .int .i64 m] => some (rdT (quP m a b) (quF m a b), s, [(decide (U a ∧ U b), true)])
  | _ => none
theorem gQD_ok : AnsOk 8 gQD := by
  intro vals s v s' lg h hl w
  unfold gQD at h
  split at h
  · cases h
    obtain ⟨h1, h2⟩ := of_decide_eq_true (hl _ (List.mem_singleton.2 rfl))
    exact div_calls7 _ _ _ h1 h2 w
  · cases h
/-- what Sqrt answers -/
def sqP (m a : Int) : Int := if 3 < cl a then 9221120237041090560 else if cl a = 0 then a else if sgn a = true then 9221120237041090560 else if cl a = 3 then a else rtP m a
def sqF (m a : Int) : Int := if 3 < cl a then (if cl a = 5 then 1 else 0) else if cl a = 0 then 0 else if sgn a = true then 1 else if cl a = 3 then 0 else rtF m a
theorem sqrt_calls7 (a m : Int) (ha : U a) (w : World) : Calls Try.prog 11 #[.int .u64 a, .int .i64 m] w fun r w' => r = .returned (rdT (sqP m a) (sqF m a)) ∧ Tidy w w' := by
  have hv : ([.int .u64 a, .int .i64 m].all (lt 0)) = true := rfl
  have T := tabY_ok conU1_ok
  have ka : decide (U a) = true := decide_eq_true ha
  have ba := cl_bd a
  have hn := bNot_sign ha
  unfold sqP sqF
  by_cases ha3 : 3 < cl a
  · rw [if_pos ha3, if_pos ha3]
    by_cases a5 : cl a = 5
    · rw [if_pos a5]
      exact fits_calls T (sq_n1 a m) (okCons (beq_t (by omega)) (okCons ka (okCons (by decide) (okCons (decide_eq_true (by omega)) (okL1 ka))))) hv (by rfl) w
    · rw [if_neg a5]
      exact fits_calls T (sq_n0 a m) (okCons (by decide) (okCons (beq_f (by omega)) (okCons ka (okCons (by decide) (okCons (decide_eq_true (by omega)) (okL1 ka)))))) hv (by rfl) w
  · rw [if_neg ha3, if_neg ha3]
    by_cases az : cl a = 0
    · rw [if_pos az, if_pos az]
      exact fits_calls T (sq_z a m) (okCons (beq_t (by omega)) (okCons ka (okCons (decide_eq_false (by omega)) (okL1 ka)))) hv (by rfl) w
    · rw [if_neg az, if_neg az]
      by_cases sa : sgn a = true
      · rw [if_pos sa, if_pos sa]
        have h9 : 9223372036854775808 ≤ a := of_decide_eq_true sa
        have hm : bNot a 9223372036854775808 ≠ a := by rw [hn]; omega
        exact fits_calls T (sq_m a m) (okCons (bne_t hm) (okCons (beq_f (by omega)) (okCons ka (okCons (decide_eq_false (by omega)) (okL1 ka))))) hv (by rfl) w
      · rw [if_neg sa, if_neg sa]
        have h9 : ¬ 9223372036854775808 ≤ a := fun h => sa (decide_eq_true h)
        have hm : bNot a 9223372036854775808 = a := by have := ha.1; rw [hn]; omega
        by_cases a3 : cl a = 3
        · rw [if_pos a3, if_pos a3]
          exact fits_calls T (sq_i a m) (okCons (beq_t (by omega)) (okCons ka (okCons (bne_f hm) (okCons (beq_f (by omega)) (okCons ka (okCons (decide_eq_false (by omega)) (okL1 ka))))))) hv (by rfl) w
        · rw [if_neg a3, if_neg a3]
          have hf := sq_f a m
          rw [rt_round] at hf
          exact fits_calls T hf (okCons (decide_eq_true (ofN_ok _)) (okCons (decide_eq_true (show cl a ≤ 2 by omega)) (okCons ka (okCons (beq_f (by omega)) (okCons ka (okCons (bne_f hm) (okCons (beq_f (by omega)) (okCons ka (okCons (decide_eq_false (by omega)) (okL1 ka)))))))))) hv (by rfl) w
def gQS : Ans := fun vals s =>
  match vals with
  | [.int .u64 a, .int .i64 m] => some (rdT (sqP m a) (sqF m a), s, [(decide (U a), true)])
  | _ => none
theorem gQS_ok : AnsOk 11 gQS := by
  intro vals s v s' lg h hl w
  unfold gQS at h
  split at h
  · cases h
    exact sqrt_calls7 _ _ (of_decide_eq_true (hl _ (List.mem_singleton.2 rfl))) w
  · cases h
/-! ### the law's own 'sure' -/
def conU2 : Con := alt 8 gQD (alt 11 gQS conN)
theorem conU2_ok : ConOk conU2 := alt_ok Try.func8 rfl gQD_ok (alt_ok Try.func11 rfl gQS_ok conN_ok)
theorem sure7_n : quP 0 4607182418800017408 4613937818241073152 = 4599676419421066581 ∧ quF 0 4607182418800017408 4613937818241073152 = 16 ∧ sqP 0 4611686018427387904 = 4609047870845172685 ∧ sqF 0 4611686018427387904 = 16 := ⟨by kernel_rfl, by kernel_rfl, by kernel_rfl, by kernel_rfl⟩
theorem sure7 : Fits (reckon (tabOf Try.prog extY conU2 true) 300 10 [] [cmp true, cmp true, cmp true, cmp true]) (.bool true) [(sqF 0 4611686018427387904 == 16, true), (sqP 0 4611686018427387904 == 4609047870845172685, true), (quF 0 4607182418800017408 4613937818241073152 == 16, true), (quP 0 4607182418800017408 4613937818241073152 == 4599676419421066581, true), (decide (U 4611686018427387904), true), (decide (U 4607182418800017408 ∧ U 4613937818241073152), true)] := ⟨by kernel_rfl, by kernel_rfl, by kernel_rfl, by kernel_rfl⟩
def gSure7 : Ans := fun vals s => match vals with | [] => some (.bool true, s, []) | _ => none
theorem gSure7_ok : AnsOk 10 gSure7 := by
  intro vals s v s' lg h hl w
  unfold gSure7 at h
  split at h
  · cases h
    obtain ⟨n1, n2, n3, n4⟩ := sure7_n
    exact fits_calls (tabY_ok conU2_ok) sure7 (okCons (beq_t n4) (okCons (beq_t n3) (okCons (beq_t n2) (okCons (beq_t n1) (okCons (by decide) (okL1 (by decide))))))) (by rfl) (by rfl) w
  · cases h
def conS7 : Con := alt 10 gSure7 conU2
theorem conS7_ok : ConOk conS7 := alt_ok Try.func10 rfl gSure7_ok conU2_ok
end Go.Proofs.Ytnolcojnodoecaa

/-
  The document's Sqrt (tillerref07), bit by bit, as a call in every world.
-/
namespace Go.Proofs.Ytnolcojnodoecaa
open Go.KRun Go.Nt Go.Wd Go.Pt Go.Rn
set_option maxRecDepth 100000

/-- values of the world's own -/
def ownT (v : Nat → Value) (i : Nat) : Value := .iface dead (v i)
theorem RunsW.own {T : Tab} {c : Code} {P : Ex → Lf → Prop} {front : List Value} {n : Nat} {h : Hp} {s s' : List Dec} {g : Nat → Value} (h0 : 0 < h.n) (hr : ∀ v : Nat → Value, RunsW T c (front ++ tl n (ownT v), h, s') P) : RunsW T c (front ++ tl n g, h, s) P := by
  intro m B a w R Q hQ
  have ltd : ∀ v : Value, lt h.n (Value.iface dead v) = true := fun v => by simp [lt, lt2, lt1, h0]
  have mvd : ∀ v : Value, mv m (Value.iface dead (mv m v)) = mv m v := fun v => by simp [mv, mv2, mv1]
  refine hr (fun i => mv m (g i)) m B a w ⟨?_, R.dfr, R.emb, fun v hv => ?_⟩ Q hQ
  · rw [R.tmps]
    simp only [List.map_append, tl, List.map_map]
    congr 2
  · rcases List.mem_append.1 hv with hv | hv
    · exact R.wf v (List.mem_append_left _ hv)
    · obtain ⟨i, _, rfl⟩ := List.mem_map.1 hv
      exact ltd _
def sn7 (k : Nat) (F : Func) : Code := match k with | 0 => cBody F | k + 1 => cSnd (sn7 k F)
def sP7 (F : Func) : List Code := [cFst (sn7 0 F), cFst (sn7 1 F), cFst (sn7 2 F), cFst (sn7 3 F), cFst (sn7 4 F), cFst (sn7 5 F), cFst (sn7 6 F), cFst (sn7 7 F), cFst (sn7 8 F), cFst (sn7 9 F)]
def sI7 (F : Func) : Code := cFst (cFst (sn7 10 F))
def sL7 (F : Func) : Code := cIn (cIn (cSnd (cFst (sn7 10 F))))
def sE7 (F : Func) : Code := sn7 11 F
theorem s7_body : Try.f12.body = some (seqs (sP7 Try.f12) (.seq (.seq (sI7 Try.f12) (.block 0 (.loop (sL7 Try.f12)))) (sE7 Try.f12))) := by kernel_rfl
def sB7 (a m B : Int) (X : Nat) (s : Value) : List Value := [.int .u64 a, .int .i64 m, .tuple #[], .tuple #[], .int .u64 0, .int .i64 0, .pointer (some ⟨0, 0, none⟩), .int .i64 B, sOf 2 X, s]
def sF7 (a m B : Int) (X : Nat) (s : Value) (i : Int) : List Value := [.int .u64 a, .int .i64 m, .tuple #[], .tuple #[], .int .u64 0, .int .i64 0, .pointer (some ⟨0, 0, none⟩), .int .i64 B, sOf 2 X, s, .int .i64 i]
def Lb7 (a : Int) (X : Nat) : List (List Value × TypeId) := [w16 X, w16 (sg a).toNat, bPt a]
def N3 (a : Int) (X : Nat) : Hp := ⟨3, Lb7 a X⟩
def N4 (a : Int) (X J : Nat) : Hp := ⟨4, w16 J :: Lb7 a X⟩
def N2 (a : Int) : Hp := ⟨2, [w16 (sg a).toNat, bPt a]⟩
def i0 (a : Int) (X : Nat) : Int := IntKind.i64.wrap (IntKind.i64.wrap (((bl (vO (N3 a X) (aP16 2) (d16 X).length) : Nat) : Int).tdiv 2) + 1)
def okLn (h : Hp) (p : Option Addr) (n c : Nat) : Bool := rowP h p n c && canB (rowOf h p n) && Nat.blt n 1073741824
theorem s7_e (a m : Int) (X : Nat) : GoesT (evL (tabH Try.prog extY conR7 hcTq) 300 (sP7 Try.f12) ([.int .u64 a, .int .i64 m] ++ List.replicate 86 undef, ⟨0, []⟩, [cmp false, cmp false, tst false, tst false, cmp false, cmp false, cmp false, cmp true, num X]) ⟨[], [], []⟩) 10 78 none (sB7 a m 140 X nilS) (N3 a X) [(decide (vO (N2 a) (aP16 1) (d16 (sg a).toNat).length * 2 ^ (140 : Int).toNat = X), true), (okSh (N2 a) (aP16 1) (d16 (sg a).toNat).length (d16 (sg a).toNat).length 140, true), (decide (0 < (d16 (sg a).toNat).length), true), (decide (0 ≤ sg a ∧ sg a < 18446744073709551616), true), ((IntKind.i64.wrap (xp a - 140)).tmod 2 != 0, false), (decide ((2 : Int) = 0), false), (cl a == 3, false), (sgn a, false), (false, false), (cl a == 0, false), (decide (cl a > 3), false), lU a, lU a] := ⟨by kernel_rfl, by kernel_rfl, by kernel_rfl⟩
theorem s7_o (a m : Int) (X : Nat) : GoesT (evL (tabH Try.prog extY conR7 hcTq) 300 (sP7 Try.f12) ([.int .u64 a, .int .i64 m] ++ List.replicate 86 undef, ⟨0, []⟩, [cmp false, cmp false, tst false, tst false, cmp false, cmp false, cmp true, cmp true, num X]) ⟨[], [], []⟩) 10 78 none (sB7 a m (IntKind.i64.wrap (140 + 1)) X nilS) (N3 a X) [(decide (vO (N2 a) (aP16 1) (d16 (sg a).toNat).length * 2 ^ (IntKind.i64.wrap (140 + 1)).toNat = X), true), (okSh (N2 a) (aP16 1) (d16 (sg a).toNat).length (d16 (sg a).toNat).length (IntKind.i64.wrap (140 + 1)), true), (decide (0 < (d16 (sg a).toNat).length), true), (decide (0 ≤ sg a ∧ sg a < 18446744073709551616), true), ((IntKind.i64.wrap (xp a - 140)).tmod 2 != 0, true), (decide ((2 : Int) = 0), false), (cl a == 3, false), (sgn a, false), (false, false), (cl a == 0, false), (decide (cl a > 3), false), lU a, lU a] := ⟨by kernel_rfl, by kernel_rfl, by kernel_rfl⟩
theorem s7_i (a m B : Int) (X : Nat) (s : Value) (g : Nat → Value) : GoesT (evC (tabH Try.prog extY conR7 hcTq) 300 false (sI7 Try.f12) (sB7 a m B X s ++ tl 78 g, N3 a X, []) ⟨[], [], []⟩) 11 77 none (sF7 a m B X s (i0 a X)) (N3 a X) [(okLn (N3 a X) (aP16 2) (d16 X).length (d16 X).length, true)] := ⟨by kernel_rfl, by kernel_rfl, by kernel_rfl⟩
theorem s7_r0 (a m B i c : Int) (X P T Q : Nat) (g : Nat → Value) : GoesT (evC (tabH Try.prog extY conR7 hcTq) 300 false (sL7 Try.f12) (sF7 a m B X nilS i ++ tl 77 g, (N3 a X), [cmp true, cmp true, num P, cmp true, num T, num Q, num c, cmp false]) ⟨[], [], []⟩) 11 77 none (sF7 a m B X nilS (IntKind.i64.wrap (i - 1))) (nxt (nxt (nxt (nxt (N3 a X) 1) P) T) Q) [(decide (c ≤ 0), false), (decide (cmpZ (vO (nxt (nxt (nxt (nxt (N3 a X) 1) P) T) Q) (aP16 6) (d16 Q).length) (vO (nxt (nxt (nxt (nxt (N3 a X) 1) P) T) Q) (aP16 2) (d16 X).length) = c), true), (two16 (nxt (nxt (nxt (nxt (N3 a X) 1) P) T) Q) (aP16 6) (aP16 2) (d16 Q).length (d16 Q).length (d16 X).length (d16 X).length, true), (decide (vO (nxt (nxt (nxt (N3 a X) 1) P) T) (aP16 5) (d16 T).length * vO (nxt (nxt (nxt (N3 a X) 1) P) T) (aP16 5) (d16 T).length = Q), true), (okMu (nxt (nxt (nxt (N3 a X) 1) P) T) (aP16 5) (aP16 5) (d16 T).length (d16 T).length (d16 T).length (d16 T).length, true), (decide (vO (nxt (nxt (N3 a X) 1) P) none 0 + vO (nxt (nxt (N3 a X) 1) P) (aP16 4) (d16 P).length = T), true), (two16 (nxt (nxt (N3 a X) 1) P) none (aP16 4) 0 0 (d16 P).length (d16 P).length, true), (decide (0 < 0 ∨ 0 < (d16 P).length), true), (decide (vO (nxt (N3 a X) 1) (aP16 3) (d16 1).length * 2 ^ i.toNat = P), true), (okSh (nxt (N3 a X) 1) (aP16 3) (d16 1).length (d16 1).length i, true), (decide (0 < (d16 1).length), true), (decide (0 ≤ (1 : Int) ∧ (1 : Int) < 18446744073709551616), true), (decide (i ≥ 0), true)] := ⟨by kernel_rfl, by kernel_rfl, by kernel_rfl⟩
theorem s7_r1 (a m B i c : Int) (X P T Q J : Nat) (g : Nat → Value) : GoesT (evC (tabH Try.prog extY conR7 hcTq) 300 false (sL7 Try.f12) (sF7 a m B X nilS i ++ tl 77 g, (N4 a X J), [cmp true, cmp true, num P, cmp true, num T, num Q, num c, cmp false]) ⟨[], [], []⟩) 11 77 none (sF7 a m B X nilS (IntKind.i64.wrap (i - 1))) (nxt (nxt (nxt (nxt (N4 a X J) 1) P) T) Q) [(decide (c ≤ 0), false), (decide (cmpZ (vO (nxt (nxt (nxt (nxt (N4 a X J) 1) P) T) Q) (aP16 7) (d16 Q).length) (vO (nxt (nxt (nxt (nxt (N4 a X J) 1) P) T) Q) (aP16 2) (d16 X).length) = c), true), (two16 (nxt (nxt (nxt (nxt (N4 a X J) 1) P) T) Q) (aP16 7) (aP16 2) (d16 Q).length (d16 Q).length (d16 X).length (d16 X).length, true), (decide (vO (nxt (nxt (nxt (N4 a X J) 1) P) T) (aP16 6) (d16 T).length * vO (nxt (nxt (nxt (N4 a X J) 1) P) T) (aP16 6) (d16 T).length = Q), true), (okMu (nxt (nxt (nxt (N4 a X J) 1) P) T) (aP16 6) (aP16 6) (d16 T).length (d16 T).length (d16 T).length (d16 T).length, true), (decide (vO (nxt (nxt (N4 a X J) 1) P) none 0 + vO (nxt (nxt (N4 a X J) 1) P) (aP16 5) (d16 P).length = T), true), (two16 (nxt (nxt (N4 a X J) 1) P) none (aP16 5) 0 0 (d16 P).length (d16 P).length, true), (decide (0 < 0 ∨ 0 < (d16 P).length), true), (decide (vO (nxt (N4 a X J) 1) (aP16 4) (d16 1).length * 2 ^ i.toNat = P), true), (okSh (nxt (N4 a X J) 1) (aP16 4) (d16 1).length (d16 1).length i, true), (decide (0 < (d16 1).length), true), (decide (0 ≤ (1 : Int) ∧ (1 : Int) < 18446744073709551616), true), (decide (i ≥ 0), true)] := ⟨by kernel_rfl, by kernel_rfl, by kernel_rfl⟩
theorem s7_r2 (a m B i c : Int) (X P T Q J : Nat) (g : Nat → Value) : GoesT (evC (tabH Try.prog extY conR7 hcTq) 300 false (sL7 Try.f12) (sF7 a m B X nilS i ++ tl 77 g, (N4 a X J), [cmp true, cmp true, num P, cmp true, num T, num Q, num c, cmp true]) ⟨[], [], []⟩) 11 77 none (sF7 a m B X (sOf 6 T) (IntKind.i64.wrap (i - 1))) (nxt (nxt (nxt (nxt (N4 a X J) 1) P) T) Q) [(decide (c ≤ 0), true), (decide (cmpZ (vO (nxt (nxt (nxt (nxt (N4 a X J) 1) P) T) Q) (aP16 7) (d16 Q).length) (vO (nxt (nxt (nxt (nxt (N4 a X J) 1) P) T) Q) (aP16 2) (d16 X).length) = c), true), (two16 (nxt (nxt (nxt (nxt (N4 a X J) 1) P) T) Q) (aP16 7) (aP16 2) (d16 Q).length (d16 Q).length (d16 X).length (d16 X).length, true), (decide (vO (nxt (nxt (nxt (N4 a X J) 1) P) T) (aP16 6) (d16 T).length * vO (nxt (nxt (nxt (N4 a X J) 1) P) T) (aP16 6) (d16 T).length = Q), true), (okMu (nxt (nxt (nxt (N4 a X J) 1) P) T) (aP16 6) (aP16 6) (d16 T).length (d16 T).length (d16 T).length (d16 T).length, true), (decide (vO (nxt (nxt (N4 a X J) 1) P) none 0 + vO (nxt (nxt (N4 a X J) 1) P) (aP16 5) (d16 P).length = T), true), (two16 (nxt (nxt (N4 a X J) 1) P) none (aP16 5) 0 0 (d16 P).length (d16 P).length, true), (decide (0 < 0 ∨ 0 < (d16 P).length), true), (decide (vO (nxt (N4 a X J) 1) (aP16 4) (d16 1).length * 2 ^ i.toNat = P), true), (okSh (nxt (N4 a X J) 1) (aP16 4) (d16 1).length (d16 1).length i, true), (decide (0 < (d16 1).length), true), (decide (0 ≤ (1 : Int) ∧ (1 : Int) < 18446744073709551616), true), (decide (i ≥ 0), true)] := ⟨by kernel_rfl, by kernel_rfl, by kernel_rfl⟩
theorem s7_r3 (a m B i c : Int) (X P T Q J : Nat) (g : Nat → Value) : GoesT (evC (tabH Try.prog extY conR7 hcTq) 300 false (sL7 Try.f12) (sF7 a m B X (sOf 3 J) i ++ tl 77 g, (N4 a X J), [cmp true, cmp true, num P, cmp true, num T, num Q, num c, cmp false]) ⟨[], [], []⟩) 11 77 none (sF7 a m B X (sOf 3 J) (IntKind.i64.wrap (i - 1))) (nxt (nxt (nxt (nxt (N4 a X J) 1) P) T) Q) [(decide (c ≤ 0), false), (decide (cmpZ (vO (nxt (nxt (nxt (nxt (N4 a X J) 1) P) T) Q) (aP16 7) (d16 Q).length) (vO (nxt (nxt (nxt (nxt (N4 a X J) 1) P) T) Q) (aP16 2) (d16 X).length) = c), true), (two16 (nxt (nxt (nxt (nxt (N4 a X J) 1) P) T) Q) (aP16 7) (aP16 2) (d16 Q).length (d16 Q).length (d16 X).length (d16 X).length, true), (decide (vO (nxt (nxt (nxt (N4 a X J) 1) P) T) (aP16 6) (d16 T).length * vO (nxt (nxt (nxt (N4 a X J) 1) P) T) (aP16 6) (d16 T).length = Q), true), (okMu (nxt (nxt (nxt (N4 a X J) 1) P) T) (aP16 6) (aP16 6) (d16 T).length (d16 T).length (d16 T).length (d16 T).length, true), (decide (vO (nxt (nxt (N4 a X J) 1) P) (aP16 3) (d16 J).length + vO (nxt (nxt (N4 a X J) 1) P) (aP16 5) (d16 P).length = T), true), (two16 (nxt (nxt (N4 a X J) 1) P) (aP16 3) (aP16 5) (d16 J).length (d16 J).length (d16 P).length (d16 P).length, true), (decide (0 < (d16 J).length ∨ 0 < (d16 P).length), true), (decide (vO (nxt (N4 a X J) 1) (aP16 4) (d16 1).length * 2 ^ i.toNat = P), true), (okSh (nxt (N4 a X J) 1) (aP16 4) (d16 1).length (d16 1).length i, true), (decide (0 < (d16 1).length), true), (decide (0 ≤ (1 : Int) ∧ (1 : Int) < 18446744073709551616), true), (decide (i ≥ 0), true)] := ⟨by kernel_rfl, by kernel_rfl, by kernel_rfl⟩
theorem s7_r4 (a m B i c : Int) (X P T Q J : Nat) (g : Nat → Value) : GoesT (evC (tabH Try.prog extY conR7 hcTq) 300 false (sL7 Try.f12) (sF7 a m B X (sOf 3 J) i ++ tl 77 g, (N4 a X J), [cmp true, cmp true, num P, cmp true, num T, num Q, num c, cmp true]) ⟨[], [], []⟩) 11 77 none (sF7 a m B X (sOf 6 T) (IntKind.i64.wrap (i - 1))) (nxt (nxt (nxt (nxt (N4 a X J) 1) P) T) Q) [(decide (c ≤ 0), true), (decide (cmpZ (vO (nxt (nxt (nxt (nxt (N4 a X J) 1) P) T) Q) (aP16 7) (d16 Q).length) (vO (nxt (nxt (nxt (nxt (N4 a X J) 1) P) T) Q) (aP16 2) (d16 X).length) = c), true), (two16 (nxt (nxt (nxt (nxt (N4 a X J) 1) P) T) Q) (aP16 7) (aP16 2) (d16 Q).length (d16 Q).length (d16 X).length (d16 X).length, true), (decide (vO (nxt (nxt (nxt (N4 a X J) 1) P) T) (aP16 6) (d16 T).length * vO (nxt (nxt (nxt (N4 a X J) 1) P) T) (aP16 6) (d16 T).length = Q), true), (okMu (nxt (nxt (nxt (N4 a X J) 1) P) T) (aP16 6) (aP16 6) (d16 T).length (d16 T).length (d16 T).length (d16 T).length, true), (decide (vO (nxt (nxt (N4 a X J) 1) P) (aP16 3) (d16 J).length + vO (nxt (nxt (N4 a X J) 1) P) (aP16 5) (d16 P).length = T), true), (two16 (nxt (nxt (N4 a X J) 1) P) (aP16 3) (aP16 5) (d16 J).length (d16 J).length (d16 P).length (d16 P).length, true), (decide (0 < (d16 J).length ∨ 0 < (d16 P).length), true), (decide (vO (nxt (N4 a X J) 1) (aP16 4) (d16 1).length * 2 ^ i.toNat = P), true), (okSh (nxt (N4 a X J) 1) (aP16 4) (d16 1).length (d16 1).length i, true), (decide (0 < (d16 1).length), true), (decide (0 ≤ (1 : Int) ∧ (1 : Int) < 18446744073709551616), true), (decide (i ≥ 0), true)] := ⟨by kernel_rfl, by kernel_rfl, by kernel_rfl⟩
theorem s7_x (a m B i : Int) (X J : Nat) (s : Value) (g : Nat → Value) : GoesT (evC (tabH Try.prog extY conR7 hcTq) 300 false (sL7 Try.f12) (sF7 a m B X s i ++ tl 77 g, N4 a X J, [cmp false]) ⟨[], [], []⟩) 11 77 (some (some 0)) (sF7 a m B X s i) (N4 a X J) [(decide (i ≥ 0), false)] := ⟨by kernel_rfl, by kernel_rfl, by kernel_rfl⟩
def O5 (a : Int) (X J : Nat) : Hp := ⟨5, bOf false 0 nilS :: w16 J :: Lb7 a X⟩
def O6 (a B : Int) (X J S : Nat) : Hp := ⟨6, bOf false (IntKind.i64.wrap (IntKind.i64.wrap ((IntKind.i64.wrap (xp a - B)).tdiv 2) - 1)) (sOf 4 S) :: w16 S :: w16 J :: Lb7 a X⟩
def O7 (a B : Int) (X J S Q : Nat) : Hp := ⟨7, w16 Q :: bOf false (IntKind.i64.wrap (IntKind.i64.wrap ((IntKind.i64.wrap (xp a - B)).tdiv 2) - 1)) (sOf 4 S) :: w16 S :: w16 J :: Lb7 a X⟩
def O8 (a B : Int) (X J S Q : Nat) : Hp := ⟨8, w16 1 :: w16 Q :: bOf false (IntKind.i64.wrap (IntKind.i64.wrap ((IntKind.i64.wrap (xp a - B)).tdiv 2) - 1)) (sOf 4 S) :: w16 S :: w16 J :: Lb7 a X⟩
def O9 (a B : Int) (X J S Q T : Nat) : Hp := ⟨9, w16 T :: w16 1 :: w16 Q :: bOf false (IntKind.i64.wrap (IntKind.i64.wrap ((IntKind.i64.wrap (xp a - B)).tdiv 2) - 1)) (sOf 8 T) :: w16 S :: w16 J :: Lb7 a X⟩
theorem s7_e0 (a m B i c : Int) (X J S Q : Nat) (g : Nat → Value) : GoesT (evC (tabH Try.prog extY conR7 hcTq) 300 false (sE7 Try.f12) (sF7 a m B X (sOf 3 J) i ++ tl 77 (ownT g), N4 a X J, [at_, num 1, at_, num 2, at_, num 7, num 2, cmp true, num S, num 70, num 12, num Q, num c, cmp false, num S]) ⟨[], [], []⟩) 6 82 (some none) [.int .u64 a, .int .i64 m, .tuple #[], .tuple #[], .int .u64 (sS false (rnP m false S (IntKind.i64.wrap (IntKind.i64.wrap ((IntKind.i64.wrap (xp a - B)).tdiv 2) - 1)))), .int .i64 (rnF m false S (IntKind.i64.wrap (IntKind.i64.wrap ((IntKind.i64.wrap (xp a - B)).tdiv 2) - 1)))] (O7 a B X J S Q) [(decide (vO (O7 a B X J S Q) (aP16 4) (d16 S).length = S), true), (okRo (O7 a B X J S Q) (aP16 4) (d16 S).length (d16 S).length (IntKind.i64.wrap (IntKind.i64.wrap ((IntKind.i64.wrap (xp a - B)).tdiv 2) - 1)), true), (c != 0, false), (decide (cmpZ (vO (O7 a B X J S Q) (aP16 6) (d16 Q).length) (vO (O7 a B X J S Q) (aP16 2) (d16 X).length) = c), true), (two16 (O7 a B X J S Q) (aP16 6) (aP16 2) (d16 Q).length (d16 Q).length (d16 X).length (d16 X).length, true), (decide (vO (O6 a B X J S) (aP16 3) (d16 J).length * vO (O6 a B X J S) (aP16 3) (d16 J).length = Q), true), (okMu (O6 a B X J S) (aP16 3) (aP16 3) (d16 J).length (d16 J).length (d16 J).length (d16 J).length, true), ((wU (d16 S)).all calm1, true), ((wU (d16 J)).all calm1, true), ((wU (d16 X)).all calm1, true), ((wU (d16 (sg a).toNat)).all calm1, true), (decide (vO (O5 a X J) (aP16 3) (d16 J).length * 2 ^ (1 : Int).toNat = S), true), (okSh (O5 a X J) (aP16 3) (d16 J).length (d16 J).length 1, true), (decide (0 < (d16 J).length), true), (decide (vO (N4 a X J) (aP16 3) (d16 J).length * 2 ^ (1 : Int).toNat = S), true), (okSh (N4 a X J) (aP16 3) (d16 J).length (d16 J).length 1, true), (decide (0 < (d16 J).length), true)] := ⟨by kernel_rfl, by kernel_rfl, by kernel_rfl⟩
theorem s7_e1 (a m B i c : Int) (X J S Q T : Nat) (g : Nat → Value) : GoesT (evC (tabH Try.prog extY conR7 hcTq) 300 false (sE7 Try.f12) (sF7 a m B X (sOf 3 J) i ++ tl 77 (ownT g), N4 a X J, [at_, num 1, at_, num 2, at_, num 7, num 2, cmp true, num S, num 70, num 12, num Q, num c, cmp true, cmp true, num T, num T]) ⟨[], [], []⟩) 6 82 (some none) [.int .u64 a, .int .i64 m, .tuple #[], .tuple #[], .int .u64 (sS false (rnP m false T (IntKind.i64.wrap (IntKind.i64.wrap ((IntKind.i64.wrap (xp a - B)).tdiv 2) - 1)))), .int .i64 (rnF m false T (IntKind.i64.wrap (IntKind.i64.wrap ((IntKind.i64.wrap (xp a - B)).tdiv 2) - 1)))] (O9 a B X J S Q T) [(decide (vO (O9 a B X J S Q T) (aP16 8) (d16 T).length = T), true), (okRo (O9 a B X J S Q T) (aP16 8) (d16 T).length (d16 T).length (IntKind.i64.wrap (IntKind.i64.wrap ((IntKind.i64.wrap (xp a - B)).tdiv 2) - 1)), true), (decide (vO (O8 a B X J S Q) (aP16 4) (d16 S).length + vO (O8 a B X J S Q) (aP16 7) (d16 1).length = T), true), (two16 (O8 a B X J S Q) (aP16 4) (aP16 7) (d16 S).length (d16 S).length (d16 1).length (d16 1).length, true), (decide (0 < (d16 S).length ∨ 0 < (d16 1).length), true), (decide (0 ≤ (1 : Int) ∧ (1 : Int) < 18446744073709551616), true), (decide (vO (O8 a B X J S Q) (aP16 4) (d16 S).length + vO (O8 a B X J S Q) (aP16 7) (d16 1).length = T), true), (two16 (O8 a B X J S Q) (aP16 4) (aP16 7) (d16 S).length (d16 S).length (d16 1).length (d16 1).length, true), (decide (0 < (d16 S).length ∨ 0 < (d16 1).length), true), (decide (0 ≤ (1 : Int) ∧ (1 : Int) < 18446744073709551616), true), (c != 0, true), (decide (cmpZ (vO (O7 a B X J S Q) (aP16 6) (d16 Q).length) (vO (O7 a B X J S Q) (aP16 2) (d16 X).length) = c), true), (two16 (O7 a B X J S Q) (aP16 6) (aP16 2) (d16 Q).length (d16 Q).length (d16 X).length (d16 X).length, true), (decide (vO (O6 a B X J S) (aP16 3) (d16 J).length * vO (O6 a B X J S) (aP16 3) (d16 J).length = Q), true), (okMu (O6 a B X J S) (aP16 3) (aP16 3) (d16 J).length (d16 J).length (d16 J).length (d16 J).length, true), ((wU (d16 S)).all calm1, true), ((wU (d16 J)).all calm1, true), ((wU (d16 X)).all calm1, true), ((wU (d16 (sg a).toNat)).all calm1, true), (decide (vO (O5 a X J) (aP16 3) (d16 J).length * 2 ^ (1 : Int).toNat = S), true), (okSh (O5 a X J) (aP16 3) (d16 J).length (d16 J).length 1, true), (decide (0 < (d16 J).length), true), (decide (vO (N4 a X J) (aP16 3) (d16 J).length * 2 ^ (1 : Int).toNat = S), true), (okSh (N4 a X J) (aP16 3) (d16 J).length (d16 J).length 1, true), (decide (0 < (d16 J).length), true)] := ⟨by kernel_rfl, by kernel_rfl, by kernel_rfl⟩
theorem rs_n1 (a m : Int) : Fits (reckon (tabH Try.prog extY conR7 hcTq) 300 12 [.int .u64 a, .int .i64 m] [cmp true, cmp true]) (.tuple #[.int .u64 9221120237041090560, .int .i64 1]) [(cl a == 5, true), lU a, (decide (cl a > 3), true), lU a, lU a] := ⟨by kernel_rfl, by kernel_rfl, by kernel_rfl, by kernel_rfl⟩
theorem rs_n0 (a m : Int) : Fits (reckon (tabH Try.prog extY conR7 hcTq) 300 12 [.int .u64 a, .int .i64 m] [cmp true, cmp false, cmp false]) (.tuple #[.int .u64 9221120237041090560, .int .i64 0]) [(cl a == 5, false), lU a, (cl a == 5, false), lU a, (decide (cl a > 3), true), lU a, lU a] := ⟨by kernel_rfl, by kernel_rfl, by kernel_rfl, by kernel_rfl⟩
theorem rs_z (a m : Int) : Fits (reckon (tabH Try.prog extY conR7 hcTq) 300 12 [.int .u64 a, .int .i64 m] [cmp false, cmp true]) (.tuple #[.int .u64 a, .int .i64 0]) [(cl a == 0, true), (decide (cl a > 3), false), lU a, lU a] := ⟨by kernel_rfl, by kernel_rfl, by kernel_rfl, by kernel_rfl⟩
theorem rs_m (a m : Int) : Fits (reckon (tabH Try.prog extY conR7 hcTq) 300 12 [.int .u64 a, .int .i64 m] [cmp false, cmp false, tst false, tst true]) (.tuple #[.int .u64 9221120237041090560, .int .i64 1]) [(sgn a, true), (false, false), (cl a == 0, false), (decide (cl a > 3), false), lU a, lU a] := ⟨by kernel_rfl, by kernel_rfl, by kernel_rfl, by kernel_rfl⟩
theorem rs_i (a m : Int) : Fits (reckon (tabH Try.prog extY conR7 hcTq) 300 12 [.int .u64 a, .int .i64 m] [cmp false, cmp false, tst false, tst false, cmp true]) (.tuple #[.int .u64 a, .int .i64 0]) [(cl a == 3, true), (sgn a, false), (false, false), (cl a == 0, false), (decide (cl a > 3), false), lU a, lU a] := ⟨by kernel_rfl, by kernel_rfl, by kernel_rfl, by kernel_rfl⟩

/-! ### its numbers -/
theorem oTwoN {h : Hp} {b W : Nat} (hc : h.blk? b = some (wU (d16 W), tU)) (hm : (d16 W).length < 100000) : two16 h none (some ⟨b, 0, none⟩) 0 0 (d16 W).length (d16 W).length = true := by
  unfold two16
  rw [show rowP h none 0 0 = true from rfl, show dgB (rowOf h none 0) = true from rfl, rowP_d16 hc (by omega), dgB_d16 hc, blt_iff.2 (by omega)]
  rfl
theorem oShI {h : Hp} {b V : Nat} {i : Int} (hb : h.blk? b = some (wU (d16 V), tU)) (hl : (d16 V).length < 100000) (h0 : 0 ≤ i) (h1 : i < 100000) : okSh h (some ⟨b, 0, none⟩) (d16 V).length (d16 V).length i = true := by
  obtain ⟨k, rfl⟩ := Int.eq_ofNat_of_zero_le h0
  exact oSh hb hl (by omega)
theorem cmpZ_le (x y : Nat) : cmpZ x y ≤ 0 ↔ x ≤ y := by
  unfold cmpZ
  split
  · omega
  · split <;> omega
theorem cmpZ_iff7 (x y : Nat) : cmpZ x y = 0 ↔ x = y := by
  unfold cmpZ
  split
  · omega
  · split <;> omega
theorem dl {V : Nat} (h : V < 2 ^ 208) : (d16 V).length < 20 := by
  have := d16_len (A := V) (k := 13) h
  omega
theorem sq_lt {V X : Nat} (h : V * V ≤ X) (hX : X < 2 ^ 194) : V < 2 ^ 97 := by
  rcases Nat.lt_or_ge V (2 ^ 97) with hc | hc
  · exact hc
  · have := Nat.mul_le_mul hc hc
    rw [← Nat.pow_add] at this
    have h1 := Nat.le_trans this h
    omega
theorem base7 (a : Int) (X : Nat) {h : Hp} (h0 : h.blk? 0 = some (bPt a)) (h1 : h.blk? 1 = some (w16 (sg a).toNat)) (h2 : h.blk? 2 = some (w16 X)) : ∀ i x, (⟨3, Lb7 a X⟩ : Hp).blk? i = some x → h.blk? i = some x ∧ ∀ v ∈ x.1, still v = true := by
  intro i x hx
  have hi : i < 3 := Hp.blk_lt hx
  match i, hi, hx with
  | 0, _, hx =>
    have e : x = bPt a := (Option.some.inj hx).symm
    subst e
    refine ⟨h0, fun v hv => ?_⟩
    unfold bPt at hv
    simp only [List.mem_cons, List.not_mem_nil, or_false] at hv
    rcases hv with rfl | rfl | rfl | rfl <;> rfl
  | 1, _, hx =>
    have e : x = w16 (sg a).toNat := (Option.some.inj hx).symm
    subst e
    exact ⟨h1, wU_still _⟩
  | 2, _, hx =>
    have e : x = w16 X := (Option.some.inj hx).symm
    subst e
    exact ⟨h2, wU_still _⟩
theorem sF7_lt (a m B : Int) (X : Nat) {s : Value} (i : Int) (hs : lt 4 s = true) : ∀ v ∈ sF7 a m B X s i, lt 4 v = true := by
  intro v hv
  unfold sF7 at hv
  simp only [List.mem_cons, List.not_mem_nil, or_false] at hv
  rcases hv with rfl | rfl | rfl | rfl | rfl | rfl | rfl | rfl | rfl | rfl | rfl <;> first | rfl | exact hs
/-- what is found so far: V, with k bits to come -/
def St7 (a m B : Int) (X k V : Nat) (y : Lf) : Prop := (V = 0 ∧ ∃ J g, y.1 = sF7 a m B X nilS ((k : Int) - 1) ++ tl 77 g ∧ y.2.1 = N4 a X J) ∨ (0 < V ∧ ∃ g, y.1 = sF7 a m B X (sOf 3 V) ((k : Int) - 1) ++ tl 77 g ∧ y.2.1 = N4 a X V)
def In7 (a m B : Int) (X k : Nat) (y : Lf) : Prop := k ≤ 100 ∧ ((∃ V, V * V ≤ X ∧ X < (V + 2 ^ k) * (V + 2 ^ k) ∧ St7 a m B X k V y) ∨ (1 ≤ k ∧ X < 2 ^ (k - 1) * 2 ^ (k - 1) ∧ ∃ g, y.1 = sF7 a m B X nilS ((k : Int) - 1) ++ tl 77 g ∧ y.2.1 = N3 a X))
theorem tab7 : TabOk (tabH Try.prog extY conR7 hcTq) := tabH_ok conR7_ok hcTq_ok
theorem s7_round {a m B : Int} {X k : Nat} (hX : X < 2 ^ 194) {y : Lf} (h : In7 a m B X (k + 1) y) : RunsW (tabH Try.prog extY conR7 hcTq) (sL7 Try.f12) y fun e z => e = none ∧ In7 a m B X k z := by
  obtain ⟨hk, h⟩ := h
  obtain ⟨t, h', s⟩ := y
  obtain ⟨i, hi⟩ : ∃ i : Int, i = ((k + 1 : Nat) : Int) - 1 := ⟨_, rfl⟩
  have hik : i = (k : Int) := by omega
  have hi0 : i ≥ 0 := by omega
  have hi1 : i < 100000 := by omega
  have ei : IntKind.i64.wrap (i - 1) = (k : Int) - 1 := by rw [wrapI' ⟨by omega, by omega⟩]; omega
  have et : i.toNat = k := by omega
  obtain ⟨P, hP⟩ : ∃ P, P = 2 ^ k := ⟨_, rfl⟩
  have eP : P = 2 ^ i.toNat := by rw [et]; exact hP
  have pB : P ≤ 2 ^ 99 := by rw [hP]; exact Nat.pow_le_pow_right (by omega) (by omega)
  have pp : 0 < P := by rw [hP]; exact Nat.pow_pos (by omega)
  have e99 : (2 : Nat) ^ 99 = 633825300114114700748351602688 := rfl
  have e97 : (2 : Nat) ^ 97 = 158456325028528675187087900672 := rfl
  have e100 : (2 : Nat) ^ 100 = 1267650600228229401496703205376 := rfl
  have big : ∀ {V : Nat}, V < 2 ^ 100 → V * V < 2 ^ 208 := fun {V} hv => by
    have := Nat.mul_le_mul (Nat.le_of_lt hv) (Nat.le_of_lt hv)
    exact Nat.lt_of_le_of_lt this (by decide)
  have z1 : 0 < (d16 1).length := d16_iff.2 (by omega)
  have l1 := dl (V := 1) (by decide)
  have lX : (d16 X).length < 100000 := by have := dl (V := X) (Nat.lt_trans hX (by decide)); omega
  have lP : (d16 P).length < 100000 := by have := dl (V := P) (Nat.lt_of_le_of_lt pB (by decide)); omega
  have zP : 0 < (d16 P).length := d16_iff.2 pp
  have lt0 : lt 4 nilS = true := rfl
  rcases h with ⟨V, v1, v2, hS⟩ | ⟨_, x1, g, ht, hh⟩
  · have vB := sq_lt v1 hX
    obtain ⟨T, eT⟩ : ∃ T, T = V + P := ⟨_, rfl⟩
    obtain ⟨Q, eQ⟩ : ∃ Q, Q = T * T := ⟨_, rfl⟩
    obtain ⟨c, ec⟩ : ∃ c, c = cmpZ Q X := ⟨_, rfl⟩
    have tB : T < 2 ^ 100 := by omega
    have lT : (d16 T).length < 100000 := by have := dl (V := T) (Nat.lt_trans tB (by decide)); omega
    have lQ : (d16 Q).length < 100000 := by have := dl (V := Q) (by rw [eQ]; exact big tB); omega
    have v2' : X < (T + 2 ^ k) * (T + 2 ^ k) := by
      have : V + 2 ^ (k + 1) = T + 2 ^ k := by rw [Nat.pow_succ, eT, hP]; omega
      rw [this] at v2
      exact v2
    rcases hS with ⟨v0, J, g, ht, hh⟩ | ⟨v0, g, ht, hh⟩
    · simp only at ht hh
      rw [← hi] at ht
      subst ht hh v0
      by_cases hc : c ≤ 0
      · have hq : T * T ≤ X := by rw [← eQ]; exact (cmpZ_le _ _).1 (by rw [← ec]; exact hc)
        have hg := s7_r2 a m B i c X P T Q J g
        rw [ei] at hg
        have := (goesT_runsW (s0 := s) tab7 hg (okCons (decide_eq_true hc) (okCons (decide_eq_true (by rw [vO_aP (V := Q) rfl, vO_aP (V := X) rfl]; exact ec.symm)) (okCons (oTwo (V := Q) (W := X) rfl rfl lQ lX) (okCons (decide_eq_true (by rw [vO_aP (V := T) rfl]; exact eQ.symm)) (okCons (oMu (V := T) (W := T) rfl rfl lT lT) (okCons (decide_eq_true (by rw [vO_aP (V := P) rfl, eT]; rfl)) (okCons (oTwoN (W := P) rfl lP) (okCons (decide_eq_true (.inr zP)) (okCons (decide_eq_true (by rw [vO_aP (V := 1) rfl, eP]; exact Nat.one_mul _)) (okCons (oShI (V := 1) rfl (by omega) hi0 hi1) (okCons (decide_eq_true z1) (okCons (by decide) (okL1 (decide_eq_true hi0))))))))))))))).kept (k := 3) (b := 6) (base := Lb7 a X) (y := w16 T) (front' := sF7 a m B X (sOf 3 T) ((k : Int) - 1)) rfl (by kernel_rfl) (base7 a X rfl rfl rfl) rfl (by omega) (wU_still _) (sF7_lt a m B X _ rfl)
        refine this.mono fun e z hz => ?_
        obtain ⟨rfl, ⟨g', e1⟩, e2⟩ := hz
        exact ⟨rfl, by omega, .inl ⟨T, hq, v2', .inr ⟨by omega, g', e1, e2⟩⟩⟩
      · have hq : X < (0 + 2 ^ k) * (0 + 2 ^ k) := by
          have : ¬ Q ≤ X := fun h => hc (by rw [ec]; exact (cmpZ_le _ _).2 h)
          rw [eQ, eT, hP] at this
          omega
        have hg := s7_r1 a m B i c X P T Q J g
        rw [ei] at hg
        have := (goesT_runsW (s0 := s) tab7 hg (okCons (decide_eq_false hc) (okCons (decide_eq_true (by rw [vO_aP (V := Q) rfl, vO_aP (V := X) rfl]; exact ec.symm)) (okCons (oTwo (V := Q) (W := X) rfl rfl lQ lX) (okCons (decide_eq_true (by rw [vO_aP (V := T) rfl]; exact eQ.symm)) (okCons (oMu (V := T) (W := T) rfl rfl lT lT) (okCons (decide_eq_true (by rw [vO_aP (V := P) rfl, eT]; rfl)) (okCons (oTwoN (W := P) rfl lP) (okCons (decide_eq_true (.inr zP)) (okCons (decide_eq_true (by rw [vO_aP (V := 1) rfl, eP]; exact Nat.one_mul _)) (okCons (oShI (V := 1) rfl (by omega) hi0 hi1) (okCons (decide_eq_true z1) (okCons (by decide) (okL1 (decide_eq_true hi0))))))))))))))).kept (k := 3) (b := 6) (base := Lb7 a X) (y := w16 T) (front' := sF7 a m B X nilS ((k : Int) - 1)) rfl (by kernel_rfl) (base7 a X rfl rfl rfl) rfl (by omega) (wU_still _) (sF7_lt a m B X _ lt0)
        refine this.mono fun e z hz => ?_
        obtain ⟨rfl, ⟨g', e1⟩, e2⟩ := hz
        exact ⟨rfl, by omega, .inl ⟨0, v1, hq, .inl ⟨rfl, T, g', e1, e2⟩⟩⟩
    · simp only at ht hh
      rw [← hi] at ht
      obtain ⟨J, eJ⟩ : ∃ J, J = V := ⟨_, rfl⟩
      rw [← eJ] at ht hh eT
      subst ht hh
      have lJ : (d16 J).length < 100000 := by have := dl (V := J) (Nat.lt_trans (by rw [eJ]; exact vB) (by decide)); omega
      by_cases hc : c ≤ 0
      · have hq : T * T ≤ X := by rw [← eQ]; exact (cmpZ_le _ _).1 (by rw [← ec]; exact hc)
        have hg := s7_r4 a m B i c X P T Q J g
        rw [ei] at hg
        have := (goesT_runsW (s0 := s) tab7 hg (okCons (decide_eq_true hc) (okCons (decide_eq_true (by rw [vO_aP (V := Q) rfl, vO_aP (V := X) rfl]; exact ec.symm)) (okCons (oTwo (V := Q) (W := X) rfl rfl lQ lX) (okCons (decide_eq_true (by rw [vO_aP (V := T) rfl]; exact eQ.symm)) (okCons (oMu (V := T) (W := T) rfl rfl lT lT) (okCons (decide_eq_true (by rw [vO_aP (V := J) rfl, vO_aP (V := P) rfl]; exact eT.symm)) (okCons (oTwo (V := J) (W := P) rfl rfl lJ lP) (okCons (decide_eq_true (.inr zP)) (okCons (decide_eq_true (by rw [vO_aP (V := 1) rfl, eP]; exact Nat.one_mul _)) (okCons (oShI (V := 1) rfl (by omega) hi0 hi1) (okCons (decide_eq_true z1) (okCons (by decide) (okL1 (decide_eq_true hi0))))))))))))))).kept (k := 3) (b := 6) (base := Lb7 a X) (y := w16 T) (front' := sF7 a m B X (sOf 3 T) ((k : Int) - 1)) rfl (by kernel_rfl) (base7 a X rfl rfl rfl) rfl (by omega) (wU_still _) (sF7_lt a m B X _ rfl)
        refine this.mono fun e z hz => ?_
        obtain ⟨rfl, ⟨g', e1⟩, e2⟩ := hz
        exact ⟨rfl, by omega, .inl ⟨T, hq, v2', .inr ⟨by omega, g', e1, e2⟩⟩⟩
      · have hq : X < (V + 2 ^ k) * (V + 2 ^ k) := by
          have : ¬ Q ≤ X := fun h => hc (by rw [ec]; exact (cmpZ_le _ _).2 h)
          rw [eQ, eT, eJ, hP] at this
          omega
        have hg := s7_r3 a m B i c X P T Q J g
        rw [ei] at hg
        have := (goesT_runsW (s0 := s) tab7 hg (okCons (decide_eq_false hc) (okCons (decide_eq_true (by rw [vO_aP (V := Q) rfl, vO_aP (V := X) rfl]; exact ec.symm)) (okCons (oTwo (V := Q) (W := X) rfl rfl lQ lX) (okCons (decide_eq_true (by rw [vO_aP (V := T) rfl]; exact eQ.symm)) (okCons (oMu (V := T) (W := T) rfl rfl lT lT) (okCons (decide_eq_true (by rw [vO_aP (V := J) rfl, vO_aP (V := P) rfl]; exact eT.symm)) (okCons (oTwo (V := J) (W := P) rfl rfl lJ lP) (okCons (decide_eq_true (.inr zP)) (okCons (decide_eq_true (by rw [vO_aP (V := 1) rfl, eP]; exact Nat.one_mul _)) (okCons (oShI (V := 1) rfl (by omega) hi0 hi1) (okCons (decide_eq_true z1) (okCons (by decide) (okL1 (decide_eq_true hi0))))))))))))))).kept (k := 3) (b := 3) (base := Lb7 a X) (y := w16 J) (front' := sF7 a m B X (sOf 3 J) ((k : Int) - 1)) rfl (by kernel_rfl) (base7 a X rfl rfl rfl) rfl (by omega) (wU_still _) (sF7_lt a m B X _ rfl)
        refine this.mono fun e z hz => ?_
        obtain ⟨rfl, ⟨g', e1⟩, e2⟩ := hz
        rw [eJ] at e1 e2
        exact ⟨rfl, by omega, .inl ⟨V, v1, hq, .inr ⟨v0, g', e1, e2⟩⟩⟩
  · simp only at ht hh
    rw [← hi] at ht
    subst ht hh
    rw [Nat.add_sub_cancel] at x1
    obtain ⟨T, eT⟩ : ∃ T, T = 0 + P := ⟨_, rfl⟩
    obtain ⟨Q, eQ⟩ : ∃ Q, Q = T * T := ⟨_, rfl⟩
    obtain ⟨c, ec⟩ : ∃ c, c = cmpZ Q X := ⟨_, rfl⟩
    have tB : T < 2 ^ 100 := by omega
    have lT : (d16 T).length < 100000 := by have := dl (V := T) (Nat.lt_trans tB (by decide)); omega
    have lQ : (d16 Q).length < 100000 := by have := dl (V := Q) (by rw [eQ]; exact big tB); omega
    have hq : X < (0 + 2 ^ k) * (0 + 2 ^ k) := by rw [Nat.zero_add]; exact x1
    have hc : ¬ c ≤ 0 := by
      rw [ec, cmpZ_le, eQ, eT, hP]
      omega
    have hg := s7_r0 a m B i c X P T Q g
    rw [ei] at hg
    have := (goesT_runsW (s0 := s) tab7 hg (okCons (decide_eq_false hc) (okCons (decide_eq_true (by rw [vO_aP (V := Q) rfl, vO_aP (V := X) rfl]; exact ec.symm)) (okCons (oTwo (V := Q) (W := X) rfl rfl lQ lX) (okCons (decide_eq_true (by rw [vO_aP (V := T) rfl]; exact eQ.symm)) (okCons (oMu (V := T) (W := T) rfl rfl lT lT) (okCons (decide_eq_true (by rw [vO_aP (V := P) rfl, eT]; rfl)) (okCons (oTwoN (W := P) rfl lP) (okCons (decide_eq_true (.inr zP)) (okCons (decide_eq_true (by rw [vO_aP (V := 1) rfl, eP]; exact Nat.one_mul _)) (okCons (oShI (V := 1) rfl (by omega) hi0 hi1) (okCons (decide_eq_true z1) (okCons (by decide) (okL1 (decide_eq_true hi0))))))))))))))).kept (k := 3) (b := 5) (base := Lb7 a X) (y := w16 T) (front' := sF7 a m B X nilS ((k : Int) - 1)) rfl (by kernel_rfl) (base7 a X rfl rfl rfl) rfl (by omega) (wU_still _) (sF7_lt a m B X _ lt0)
    refine this.mono fun e z hz => ?_
    obtain ⟨rfl, ⟨g', e1⟩, e2⟩ := hz
    exact ⟨rfl, by omega, .inl ⟨0, Nat.zero_le _, hq, .inl ⟨rfl, T, g', e1, e2⟩⟩⟩
theorem s7_loop {a m B : Int} {X k : Nat} (hX : X < 2 ^ 194) {y : Lf} (h : In7 a m B X k y) : RunsW (tabH Try.prog extY conR7 hcTq) (.block 0 (.loop (sL7 Try.f12))) y fun e z => match e with | none => In7 a m B X 0 z | some none => False | some (some _) => False := by
  refine RunsW.forLoop (P := In7 a m B X 0) (R := fun _ => False) (fun n y => In7 a m B X n y) ?_ (n := k) h
  intro n y hy
  match n, hy with
  | n + 1, hy =>
    refine (s7_round hX hy).mono fun e z hz => ?_
    obtain ⟨rfl, hz⟩ := hz
    exact ⟨n, by omega, hz⟩
  | 0, hy =>
    obtain ⟨_, hy'⟩ := hy
    obtain ⟨t, h', s⟩ := y
    rcases hy' with ⟨V, v1, v2, hS⟩ | ⟨h1, _⟩
    · rcases hS with ⟨v0, J, g, ht, hh⟩ | ⟨v0, g, ht, hh⟩
      · simp only at ht hh
        subst ht hh
        refine (goesT_runsW tab7 (s7_x a m B (((0 : Nat) : Int) - 1) X J nilS g) (okL1 (by decide))).mono fun e z hz => ?_
        obtain ⟨rfl, ⟨g', e1⟩, e2⟩ := hz
        exact ⟨rfl, by omega, .inl ⟨V, v1, v2, .inl ⟨v0, J, g', e1, e2⟩⟩⟩
      · simp only at ht hh
        subst ht hh
        refine (goesT_runsW tab7 (s7_x a m B (((0 : Nat) : Int) - 1) X V (sOf 3 V) g) (okL1 (by decide))).mono fun e z hz => ?_
        obtain ⟨rfl, ⟨g', e1⟩, e2⟩ := hz
        exact ⟨rfl, by omega, .inl ⟨V, v1, v2, .inr ⟨v0, g', e1, e2⟩⟩⟩
    · omega
def vRS (m a : Int) : Value := .tuple #[.int .u64 (sqP m a), .int .i64 (sqF m a)]
theorem bl_X {X : Nat} : X < 2 ^ bl X := by
  exact bl_lt X
theorem s7_run {a m B : Int} {X k : Nat} (kB : B = k) (k0 : 140 ≤ k) (k1 : k ≤ 141) (hx : X = (sg a).toNat * 2 ^ k) (ha : cl a = 1 ∨ cl a = 2) (ev : (xp a - B) % 2 = 0) (hm : rnP m false (rtK X) ((xp a - B) / 2 - 1) = rtP m a ∧ rnF m false (rtK X) ((xp a - B) / 2 - 1) = rtF m a) (g : Nat → Value) :
    RunsW (tabH Try.prog extY conR7 hcTq) (.seq (.seq (sI7 Try.f12) (.block 0 (.loop (sL7 Try.f12)))) (sE7 Try.f12)) (sB7 a m B X nilS ++ tl 78 g, N3 a X, []) fun e z => (e = none ∨ e = some none) ∧ resS Try.prog Try.f12 z.1 z.2.1 = some (.tuple #[.int .u64 (rtP m a), .int .i64 (rtF m a)]) := by
  have sa := sg_lt a
  have na : sg a ≠ 0 := fun h => by have := (sg_zero (p := a) (by omega)).1 h; omega
  have xa := xp_bd a
  have hX : X < 2 ^ 194 := by
    have h1 : 2 ^ k ≤ 2 ^ 141 := Nat.pow_le_pow_right (by omega) k1
    have h2 : (sg a).toNat * 2 ^ k ≤ 9007199254740991 * 2 ^ 141 := Nat.mul_le_mul (by omega) h1
    rw [hx]
    exact Nat.lt_of_le_of_lt h2 (by decide)
  have hX0 : 2 ^ 140 ≤ X := by
    rw [hx]
    exact Nat.le_trans (Nat.pow_le_pow_right (by omega) k0) (Nat.le_mul_of_pos_left _ (by omega))
  have lX20 := dl (V := X) (Nat.lt_trans hX (by decide))
  have lX : (d16 X).length < 100000 := by omega
  have hbl : bl X ≤ 194 := bl_le_of hX
  have e0 : i0 a X = ((bl X / 2 + 2 : Nat) : Int) - 1 := by
    unfold i0
    rw [vO_aP (V := X) rfl, Int.tdiv_eq_ediv_of_nonneg (by omega), wrapI' (n := ((bl X : Nat) : Int) / 2) ⟨by omega, by omega⟩, wrapI' ⟨by omega, by omega⟩]
    omega
  have okl : okLn (N3 a X) (aP16 2) (d16 X).length (d16 X).length = true := by
    unfold okLn aP16
    rw [rowP_d16 (h := N3 a X) (b := 2) (A := X) rfl (by omega), rowOf_d16 (h := N3 a X) (b := 2) (A := X) (ty := tU) rfl, show canB (d16 X) = true from canB_mk (can_db (by omega) X), blt_iff.2 (by omega)]
    rfl
  refine RunsW.seq (P1 := fun e y => e = none ∧ In7 a m B X 0 y) ?_ ?_ (fun e y hy => by cases hy.1)
  · have hi := s7_i a m B X nilS g
    rw [e0] at hi
    refine RunsW.seq (goesT_runsW tab7 hi (okL1 okl)) ?_ (fun e y hy => by cases hy.1)
    rintro ⟨t, h', s⟩ ⟨_, ⟨g', ht⟩, hh⟩
    simp only at ht hh
    subst ht hh
    refine (s7_loop (k := bl X / 2 + 2) hX ⟨by omega, .inr ⟨by omega, ?_, g', rfl, rfl⟩⟩).mono fun e z hz => ?_
    · have h1 := bl_X (X := X)
      have h2 : 2 ^ bl X ≤ 2 ^ (bl X / 2 + 2 - 1 + (bl X / 2 + 2 - 1)) := Nat.pow_le_pow_right (by omega) (by omega)
      rw [Nat.pow_add] at h2
      exact Nat.lt_of_lt_of_le h1 h2
    · match e, hz with
      | none, hz => exact ⟨rfl, hz⟩
      | some none, hz => exact hz.elim
      | some (some _), hz => exact hz.elim
  · rintro ⟨t, h', s⟩ ⟨_, _, hy⟩
    rcases hy with ⟨V, v1, v2, hS⟩ | ⟨h1, _⟩
    · have hl : X < lim := Nat.lt_trans hX (by decide)
      have hV : isq X = V := isq_uniq hl v1 (by rw [Nat.pow_zero] at v2; exact v2)
      rcases hS with ⟨v0, _⟩ | ⟨v0, g', ht, hh⟩
      · exfalso
        subst v0
        have e1 : (2 : Nat) ^ 140 = 1393796574908163946345982392040522594123776 := rfl
        simp at v2
        omega
      simp only at ht hh
      subst ht hh
      have vB := sq_lt v1 hX
      obtain ⟨J, eJ⟩ : ∃ J, J = V := ⟨_, rfl⟩
      rw [← eJ]
      rw [← eJ] at v0 v1 vB
      obtain ⟨S, eS⟩ : ∃ S, S = J * 2 ^ 1 := ⟨_, rfl⟩
      obtain ⟨Q, eQ⟩ : ∃ Q, Q = J * J := ⟨_, rfl⟩
      obtain ⟨T, eT⟩ : ∃ T, T = S + 1 := ⟨_, rfl⟩
      obtain ⟨c, ec⟩ : ∃ c, c = cmpZ Q X := ⟨_, rfl⟩
      have e97 : (2 : Nat) ^ 97 = 158456325028528675187087900672 := rfl
      have e100 : (2 : Nat) ^ 100 = 1267650600228229401496703205376 := rfl
      have lJ20 := dl (V := J) (Nat.lt_trans vB (by decide))
      have lS20 := dl (V := S) (Nat.lt_trans (show S < 2 ^ 100 by omega) (by decide))
      have lT20 := dl (V := T) (Nat.lt_trans (show T < 2 ^ 100 by omega) (by decide))
      have lQ20 := dl (V := Q) (by rw [eQ]; exact Nat.lt_of_le_of_lt v1 (Nat.lt_trans hX (by decide)))
      have l1 := dl (V := 1) (by decide)
      have lJ : (d16 J).length < 100000 := by omega
      have lS : (d16 S).length < 100000 := by omega
      have lQ : (d16 Q).length < 100000 := by omega
      have zJ : 0 < (d16 J).length := d16_iff.2 v0
      have z1 : 0 < (d16 1).length := d16_iff.2 (by omega)
      have eX : (IntKind.i64.wrap (IntKind.i64.wrap ((IntKind.i64.wrap (xp a - B)).tdiv 2) - 1)) = (xp a - B) / 2 - 1 := by
        rw [wrapI' (n := xp a - B) ⟨by omega, by omega⟩, Int.tdiv_eq_ediv_of_dvd (Int.dvd_of_emod_eq_zero ev), wrapI' (n := (xp a - B) / 2) ⟨by omega, by omega⟩, wrapI' ⟨by omega, by omega⟩]
      have eE : -400000 ≤ (IntKind.i64.wrap (IntKind.i64.wrap ((IntKind.i64.wrap (xp a - B)).tdiv 2) - 1)) ∧ (IntKind.i64.wrap (IntKind.i64.wrap ((IntKind.i64.wrap (xp a - B)).tdiv 2) - 1)) ≤ 400000 := by rw [eX]; omega
      have e4 : ∀ q : Int, sS false q = q := fun q => by simp [sS]
      by_cases hc : c = 0
      · have hq : Q = X := (cmpZ_iff7 _ _).1 (by rw [← ec]; exact hc)
        have hK : rtK X = S := by
          unfold rtK
          rw [hV, ← eJ, ← eQ, if_pos hq]
          omega
        rw [hK] at hm
        refine RunsW.own (s' := []) (by show 0 < 4; omega) fun g'' => ?_
        refine (goesT_runsW tab7 (s7_e0 a m B (((0 : Nat) : Int) - 1) c X J S Q g'') (okCons (decide_eq_true (vO_aP (V := S) rfl)) (okCons (oRo (V := S) rfl (by omega) eE) (okCons (bne_f hc) (okCons (decide_eq_true (by rw [vO_aP (V := Q) rfl, vO_aP (V := X) rfl]; exact ec.symm)) (okCons (oTwo (V := Q) (W := X) rfl rfl lQ lX) (okCons (decide_eq_true (by rw [vO_aP (V := J) rfl]; exact eQ.symm)) (okCons (oMu (V := J) (W := J) rfl rfl lJ lJ) (okCons (wU_calm1 _) (okCons (wU_calm1 _) (okCons (wU_calm1 _) (okCons (wU_calm1 _) (okCons (decide_eq_true (by rw [vO_aP (V := J) rfl]; exact eS.symm)) (okCons (oSh (k := 1) (V := J) rfl lJ (by omega)) (okCons (decide_eq_true zJ) (okCons (decide_eq_true (by rw [vO_aP (V := J) rfl]; exact eS.symm)) (okCons (oSh (k := 1) (V := J) rfl lJ (by omega)) (okL1 (decide_eq_true zJ))))))))))))))))))).mono fun e z hz => ?_
        obtain ⟨rfl, ⟨g2, e1⟩, e2⟩ := hz
        refine ⟨.inr rfl, ?_⟩
        rw [← hm.1, ← hm.2, ← eX, e1, e2, e4]
        rfl
      · have hq : ¬ Q = X := fun h => hc (by rw [ec]; exact (cmpZ_iff7 _ _).2 h)
        have hK : rtK X = T := by
          unfold rtK
          rw [hV, ← eJ, ← eQ, if_neg hq]
          omega
        rw [hK] at hm
        refine RunsW.own (s' := []) (by show 0 < 4; omega) fun g'' => ?_
        refine (goesT_runsW tab7 (s7_e1 a m B (((0 : Nat) : Int) - 1) c X J S Q T g'') (okCons (decide_eq_true (vO_aP (V := T) rfl)) (okCons (oRo (V := T) rfl (by omega) eE) (okCons (decide_eq_true (by rw [vO_aP (V := S) rfl, vO_aP (V := 1) rfl]; exact eT.symm)) (okCons (oTwo (V := S) (W := 1) rfl rfl lS (by omega)) (okCons (decide_eq_true (.inr z1)) (okCons (by decide) (okCons (decide_eq_true (by rw [vO_aP (V := S) rfl, vO_aP (V := 1) rfl]; exact eT.symm)) (okCons (oTwo (V := S) (W := 1) rfl rfl lS (by omega)) (okCons (decide_eq_true (.inr z1)) (okCons (by decide) (okCons (bne_t hc) (okCons (decide_eq_true (by rw [vO_aP (V := Q) rfl, vO_aP (V := X) rfl]; exact ec.symm)) (okCons (oTwo (V := Q) (W := X) rfl rfl lQ lX) (okCons (decide_eq_true (by rw [vO_aP (V := J) rfl]; exact eQ.symm)) (okCons (oMu (V := J) (W := J) rfl rfl lJ lJ) (okCons (wU_calm1 _) (okCons (wU_calm1 _) (okCons (wU_calm1 _) (okCons (wU_calm1 _) (okCons (decide_eq_true (by rw [vO_aP (V := J) rfl]; exact eS.symm)) (okCons (oSh (k := 1) (V := J) rfl lJ (by omega)) (okCons (decide_eq_true zJ) (okCons (decide_eq_true (by rw [vO_aP (V := J) rfl]; exact eS.symm)) (okCons (oSh (k := 1) (V := J) rfl lJ (by omega)) (okL1 (decide_eq_true zJ))))))))))))))))))))))))))).mono fun e z hz => ?_
        obtain ⟨rfl, ⟨g2, e1⟩, e2⟩ := hz
        refine ⟨.inr rfl, ?_⟩
        rw [← hm.1, ← hm.2, ← eX, e1, e2, e4]
        rfl
    · omega
theorem rsqrt_fin (a m : Int) (ha : U a) (ca : cl a = 1 ∨ cl a = 2) (sa : sgn a = false) (w : World) : Calls Try.prog 12 #[.int .u64 a, .int .i64 m] w fun r w' => r = .returned (.tuple #[.int .u64 (rtP m a), .int .i64 (rtF m a)]) ∧ Tidy w w' := by
  have ka : decide (U a) = true := decide_eq_true ha
  have sl := sg_lt a
  have na : sg a ≠ 0 := fun h => by have := (sg_zero (p := a) (by omega)).1 h; omega
  have xa := xp_bd a
  have l1 := dl (V := (sg a).toNat) (Nat.lt_of_lt_of_le (show (sg a).toNat < 9007199254740992 by omega) (by decide))
  have z1 : 0 < (d16 (sg a).toNat).length := d16_iff.2 (by omega)
  have e140 : IntKind.i64.wrap (xp a - 140) = xp a - 140 := wrapI' ⟨by omega, by omega⟩
  obtain ⟨d1, d2⟩ := rt_doc (m := m) (a := a) na
  refine calls_of_runsW (T := (tabH Try.prog extY conR7 hcTq)) Try.func12 s7_body (vals := [.int .u64 a, .int .i64 m]) (by rfl) (by rfl) ?_ w
  by_cases hev : xp a % 2 = 0
  · obtain ⟨X, hx⟩ : ∃ X, X = (sg a).toNat * 2 ^ 140 := ⟨_, rfl⟩
    have hp : (IntKind.i64.wrap (xp a - 140)).tmod 2 = 0 := by
      rw [e140]
      exact Int.tmod_eq_zero_of_dvd (Int.dvd_of_emod_eq_zero (by omega))
    have hu : rtU a = 128 := by unfold rtU; omega
    have hX : rtX a * 2 ^ 12 = X := by unfold rtX; rw [hu, hx, Nat.mul_assoc, ← Nat.pow_add]
    have hE : rtE a - 6 = (xp a - 140) / 2 - 1 := by unfold rtE; rw [hu]; omega
    rw [hX, hE] at d1 d2
    exact goesT_listW tab7 (s7_e a m X) (okCons (decide_eq_true (by rw [vO_aP (V := (sg a).toNat) rfl]; exact hx.symm)) (okCons (oSh (k := 140) (V := (sg a).toNat) rfl (by omega) (by omega)) (okCons (decide_eq_true z1) (okCons (decide_eq_true ⟨by omega, by omega⟩) (okCons (bne_f hp) (okCons (by decide) (okCons (beq_f (by omega)) (okCons sa (okCons rfl (okCons (beq_f (by omega)) (okCons (decide_eq_false (by omega)) (okCons ka (okL1 ka))))))))))))) fun g => s7_run (k := 140) rfl (by omega) (by omega) hx ca (by omega) ⟨d1, d2⟩ g
  · obtain ⟨X, hx⟩ : ∃ X, X = (sg a).toNat * 2 ^ 141 := ⟨_, rfl⟩
    have hp : (IntKind.i64.wrap (xp a - 140)).tmod 2 ≠ 0 := by
      rw [e140]
      intro h0
      have := Int.emod_eq_zero_of_dvd (Int.dvd_of_tmod_eq_zero h0)
      omega
    have hu : rtU a = 129 := by unfold rtU; omega
    have hX : rtX a * 2 ^ 12 = X := by unfold rtX; rw [hu, hx, Nat.mul_assoc, ← Nat.pow_add]
    have hE : rtE a - 6 = (xp a - 141) / 2 - 1 := by unfold rtE; rw [hu]; omega
    rw [hX, hE] at d1 d2
    have e141 : IntKind.i64.wrap (140 + 1) = 141 := by decide
    have hg := s7_o a m X
    rw [e141] at hg
    exact goesT_listW tab7 hg (okCons (decide_eq_true (by rw [vO_aP (V := (sg a).toNat) rfl]; exact hx.symm)) (okCons (oSh (k := 141) (V := (sg a).toNat) rfl (by omega) (by omega)) (okCons (decide_eq_true z1) (okCons (decide_eq_true ⟨by omega, by omega⟩) (okCons (bne_t hp) (okCons (by decide) (okCons (beq_f (by omega)) (okCons sa (okCons rfl (okCons (beq_f (by omega)) (okCons (decide_eq_false (by omega)) (okCons ka (okL1 ka))))))))))))) fun g => s7_run (k := 141) rfl (by omega) (by omega) hx ca (by omega) ⟨d1, d2⟩ g
theorem rsqrt_calls (a m : Int) (ha : U a) (w : World) : Calls Try.prog 12 #[.int .u64 a, .int .i64 m] w fun r w' => r = .returned (vRS m a) ∧ Tidy w w' := by
  have hv : ([.int .u64 a, .int .i64 m].all (lt 0)) = true := rfl
  have T := tab7
  have ka : decide (U a) = true := decide_eq_true ha
  have ba := cl_bd a
  unfold vRS sqP sqF
  by_cases ha3 : 3 < cl a
  · rw [if_pos ha3, if_pos ha3]
    by_cases a5 : cl a = 5
    · rw [if_pos a5]
      exact fits_calls T (rs_n1 a m) (okCons (beq_t (by omega)) (okCons ka (okCons (decide_eq_true (by omega)) (okCons ka (okL1 ka))))) hv (by rfl) w
    · rw [if_neg a5]
      exact fits_calls T (rs_n0 a m) (okCons (beq_f (by omega)) (okCons ka (okCons (beq_f (by omega)) (okCons ka (okCons (decide_eq_true (by omega)) (okCons ka (okL1 ka))))))) hv (by rfl) w
  · rw [if_neg ha3, if_neg ha3]
    by_cases az : cl a = 0
    · rw [if_pos az, if_pos az]
      exact fits_calls T (rs_z a m) (okCons (beq_t (by omega)) (okCons (decide_eq_false (by omega)) (okCons ka (okL1 ka)))) hv (by rfl) w
    · rw [if_neg az, if_neg az]
      cases sa : sgn a with
      | true =>
        rw [if_pos rfl, if_pos rfl]
        exact fits_calls T (rs_m a m) (okCons sa (okCons rfl (okCons (beq_f (by omega)) (okCons (decide_eq_false (by omega)) (okCons ka (okL1 ka)))))) hv (by rfl) w
      | false =>
        rw [if_neg Bool.false_ne_true, if_neg Bool.false_ne_true]
        by_cases a3 : cl a = 3
        · rw [if_pos a3, if_pos a3]
          exact fits_calls T (rs_i a m) (okCons (beq_t (by omega)) (okCons sa (okCons rfl (okCons (beq_f (by omega)) (okCons (decide_eq_false (by omega)) (okCons ka (okL1 ka))))))) hv (by rfl) w
        · rw [if_neg a3, if_neg a3]
          exact rsqrt_fin a m ha (by omega) sa w
def gRS : Ans := fun vals s =>
  match vals with
  | [.int .u64 a, .int .i64 m] => some (vRS m a, s, [(decide (U a), true)])
  | _ => none
theorem gRS_ok : AnsOk 12 gRS := by
  intro vals s v s' lg h hl w
  unfold gRS at h
  split at h
  · cases h
    exact rsqrt_calls _ _ (of_decide_eq_true (hl _ (List.mem_singleton.2 rfl))) w
  · cases h
end Go.Proofs.Ytnolcojnodoecaa

/-
  What is known of calls, for the law QuotRoots.
-/
namespace Go.Proofs.Ytnolcojnodoecaa
open Go.KRun Go.Wd Go.Pt Go.Rn
set_option maxRecDepth 100000

def conQ7 : Con := alt 12 gRS conS7
theorem conQ7_ok : ConOk conQ7 := alt_ok Try.func12 rfl gRS_ok conS7_ok
theorem sqF_bd (m a : Int) : 0 ≤ sqF m a ∧ sqF m a ≤ 24 := by
  have h' : 0 ≤ rtF m a ∧ rtF m a ≤ 24 := by
    unfold rtF rnF
    split
    · omega
    · split
      · omega
      · split
        · split <;> omega
        · omega
  unfold sqF
  split
  · split <;> omega
  split
  · omega
  split
  · omega
  split
  · omega
  · exact h'
end Go.Proofs.Ytnolcojnodoecaa
