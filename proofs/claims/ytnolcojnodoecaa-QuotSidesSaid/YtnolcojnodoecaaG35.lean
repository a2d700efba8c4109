/-
  quot.Div and quot.Sqrt, as calls in every world.
-/
import Derived.Test.YtnolcojnodoecaaG34
import Derived.Test.YtnolcojnodoecaaG33
namespace Go.Proofs.Ytnolcojnodoecaa
open Go.KRun Go.Wd Go.Pt Go.Rn
set_option maxRecDepth 100000

theorem dq_n1 (a b m : Int) : Fits (reckon (tabOf Try.prog extY conU1 true) 300 8 [.int .u64 a, .int .u64 b, .int .i64 m] [cmp true, cmp true, cmp true]) (rdT 9221120237041090560 1) [(cl a == 5, true), lU a, (decide ((0 : Int) < ((2 : Nat) : Int)), true), (decide (cl a > 3), true), lU a] := ⟨by kernel_rfl, by kernel_rfl, by kernel_rfl, by kernel_rfl⟩
theorem dq_n2 (a b m : Int) : Fits (reckon (tabOf Try.prog extY conU1 true) 300 8 [.int .u64 a, .int .u64 b, .int .i64 m] [cmp true, cmp true, cmp false, cmp true, cmp true]) (rdT 9221120237041090560 1) [(cl b == 5, true), lU b, (decide (IntKind.i64.wrap (0 + 1) < ((2 : Nat) : Int)), true), (cl a == 5, false), lU a, (decide ((0 : Int) < ((2 : Nat) : Int)), true), (decide (cl a > 3), true), lU a] := ⟨by kernel_rfl, by kernel_rfl, by kernel_rfl, by kernel_rfl⟩
theorem dq_n3 (a b m : Int) : Fits (reckon (tabOf Try.prog extY conU1 true) 300 8 [.int .u64 a, .int .u64 b, .int .i64 m] [cmp true, cmp true, cmp false, cmp true, cmp false, cmp false]) (rdT 9221120237041090560 0) [(decide (IntKind.i64.wrap (IntKind.i64.wrap (0 + 1) + 1) < ((2 : Nat) : Int)), false), (cl b == 5, false), lU b, (decide (IntKind.i64.wrap (0 + 1) < ((2 : Nat) : Int)), true), (cl a == 5, false), lU a, (decide ((0 : Int) < ((2 : Nat) : Int)), true), (decide (cl a > 3), true), lU a] := ⟨by kernel_rfl, by kernel_rfl, by kernel_rfl, by kernel_rfl⟩
theorem dq_m2 (a b m : Int) : Fits (reckon (tabOf Try.prog extY conU1 true) 300 8 [.int .u64 a, .int .u64 b, .int .i64 m] [cmp false, cmp true, cmp true, cmp false, cmp true, cmp true]) (rdT 9221120237041090560 1) [(cl b == 5, true), lU b, (decide (IntKind.i64.wrap (0 + 1) < ((2 : Nat) : Int)), true), (cl a == 5, false), lU a, (decide ((0 : Int) < ((2 : Nat) : Int)), true), (decide (cl b > 3), true), lU b, (decide (cl a > 3), false), lU a] := ⟨by kernel_rfl, by kernel_rfl, by kernel_rfl, by kernel_rfl⟩
theorem dq_m3 (a b m : Int) : Fits (reckon (tabOf Try.prog extY conU1 true) 300 8 [.int .u64 a, .int .u64 b, .int .i64 m] [cmp false, cmp true, cmp true, cmp false, cmp true, cmp false, cmp false]) (rdT 9221120237041090560 0) [(decide (IntKind.i64.wrap (IntKind.i64.wrap (0 + 1) + 1) < ((2 : Nat) : Int)), false), (cl b == 5, false), lU b, (decide (IntKind.i64.wrap (0 + 1) < ((2 : Nat) : Int)), true), (cl a == 5, false), lU a, (decide ((0 : Int) < ((2 : Nat) : Int)), true), (decide (cl b > 3), true), lU b, (decide (cl a > 3), false), lU a] := ⟨by kernel_rfl, by kernel_rfl, by kernel_rfl, by kernel_rfl⟩
theorem dq_zz (a b m : Int) : Fits (reckon (tabOf Try.prog extY conU1 true) 300 8 [.int .u64 a, .int .u64 b, .int .i64 m] [cmp false, cmp false, cmp true, cmp true]) (rdT 9221120237041090560 1) [(cl b == 0, true), lU b, (cl a == 0, true), lU a, (decide (cl b > 3), false), lU b, (decide (cl a > 3), false), lU a] := ⟨by kernel_rfl, by kernel_rfl, by kernel_rfl, by kernel_rfl⟩
theorem dq_ii (a b m : Int) : Fits (reckon (tabOf Try.prog extY conU1 true) 300 8 [.int .u64 a, .int .u64 b, .int .i64 m] [cmp false, cmp false, cmp false, cmp true, cmp true]) (rdT 9221120237041090560 1) [(cl b == 3, true), lU b, (cl a == 3, true), lU a, (cl a == 0, false), lU a, (decide (cl b > 3), false), lU b, (decide (cl a > 3), false), lU a] := ⟨by kernel_rfl, by kernel_rfl, by kernel_rfl, by kernel_rfl⟩
theorem dq_ia (a b m : Int) : Fits (reckon (tabOf Try.prog extY conU1 true) 300 8 [.int .u64 a, .int .u64 b, .int .i64 m] [cmp false, cmp false, cmp false, cmp true, cmp false, cmp true]) (rdT (bOr (bNot 9218868437227405312 9223372036854775808) (bAnd (bXor a b) 9223372036854775808)) 0) [(cl a == 3, true), lU a, (cl b == 3, false), lU b, (cl a == 3, true), lU a, (cl a == 0, false), lU a, (decide (cl b > 3), false), lU b, (decide (cl a > 3), false), lU a] := ⟨by kernel_rfl, by kernel_rfl, by kernel_rfl, by kernel_rfl⟩
theorem dq_ib (a b m : Int) : Fits (reckon (tabOf Try.prog extY conU1 true) 300 8 [.int .u64 a, .int .u64 b, .int .i64 m] [cmp false, cmp false, cmp false, cmp false, cmp false, cmp true]) (rdT (bOr (bNot 0 9223372036854775808) (bAnd (bXor a b) 9223372036854775808)) 0) [(cl b == 3, true), lU b, (cl a == 3, false), lU a, (cl a == 3, false), lU a, (cl a == 0, false), lU a, (decide (cl b > 3), false), lU b, (decide (cl a > 3), false), lU a] := ⟨by kernel_rfl, by kernel_rfl, by kernel_rfl, by kernel_rfl⟩
theorem dq_zb (a b m : Int) : Fits (reckon (tabOf Try.prog extY conU1 true) 300 8 [.int .u64 a, .int .u64 b, .int .i64 m] [cmp false, cmp false, cmp true, cmp false, cmp false, cmp false, cmp true]) (rdT (bOr (bNot 0 9223372036854775808) (bAnd (bXor a b) 9223372036854775808)) 0) [(cl b == 3, true), lU b, (cl a == 3, false), lU a, (cl a == 3, false), lU a, (cl b == 0, false), lU b, (cl a == 0, true), lU a, (decide (cl b > 3), false), lU b, (decide (cl a > 3), false), lU a] := ⟨by kernel_rfl, by kernel_rfl, by kernel_rfl, by kernel_rfl⟩
theorem dq_bz (a b m : Int) : Fits (reckon (tabOf Try.prog extY conU1 true) 300 8 [.int .u64 a, .int .u64 b, .int .i64 m] [cmp false, cmp false, cmp false, cmp false, cmp false, cmp false, cmp true]) (rdT (bOr (bNot 9218868437227405312 9223372036854775808) (bAnd (bXor a b) 9223372036854775808)) 2) [(cl b == 0, true), lU b, (cl b == 3, false), lU b, (cl a == 3, false), lU a, (cl a == 3, false), lU a, (cl a == 0, false), lU a, (decide (cl b > 3), false), lU b, (decide (cl a > 3), false), lU a] := ⟨by kernel_rfl, by kernel_rfl, by kernel_rfl, by kernel_rfl⟩
theorem dq_f (a b m : Int) : Fits (reckon (tabOf Try.prog extY conU1 true) 300 8 [.int .u64 a, .int .u64 b, .int .i64 m] [cmp false, cmp false, cmp false, cmp false, cmp false, cmp false, cmp false]) (rdV m (prN a b) (tw (ofN (dvQ a b)) (dvM a b)) (clp (xp a - xp b - 128) - 1)) [(decide (ofN (dvQ a b)).ok, true), (okQo a b, true), (decide (U a ∧ U b), true), (cl b == 0, false), lU b, (cl b == 3, false), lU b, (cl a == 3, false), lU a, (cl a == 3, false), lU a, (cl a == 0, false), lU a, (decide (cl b > 3), false), lU b, (decide (cl a > 3), false), lU a] := ⟨by kernel_rfl, by kernel_rfl, by kernel_rfl, by kernel_rfl⟩
theorem dq_zf (a b m : Int) : Fits (reckon (tabOf Try.prog extY conU1 true) 300 8 [.int .u64 a, .int .u64 b, .int .i64 m] [cmp false, cmp false, cmp true, cmp false, cmp false, cmp false, cmp false, cmp false]) (rdV m (prN a b) (tw (ofN (dvQ a b)) (dvM a b)) (clp (xp a - xp b - 128) - 1)) [(decide (ofN (dvQ a b)).ok, true), (okQo a b, true), (decide (U a ∧ U b), true), (cl b == 0, false), lU b, (cl b == 3, false), lU b, (cl a == 3, false), lU a, (cl a == 3, false), lU a, (cl b == 0, false), lU b, (cl a == 0, true), lU a, (decide (cl b > 3), false), lU b, (decide (cl a > 3), false), lU a] := ⟨by kernel_rfl, by kernel_rfl, by kernel_rfl, by kernel_rfl⟩
theorem sq_n1 (a m : Int) : Fits (reckon (tabOf Try.prog extY conU1 true) 300 11 [.int .u64 a, .int .i64 m] [cmp true, cmp true, cmp true]) (rdT 9221120237041090560 1) [(cl a == 5, true), lU a, (decide ((0 : Int) < ((1 : Nat) : Int)), true), (decide (cl a > 3), true), lU a] := ⟨by kernel_rfl, by kernel_rfl, by kernel_rfl, by kernel_rfl⟩
theorem sq_n0 (a m : Int) : Fits (reckon (tabOf Try.prog extY conU1 true) 300 11 [.int .u64 a, .int .i64 m] [cmp true, cmp true, cmp false, cmp false]) (rdT 9221120237041090560 0) [(decide (IntKind.i64.wrap (0 + 1) < ((1 : Nat) : Int)), false), (cl a == 5, false), lU a, (decide ((0 : Int) < ((1 : Nat) : Int)), true), (decide (cl a > 3), true), lU a] := ⟨by kernel_rfl, by kernel_rfl, by kernel_rfl, by kernel_rfl⟩
theorem sq_z (a m : Int) : Fits (reckon (tabOf Try.prog extY conU1 true) 300 11 [.int .u64 a, .int .i64 m] [cmp false, cmp true]) (rdT a 0) [(cl a == 0, true), lU a, (decide (cl a > 3), false), lU a] := ⟨by kernel_rfl, by kernel_rfl, by kernel_rfl, by kernel_rfl⟩
theorem sq_m (a m : Int) : Fits (reckon (tabOf Try.prog extY conU1 true) 300 11 [.int .u64 a, .int .i64 m] [cmp false, cmp false, cmp true]) (rdT 9221120237041090560 1) [((bNot a 9223372036854775808) != a, true), (cl a == 0, false), lU a, (decide (cl a > 3), false), lU a] := ⟨by kernel_rfl, by kernel_rfl, by kernel_rfl, by kernel_rfl⟩
theorem sq_i (a m : Int) : Fits (reckon (tabOf Try.prog extY conU1 true) 300 11 [.int .u64 a, .int .i64 m] [cmp false, cmp false, cmp false, cmp true]) (rdT a 0) [(cl a == 3, true), lU a, ((bNot a 9223372036854775808) != a, false), (cl a == 0, false), lU a, (decide (cl a > 3), false), lU a] := ⟨by kernel_rfl, by kernel_rfl, by kernel_rfl, by kernel_rfl⟩
theorem sq_f (a m : Int) : Fits (reckon (tabOf Try.prog extY conU1 true) 300 11 [.int .u64 a, .int .i64 m] [cmp false, cmp false, cmp false, cmp false]) (rdV m false (tw (ofN (isq (rtX a))) (rtM a)) (clp ((xp a - rtU a) / 2) - 1)) [(decide (ofN (isq (rtX a))).ok, true), ((fun a => decide (cl a ≤ 2)) a, true), lU a, (cl a == 3, false), lU a, ((bNot a 9223372036854775808) != a, false), (cl a == 0, false), lU a, (decide (cl a > 3), false), lU a] := ⟨by kernel_rfl, by kernel_rfl, by kernel_rfl, by kernel_rfl⟩
/-- what Div answers -/
def quP (m a b : Int) : Int := if 3 < cl a ∨ 3 < cl b then 9221120237041090560 else if (cl a = 0 ∧ cl b = 0) ∨ (cl a = 3 ∧ cl b = 3) then 9221120237041090560 else if cl a = 3 then sS (prN a b) inf else if cl b = 3 then sS (prN a b) 0 else if cl b = 0 then sS (prN a b) inf else sS (prN a b) (dvP m a b)
def quF (m a b : Int) : Int := if 3 < cl a ∨ 3 < cl b then (if cl a = 5 ∨ cl b = 5 then 1 else 0) else if (cl a = 0 ∧ cl b = 0) ∨ (cl a = 3 ∧ cl b = 3) then 1 else if cl a = 3 then 0 else if cl b = 3 then 0 else if cl b = 0 then 2 else dvF m a b
theorem en_eq0 {a b : Int} (ha : U a) (hb : U b) : bOr (bNot 0 9223372036854775808) (bAnd (bXor a b) 9223372036854775808) = sS (prN a b) 0 := by
  rw [(xor_top ha hb).2]
  cases prN a b <;> decide
theorem div_calls7 (a b m : Int) (ha : U a) (hb : U b) (w : World) : Calls Try.prog 8 #[.int .u64 a, .int .u64 b, .int .i64 m] w fun r w' => r = .returned (rdT (quP m a b) (quF m a b)) ∧ Tidy w w' := by
  have hv : ([.int .u64 a, .int .u64 b, .int .i64 m].all (lt 0)) = true := rfl
  have T := tabY_ok conU1_ok
  have ka : decide (U a) = true := decide_eq_true ha
  have kb : decide (U b) = true := decide_eq_true hb
  have kab : decide (U a ∧ U b) = true := decide_eq_true ⟨ha, hb⟩
  have ba := cl_bd a
  have bb := cl_bd b
  have en := en_eq ha hb
  have en0 := en_eq0 ha hb
  unfold quP quF
  by_cases ha3 : 3 < cl a
  · rw [if_pos (.inl ha3), if_pos (.inl ha3)]
    by_cases a5 : cl a = 5
    · rw [if_pos (.inl a5)]
      exact fits_calls T (dq_n1 a b m) (okCons (beq_t (by omega)) (okCons ka (okCons (by decide) (okCons (decide_eq_true (by omega)) (okL1 ka))))) hv (by rfl) w
    · by_cases b5 : cl b = 5
      · rw [if_pos (.inr b5)]
        exact fits_calls T (dq_n2 a b m) (okCons (beq_t (by omega)) (okCons kb (okCons (by decide) (okCons (beq_f (by omega)) (okCons ka (okCons (by decide) (okCons (decide_eq_true (by omega)) (okL1 ka)))))))) hv (by rfl) w
      · rw [if_neg (by omega)]
        exact fits_calls T (dq_n3 a b m) (okCons (by decide) (okCons (beq_f (by omega)) (okCons kb (okCons (by decide) (okCons (beq_f (by omega)) (okCons ka (okCons (by decide) (okCons (decide_eq_true (by omega)) (okL1 ka))))))))) hv (by rfl) w
  · by_cases hb3 : 3 < cl b
    · rw [if_pos (.inr hb3), if_pos (.inr hb3)]
      by_cases b5 : cl b = 5
      · rw [if_pos (.inr b5)]
        exact fits_calls T (dq_m2 a b m) (okCons (beq_t (by omega)) (okCons kb (okCons (by decide) (okCons (beq_f (by omega)) (okCons ka (okCons (by decide) (okCons (decide_eq_true (by omega)) (okCons kb (okCons (decide_eq_false (by omega)) (okL1 ka)))))))))) hv (by rfl) w
      · rw [if_neg (by omega)]
        exact fits_calls T (dq_m3 a b m) (okCons (by decide) (okCons (beq_f (by omega)) (okCons kb (okCons (by decide) (okCons (beq_f (by omega)) (okCons ka (okCons (by decide) (okCons (decide_eq_true (by omega)) (okCons kb (okCons (decide_eq_false (by omega)) (okL1 ka))))))))))) hv (by rfl) w
    · have hno : ¬ (3 < cl a ∨ 3 < cl b) := by omega
      rw [if_neg hno, if_neg hno]
      by_cases az : cl a = 0
      · by_cases bz : cl b = 0
        · rw [if_pos (.inl ⟨az, bz⟩), if_pos (.inl ⟨az, bz⟩)]
          exact fits_calls T (dq_zz a b m) (okCons (beq_t (by omega)) (okCons kb (okCons (beq_t (by omega)) (okCons ka (okCons (decide_eq_false (by omega)) (okCons kb (okCons (decide_eq_false (by omega)) (okL1 ka)))))))) hv (by rfl) w
        · have hn2 : ¬ ((cl a = 0 ∧ cl b = 0) ∨ (cl a = 3 ∧ cl b = 3)) := by omega
          have a3 : ¬ cl a = 3 := by omega
          rw [if_neg hn2, if_neg hn2, if_neg a3, if_neg a3]
          by_cases b3 : cl b = 3
          · rw [if_pos b3, if_pos b3, ← en0]
            exact fits_calls T (dq_zb a b m) (okCons (beq_t (by omega)) (okCons kb (okCons (beq_f (by omega)) (okCons ka (okCons (beq_f (by omega)) (okCons ka (okCons (beq_f (by omega)) (okCons kb (okCons (beq_t (by omega)) (okCons ka (okCons (decide_eq_false (by omega)) (okCons kb (okCons (decide_eq_false (by omega)) (okL1 ka)))))))))))))) hv (by rfl) w
          · rw [if_neg b3, if_neg b3, if_neg bz, if_neg bz]
            have hf := dq_zf a b m
            rw [dv_round] at hf
            exact fits_calls T hf (okCons (decide_eq_true (ofN_ok _)) (okCons (decide_eq_true ⟨by omega, by omega, by omega⟩) (okCons kab (okCons (beq_f (by omega)) (okCons kb (okCons (beq_f (by omega)) (okCons kb (okCons (beq_f (by omega)) (okCons ka (okCons (beq_f (by omega)) (okCons ka (okCons (beq_f (by omega)) (okCons kb (okCons (beq_t (by omega)) (okCons ka (okCons (decide_eq_false (by omega)) (okCons kb (okCons (decide_eq_false (by omega)) (okL1 ka))))))))))))))))))) hv (by rfl) w
      · by_cases a3 : cl a = 3
        · by_cases b3 : cl b = 3
          · rw [if_pos (.inr ⟨a3, b3⟩), if_pos (.inr ⟨a3, b3⟩)]
            exact fits_calls T (dq_ii a b m) (okCons (beq_t (by omega)) (okCons kb (okCons (beq_t (by omega)) (okCons ka (okCons (beq_f (by omega)) (okCons ka (okCons (decide_eq_false (by omega)) (okCons kb (okCons (decide_eq_false (by omega)) (okL1 ka)))))))))) hv (by rfl) w
          · have hn2 : ¬ ((cl a = 0 ∧ cl b = 0) ∨ (cl a = 3 ∧ cl b = 3)) := by omega
            rw [if_neg hn2, if_neg hn2, if_pos a3, if_pos a3, ← en]
            exact fits_calls T (dq_ia a b m) (okCons (beq_t (by omega)) (okCons ka (okCons (beq_f (by omega)) (okCons kb (okCons (beq_t (by omega)) (okCons ka (okCons (beq_f (by omega)) (okCons ka (okCons (decide_eq_false (by omega)) (okCons kb (okCons (decide_eq_false (by omega)) (okL1 ka)))))))))))) hv (by rfl) w
        · have hn2 : ¬ ((cl a = 0 ∧ cl b = 0) ∨ (cl a = 3 ∧ cl b = 3)) := by omega
          rw [if_neg hn2, if_neg hn2, if_neg a3, if_neg a3]
          by_cases b3 : cl b = 3
          · rw [if_pos b3, if_pos b3, ← en0]
            exact fits_calls T (dq_ib a b m) (okCons (beq_t (by omega)) (okCons kb (okCons (beq_f (by omega)) (okCons ka (okCons (beq_f (by omega)) (okCons ka (okCons (beq_f (by omega)) (okCons ka (okCons (decide_eq_false (by omega)) (okCons kb (okCons (decide_eq_false (by omega)) (okL1 ka)))))))))))) hv (by rfl) w
          · rw [if_neg b3, if_neg b3]
            by_cases bz : cl b = 0
            · rw [if_pos bz, if_pos bz, ← en]
              exact fits_calls T (dq_bz a b m) (okCons (beq_t (by omega)) (okCons kb (okCons (beq_f (by omega)) (okCons kb (okCons (beq_f (by omega)) (okCons ka (okCons (beq_f (by omega)) (okCons ka (okCons (beq_f (by omega)) (okCons ka (okCons (decide_eq_false (by omega)) (okCons kb (okCons (decide_eq_false (by omega)) (okL1 ka)))))))))))))) hv (by rfl) w
            · rw [if_neg bz, if_neg bz]
              have hf := dq_f a b m
              rw [dv_round] at hf
              exact fits_calls T hf (okCons (decide_eq_true (ofN_ok _)) (okCons (decide_eq_true ⟨by omega, by omega, by omega⟩) (okCons kab (okCons (beq_f (by omega)) (okCons kb (okCons (beq_f (by omega)) (okCons kb (okCons (beq_f (by omega)) (okCons ka (okCons (beq_f (by omega)) (okCons ka (okCons (beq_f (by omega)) (okCons ka (okCons (decide_eq_false (by omega)) (okCons kb (okCons (decide_eq_false (by omega)) (okL1 ka))))))))))))))))) hv (by rfl) w
def gQD : Ans := fun vals s =>
  match vals with
  | [.int .u64 a, .int .u64 b, .int .i64 m] => some (rdT (quP m a b) (quF m a b), s, [(decide (U a ∧ U b), true)])
  | _ => none
theorem gQD_ok : AnsOk 8 gQD := by
  intro vals s v s' lg h hl w
  unfold gQD at h
  split at h
  · cases h
    obtain ⟨h1, h2⟩ := of_decide_eq_true (hl _ (List.mem_singleton.2 rfl))
    exact div_calls7 _ _ _ h1 h2 w
  · cases h
/-- what Sqrt answers -/
def sqP (m a : Int) : Int := if 3 < cl a then 9221120237041090560 else if cl a = 0 then a else if sgn a = true then 9221120237041090560 else if cl a = 3 then a else rtP m a
def sqF (m a : Int) : Int := if 3 < cl a then (if cl a = 5 then 1 else 0) else if cl a = 0 then 0 else if sgn a = true then 1 else if cl a = 3 then 0 else rtF m a
theorem sqrt_calls7 (a m : Int) (ha : U a) (w : World) : Calls Try.prog 11 #[.int .u64 a, .int .i64 m] w fun r w' => r = .returned (rdT (sqP m a) (sqF m a)) ∧ Tidy w w' := by
  have hv : ([.int .u64 a, .int .i64 m].all (lt 0)) = true := rfl
  have T := tabY_ok conU1_ok
  have ka : decide (U a) = true := decide_eq_true ha
  have ba := cl_bd a
  have hn := bNot_sign ha
  unfold sqP sqF
  by_cases ha3 : 3 < cl a
  · rw [if_pos ha3, if_pos ha3]
    by_cases a5 : cl a = 5
    · rw [if_pos a5]
      exact fits_calls T (sq_n1 a m) (okCons (beq_t (by omega)) (okCons ka (okCons (by decide) (okCons (decide_eq_true (by omega)) (okL1 ka))))) hv (by rfl) w
    · rw [if_neg a5]
      exact fits_calls T (sq_n0 a m) (okCons (by decide) (okCons (beq_f (by omega)) (okCons ka (okCons (by decide) (okCons (decide_eq_true (by omega)) (okL1 ka)))))) hv (by rfl) w
  · rw [if_neg ha3, if_neg ha3]
    by_cases az : cl a = 0
    · rw [if_pos az, if_pos az]
      exact fits_calls T (sq_z a m) (okCons (beq_t (by omega)) (okCons ka (okCons (decide_eq_false (by omega)) (okL1 ka)))) hv (by rfl) w
    · rw [if_neg az, if_neg az]
      by_cases sa : sgn a = true
      · rw [if_pos sa, if_pos sa]
        have h9 : 9223372036854775808 ≤ a := of_decide_eq_true sa
        have hm : bNot a 9223372036854775808 ≠ a := by rw [hn]; omega
        exact fits_calls T (sq_m a m) (okCons (bne_t hm) (okCons (beq_f (by omega)) (okCons ka (okCons (decide_eq_false (by omega)) (okL1 ka))))) hv (by rfl) w
      · rw [if_neg sa, if_neg sa]
        have h9 : ¬ 9223372036854775808 ≤ a := fun h => sa (decide_eq_true h)
        have hm : bNot a 9223372036854775808 = a := by have := ha.1; rw [hn]; omega
        by_cases a3 : cl a = 3
        · rw [if_pos a3, if_pos a3]
          exact fits_calls T (sq_i a m) (okCons (beq_t (by omega)) (okCons ka (okCons (bne_f hm) (okCons (beq_f (by omega)) (okCons ka (okCons (decide_eq_false (by omega)) (okL1 ka))))))) hv (by rfl) w
        · rw [if_neg a3, if_neg a3]
          have hf := sq_f a m
          rw [rt_round] at hf
          exact fits_calls T hf (okCons (decide_eq_true (ofN_ok _)) (okCons (decide_eq_true (show cl a ≤ 2 by omega)) (okCons ka (okCons (beq_f (by omega)) (okCons ka (okCons (bne_f hm) (okCons (beq_f (by omega)) (okCons ka (okCons (decide_eq_false (by omega)) (okL1 ka)))))))))) hv (by rfl) w
def gQS : Ans := fun vals s =>
  match vals with
  | [.int .u64 a, .int .i64 m] => some (rdT (sqP m a) (sqF m a), s, [(decide (U a), true)])
  | _ => none
theorem gQS_ok : AnsOk 11 gQS := by
  intro vals s v s' lg h hl w
  unfold gQS at h
  split at h
  · cases h
    exact sqrt_calls7 _ _ (of_decide_eq_true (hl _ (List.mem_singleton.2 rfl))) w
  · cases h
/-! ### the law's own 'sure' -/
def conU2 : Con := alt 8 gQD (alt 11 gQS conN)
theorem conU2_ok : ConOk conU2 := alt_ok Try.func8 rfl gQD_ok (alt_ok Try.func11 rfl gQS_ok conN_ok)
theorem sure7_n : quP 0 4607182418800017408 4613937818241073152 = 4599676419421066581 ∧ quF 0 4607182418800017408 4613937818241073152 = 16 ∧ sqP 0 4611686018427387904 = 4609047870845172685 ∧ sqF 0 4611686018427387904 = 16 := ⟨by kernel_rfl, by kernel_rfl, by kernel_rfl, by kernel_rfl⟩
theorem sure7 : Fits (reckon (tabOf Try.prog extY conU2 true) 300 10 [] [cmp true, cmp true, cmp true, cmp true]) (.bool true) [(sqF 0 4611686018427387904 == 16, true), (sqP 0 4611686018427387904 == 4609047870845172685, true), (quF 0 4607182418800017408 4613937818241073152 == 16, true), (quP 0 4607182418800017408 4613937818241073152 == 4599676419421066581, true), (decide (U 4611686018427387904), true), (decide (U 4607182418800017408 ∧ U 4613937818241073152), true)] := ⟨by kernel_rfl, by kernel_rfl, by kernel_rfl, by kernel_rfl⟩
def gSure7 : Ans := fun vals s => match vals with | [] => some (.bool true, s, []) | _ => none
theorem gSure7_ok : AnsOk 10 gSure7 := by
  intro vals s v s' lg h hl w
  unfold gSure7 at h
  split at h
  · cases h
    obtain ⟨n1, n2, n3, n4⟩ := sure7_n
    exact fits_calls (tabY_ok conU2_ok) sure7 (okCons (beq_t n4) (okCons (beq_t n3) (okCons (beq_t n2) (okCons (beq_t n1) (okCons (by decide) (okL1 (by decide))))))) (by rfl) (by rfl) w
  · cases h
def conS7 : Con := alt 10 gSure7 conU2
theorem conS7_ok : ConOk conS7 := alt_ok Try.func10 rfl gSure7_ok conU2_ok
end Go.Proofs.Ytnolcojnodoecaa

/-
  prod.Mul, as a call in every world.
-/
namespace Go.Proofs.Ytnolcojnodoecaa
open Go.KRun Go.Wd Go.Pt Go.Rn
set_option maxRecDepth 100000

theorem ml_bad (a b m : Int) : Fits (reckon (tabOf Try.prog extY conP1 true) 300 13 [.int .u64 a, .int .u64 b, .int .i64 m] [cmp true]) (rdT 9221120237041090560 1) [(badB a b, true), (decide (U a ∧ U b), true)] := ⟨by kernel_rfl, by kernel_rfl, by kernel_rfl, by kernel_rfl⟩
theorem ml_n1 (a b m : Int) : Fits (reckon (tabOf Try.prog extY conP1 true) 300 13 [.int .u64 a, .int .u64 b, .int .i64 m] [cmp false, cmp true, cmp true, cmp true]) (rdT 9221120237041090560 1) [(cl a == 5, true), lU a, (decide ((0 : Int) < ((2 : Nat) : Int)), true), (decide (cl a > 3), true), lU a, (badB a b, false), (decide (U a ∧ U b), true)] := ⟨by kernel_rfl, by kernel_rfl, by kernel_rfl, by kernel_rfl⟩
theorem ml_n2 (a b m : Int) : Fits (reckon (tabOf Try.prog extY conP1 true) 300 13 [.int .u64 a, .int .u64 b, .int .i64 m] [cmp false, cmp true, cmp true, cmp false, cmp true, cmp true]) (rdT 9221120237041090560 1) [(cl b == 5, true), lU b, (decide (IntKind.i64.wrap (0 + 1) < ((2 : Nat) : Int)), true), (cl a == 5, false), lU a, (decide ((0 : Int) < ((2 : Nat) : Int)), true), (decide (cl a > 3), true), lU a, (badB a b, false), (decide (U a ∧ U b), true)] := ⟨by kernel_rfl, by kernel_rfl, by kernel_rfl, by kernel_rfl⟩
theorem ml_n3 (a b m : Int) : Fits (reckon (tabOf Try.prog extY conP1 true) 300 13 [.int .u64 a, .int .u64 b, .int .i64 m] [cmp false, cmp true, cmp true, cmp false, cmp true, cmp false, cmp false]) (rdT 9221120237041090560 0) [(decide (IntKind.i64.wrap (IntKind.i64.wrap (0 + 1) + 1) < ((2 : Nat) : Int)), false), (cl b == 5, false), lU b, (decide (IntKind.i64.wrap (0 + 1) < ((2 : Nat) : Int)), true), (cl a == 5, false), lU a, (decide ((0 : Int) < ((2 : Nat) : Int)), true), (decide (cl a > 3), true), lU a, (badB a b, false), (decide (U a ∧ U b), true)] := ⟨by kernel_rfl, by kernel_rfl, by kernel_rfl, by kernel_rfl⟩
theorem ml_m2 (a b m : Int) : Fits (reckon (tabOf Try.prog extY conP1 true) 300 13 [.int .u64 a, .int .u64 b, .int .i64 m] [cmp false, cmp false, cmp true, cmp true, cmp false, cmp true, cmp true]) (rdT 9221120237041090560 1) [(cl b == 5, true), lU b, (decide (IntKind.i64.wrap (0 + 1) < ((2 : Nat) : Int)), true), (cl a == 5, false), lU a, (decide ((0 : Int) < ((2 : Nat) : Int)), true), (decide (cl b > 3), true), lU b, (decide (cl a > 3), false), lU a, (badB a b, false), (decide (U a ∧ U b), true)] := ⟨by kernel_rfl, by kernel_rfl, by kernel_rfl, by kernel_rfl⟩
theorem ml_m3 (a b m : Int) : Fits (reckon (tabOf Try.prog extY conP1 true) 300 13 [.int .u64 a, .int .u64 b, .int .i64 m] [cmp false, cmp false, cmp true, cmp true, cmp false, cmp true, cmp false, cmp false]) (rdT 9221120237041090560 0) [(decide (IntKind.i64.wrap (IntKind.i64.wrap (0 + 1) + 1) < ((2 : Nat) : Int)), false), (cl b == 5, false), lU b, (decide (IntKind.i64.wrap (0 + 1) < ((2 : Nat) : Int)), true), (cl a == 5, false), lU a, (decide ((0 : Int) < ((2 : Nat) : Int)), true), (decide (cl b > 3), true), lU b, (decide (cl a > 3), false), lU a, (badB a b, false), (decide (U a ∧ U b), true)] := ⟨by kernel_rfl, by kernel_rfl, by kernel_rfl, by kernel_rfl⟩
theorem ml_ea (a b m : Int) : Fits (reckon (tabOf Try.prog extY conP1 true) 300 13 [.int .u64 a, .int .u64 b, .int .i64 m] [cmp false, cmp false, cmp false, cmp true]) (rdT (sS (prN a b) inf) 0) [(true, true), (decide (U a ∧ U b), true), (cl a == 3, true), lU a, (decide (cl b > 3), false), lU b, (decide (cl a > 3), false), lU a, (badB a b, false), (decide (U a ∧ U b), true)] := ⟨by kernel_rfl, by kernel_rfl, by kernel_rfl, by kernel_rfl⟩
theorem ml_eb (a b m : Int) : Fits (reckon (tabOf Try.prog extY conP1 true) 300 13 [.int .u64 a, .int .u64 b, .int .i64 m] [cmp false, cmp false, cmp false, cmp false, cmp true]) (rdT (sS (prN a b) inf) 0) [(true, true), (decide (U a ∧ U b), true), (cl b == 3, true), lU b, (cl a == 3, false), lU a, (decide (cl b > 3), false), lU b, (decide (cl a > 3), false), lU a, (badB a b, false), (decide (U a ∧ U b), true)] := ⟨by kernel_rfl, by kernel_rfl, by kernel_rfl, by kernel_rfl⟩
theorem ml_fin (a b m : Int) : Fits (reckon (tabOf Try.prog extY conP1 true) 300 13 [.int .u64 a, .int .u64 b, .int .i64 m] [cmp false, cmp false, cmp false, cmp false, cmp false]) (rdV m (prN a b) (tw (ofN (prV a b)) false) (clp (prE a b) - 1)) [(decide (ofN (prV a b)).ok, true), (finB a b, true), (decide (U a ∧ U b), true), (cl b == 3, false), lU b, (cl a == 3, false), lU a, (decide (cl b > 3), false), lU b, (decide (cl a > 3), false), lU a, (badB a b, false), (decide (U a ∧ U b), true)] := ⟨by kernel_rfl, by kernel_rfl, by kernel_rfl, by kernel_rfl⟩
/-- what Mul answers -/
def muP (m a b : Int) : Int := if badB a b = true then 9221120237041090560 else if 3 < cl a ∨ 3 < cl b then 9221120237041090560 else if cl a = 3 ∨ cl b = 3 then sS (prN a b) inf else sS (prN a b) (mlP m a b)
def muF (m a b : Int) : Int := if badB a b = true then 1 else if 3 < cl a ∨ 3 < cl b then (if cl a = 5 ∨ cl b = 5 then 1 else 0) else if cl a = 3 ∨ cl b = 3 then 0 else mlF m a b
theorem prV_256 (a b : Int) : prV a b < 2 ^ 256 := by
  have := prV_lt a b
  exact Nat.lt_trans this (by decide)
theorem px_round (m a b : Int) : rdV m (prN a b) (tw (ofN (prV a b)) false) (clp (prE a b) - 1) = rdT (sS (prN a b) (mlP m a b)) (mlF m a b) := by
  obtain ⟨c1, c2⟩ := clp_round m (prN a b) (ofN_ok (prV a b)) false (prE a b)
  have e := tw_of (prV_256 a b) false
  have e2 : 2 * prV a b + bN false = prV a b * 2 ^ 1 := by show 2 * prV a b + 0 = _; omega
  have p := rnP_scale m (prN a b) (prV a b) 1 (prE a b)
  have q := rnF_scale m (prN a b) (prV a b) 1 (prE a b)
  have e3 : prE a b - ((1 : Nat) : Int) = prE a b - 1 := rfl
  rw [e3] at p q
  unfold rdV mlP mlF
  rw [c1, c2, e, e2, p, q]
theorem pmul_calls (a b m : Int) (ha : U a) (hb : U b) (w : World) : Calls Try.prog 13 #[.int .u64 a, .int .u64 b, .int .i64 m] w fun r w' => r = .returned (rdT (muP m a b) (muF m a b)) ∧ Tidy w w' := by
  have hv : ([.int .u64 a, .int .u64 b, .int .i64 m].all (lt 0)) = true := rfl
  have T := tabY_ok conP1_ok
  have ka : decide (U a) = true := decide_eq_true ha
  have kb : decide (U b) = true := decide_eq_true hb
  have kab : decide (U a ∧ U b) = true := decide_eq_true ⟨ha, hb⟩
  have ba := cl_bd a
  have bb := cl_bd b
  unfold muP muF
  by_cases hbd : badB a b = true
  · rw [if_pos hbd, if_pos hbd]
    exact fits_calls T (ml_bad a b m) (okCons hbd (okL1 kab)) hv (by rfl) w
  · have hb0 : badB a b = false := by simpa using hbd
    rw [if_neg hbd, if_neg hbd]
    by_cases ha3 : 3 < cl a
    · rw [if_pos (.inl ha3), if_pos (.inl ha3)]
      by_cases a5 : cl a = 5
      · rw [if_pos (.inl a5)]
        exact fits_calls T (ml_n1 a b m) (okCons (beq_t a5) (okCons ka (okCons (by decide) (okCons (decide_eq_true ha3) (okCons ka (okCons hb0 (okL1 kab))))))) hv (by rfl) w
      · by_cases b5 : cl b = 5
        · rw [if_pos (.inr b5)]
          exact fits_calls T (ml_n2 a b m) (okCons (beq_t b5) (okCons kb (okCons (by decide) (okCons (beq_f (by omega)) (okCons ka (okCons (by decide) (okCons (decide_eq_true ha3) (okCons ka (okCons hb0 (okL1 kab)))))))))) hv (by rfl) w
        · rw [if_neg (by omega)]
          exact fits_calls T (ml_n3 a b m) (okCons (by decide) (okCons (beq_f (by omega)) (okCons kb (okCons (by decide) (okCons (beq_f (by omega)) (okCons ka (okCons (by decide) (okCons (decide_eq_true ha3) (okCons ka (okCons hb0 (okL1 kab))))))))))) hv (by rfl) w
    · by_cases hb3 : 3 < cl b
      · rw [if_pos (.inr hb3), if_pos (.inr hb3)]
        by_cases b5 : cl b = 5
        · rw [if_pos (.inr b5)]
          exact fits_calls T (ml_m2 a b m) (okCons (beq_t b5) (okCons kb (okCons (by decide) (okCons (beq_f (by omega)) (okCons ka (okCons (by decide) (okCons (decide_eq_true hb3) (okCons kb (okCons (decide_eq_false ha3) (okCons ka (okCons hb0 (okL1 kab)))))))))))) hv (by rfl) w
        · rw [if_neg (by omega)]
          exact fits_calls T (ml_m3 a b m) (okCons (by decide) (okCons (beq_f (by omega)) (okCons kb (okCons (by decide) (okCons (beq_f (by omega)) (okCons ka (okCons (by decide) (okCons (decide_eq_true hb3) (okCons kb (okCons (decide_eq_false ha3) (okCons ka (okCons hb0 (okL1 kab))))))))))))) hv (by rfl) w
      · have hno : ¬ (3 < cl a ∨ 3 < cl b) := by omega
        rw [if_neg hno, if_neg hno]
        by_cases ae : cl a = 3
        · rw [if_pos (.inl ae), if_pos (.inl ae)]
          exact fits_calls T (ml_ea a b m) (okCons rfl (okCons kab (okCons (beq_t ae) (okCons ka (okCons (decide_eq_false hb3) (okCons kb (okCons (decide_eq_false ha3) (okCons ka (okCons hb0 (okL1 kab)))))))))) hv (by rfl) w
        · by_cases be : cl b = 3
          · rw [if_pos (.inr be), if_pos (.inr be)]
            exact fits_calls T (ml_eb a b m) (okCons rfl (okCons kab (okCons (beq_t be) (okCons kb (okCons (beq_f ae) (okCons ka (okCons (decide_eq_false hb3) (okCons kb (okCons (decide_eq_false ha3) (okCons ka (okCons hb0 (okL1 kab)))))))))))) hv (by rfl) w
          · have hno2 : ¬ (cl a = 3 ∨ cl b = 3) := by omega
            rw [if_neg hno2, if_neg hno2]
            have hf := ml_fin a b m
            rw [px_round] at hf
            exact fits_calls T hf (okCons (decide_eq_true (ofN_ok _)) (okCons (decide_eq_true ⟨by omega, by omega⟩) (okCons kab (okCons (beq_f be) (okCons kb (okCons (beq_f ae) (okCons ka (okCons (decide_eq_false hb3) (okCons kb (okCons (decide_eq_false ha3) (okCons ka (okCons hb0 (okL1 kab))))))))))))) hv (by rfl) w
def gPM : Ans := fun vals s =>
  match vals with
  | [.int .u64 a, .int .u64 b, .int .i64 m] => some (rdT (muP m a b) (muF m a b), s, [(decide (U a ∧ U b), true)])
  | _ => none
theorem gPM_ok : AnsOk 13 gPM := by
  intro vals s v s' lg h hl w
  unfold gPM at h
  split at h
  · cases h
    obtain ⟨h1, h2⟩ := of_decide_eq_true (hl _ (List.mem_singleton.2 rfl))
    exact pmul_calls _ _ _ h1 h2 w
  · cases h
end Go.Proofs.Ytnolcojnodoecaa
