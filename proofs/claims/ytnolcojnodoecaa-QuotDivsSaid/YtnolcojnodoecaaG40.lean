/-
  quot.Div and quot.Sqrt, as calls in every world.
-/
import Derived.Test.YtnolcojnodoecaaG39
import Derived.Test.YtnolcojnodoecaaG32
namespace Go.Proofs.Ytnolcojnodoecaa
open Go.KRun Go.Wd Go.Pt Go.Rn
set_option maxRecDepth 100000

theorem dq_n1 (a b m : Int) : Fits (reckon (tabOf Try.prog extY conU1 true) 300 8 [.int .u64 a, .int .u64 b, .int .i64 m] [cmp true, cmp true, cmp true]) (rdT 9221120237041090560 1) [(cl a == 5, true), lU a, (decide ((0 : Int) < ((2 : Nat) : Int)), true), (decide (cl a > 3), true), lU a] := ⟨by kernel_rfl, by kernel_rfl, by kernel_rfl, by kernel_rfl⟩
theorem dq_n2 (a b m : Int) : Fits (reckon (tabOf Try.prog extY conU1 true) 300 8 [.int .u64 a, .int .u64 b, .int .i64 m] [cmp true, cmp true, cmp false, cmp true, cmp true]) (rdT 9221120237041090560 1) [(cl b == 5, true), lU b, (decide (IntKind.i64.wrap (0 + 1) < ((2 : Nat) : Int)), true), (cl a == 5, false), lU a, (decide ((0 : Int) < ((2 : Nat) : Int)), true), (decide (cl a > 3), true), lU a] := ⟨by kernel_rfl, by kernel_rfl, by kernel_rfl, by kernel_rfl⟩
theorem dq_n3 (a b m : Int) : Fits (reckon (tabOf Try.prog extY conU1 true) 300 8 [.int .u64 a, .int .u64 b, .int .i64 m] [cmp true, cmp true, cmp false, cmp true, cmp false, cmp false]) (rdT 9221120237041090560 0) [(decide (IntKind.i64.wrap (IntKind.i64.wrap (0 + 1) + 1) < ((2 : Nat) : Int)), false), (cl b == 5, false), lU b, (decide (IntKind.i64.wrap (0 + 1) < ((2 : Nat) : Int)), true), (cl a == 5, false), lU a, (decide ((0 : Int) < ((2 : Nat) : Int)), true), (decide (cl a > 3), true), lU a] := ⟨by kernel_rfl, by kernel_rfl, by kernel_rfl, by kernel_rfl⟩
theorem dq_m2 (a b m : Int) : Fits (reckon (tabOf Try.prog extY conU1 true) 300 8 [.int .u64 a, .int .u64 b, .int .i64 m] [cmp false, cmp true, cmp true, cmp false, cmp true, cmp true]) (rdT 9221120237041090560 1) [(cl b == 5, true), lU b, (decide (IntKind.i64.wrap (0 + 1) < ((2 : Nat) : Int)), true), (cl a == 5, false), lU a, (decide ((0 : Int) < ((2 : Nat) : Int)), true), (decide (cl b > 3), true), lU b, (decide (cl a > 3), false), lU a] := ⟨by kernel_rfl, by kernel_rfl, by kernel_rfl, by kernel_rfl⟩
theorem dq_m3 (a b m : Int) : Fits (reckon (tabOf Try.prog extY conU1 true) 300 8 [.int .u64 a, .int .u64 b, .int .i64 m] [cmp false, cmp true, cmp true, cmp false, cmp true, cmp false, cmp false]) (rdT 9221120237041090560 0) [(decide (IntKind.i64.wrap (IntKind.i64.wrap (0 + 1) + 1) < ((2 : Nat) : Int)), false), (cl b == 5, false), lU b, (decide (IntKind.i64.wrap (0 + 1) < ((2 : Nat) : Int)), true), (cl a == 5, false), lU a, (decide ((0 : Int) < ((2 : Nat) : Int)), true), (decide (cl b > 3), true), lU b, (decide (cl a > 3), false), lU a] := ⟨by kernel_rfl, by kernel_rfl, by kernel_rfl, by kernel_rfl⟩
theorem dq_zz (a b m : Int) : Fits (reckon (tabOf Try.prog extY conU1 true) 300 8 [.int .u64 a, .int .u64 b, .int .i64 m] [cmp false, cmp false, cmp true, cmp true]) (rdT 9221120237041090560 1) [(cl b == 0, true), lU b, (cl a == 0, true), lU a, (decide (cl b > 3), false), lU b, (decide (cl a > 3), false), lU a] := ⟨by kernel_rfl, by kernel_rfl, by kernel_rfl, by kernel_rfl⟩
theorem dq_ii (a b m : Int) : Fits (reckon (tabOf Try.prog extY conU1 true) 300 8 [.int .u64 a, .int .u64 b, .int .i64 m] [cmp false, cmp false, cmp false, cmp true, cmp true]) (rdT 9221120237041090560 1) [(cl b == 3, true), lU b, (cl a == 3, true), lU a, (cl a == 0, false), lU a, (decide (cl b > 3), false), lU b, (decide (cl a > 3), false), lU a] := ⟨by kernel_rfl, by kernel_rfl, by kernel_rfl, by kernel_rfl⟩
theorem dq_ia (a b m : Int) : Fits (reckon (tabOf Try.prog extY conU1 true) 300 8 [.int .u64 a, .int .u64 b, .int .i64 m] [cmp false, cmp false, cmp false, cmp true, cmp false, cmp true]) (rdT (bOr (bNot 9218868437227405312 9223372036854775808) (bAnd (bXor a b) 9223372036854775808)) 0) [(cl a == 3, true), lU a, (cl b == 3, false), lU b, (cl a == 3, true), lU a, (cl a == 0, false), lU a, (decide (cl b > 3), false), lU b, (decide (cl a > 3), false), lU a] := ⟨by kernel_rfl, by kernel_rfl, by kernel_rfl, by kernel_rfl⟩
theorem dq_ib (a b m : Int) : Fits (reckon (tabOf Try.prog extY conU1 true) 300 8 [.int .u64 a, .int .u64 b, .int .i64 m] [cmp false, cmp false, cmp false, cmp false, cmp false, cmp true]) (rdT (bOr (bNot 0 9223372036854775808) (bAnd (bXor a b) 9223372036854775808)) 0) [(cl b == 3, true), lU b, (cl a == 3, false), lU a, (cl a == 3, false), lU a, (cl a == 0, false), lU a, (decide (cl b > 3), false), lU b, (decide (cl a > 3), false), lU a] := ⟨by kernel_rfl, by kernel_rfl, by kernel_rfl, by kernel_rfl⟩
theorem dq_zb (a b m : Int) : Fits (reckon (tabOf Try.prog extY conU1 true) 300 8 [.int .u64 a, .int .u64 b, .int .i64 m] [cmp false, cmp false, cmp true, cmp false, cmp false, cmp false, cmp true]) (rdT (bOr (bNot 0 9223372036854775808) (bAnd (bXor a b) 9223372036854775808)) 0) [(cl b == 3, true), lU b, (cl a == 3, false), lU a, (cl a == 3, false), lU a, (cl b == 0, false), lU b, (cl a == 0, true), lU a, (decide (cl b > 3), false), lU b, (decide (cl a > 3), false), lU a] := ⟨by kernel_rfl, by kernel_rfl, by kernel_rfl, by kernel_rfl⟩
theorem dq_bz (a b m : Int) : Fits (reckon (tabOf Try.prog extY conU1 true) 300 8 [.int .u64 a, .int .u64 b, .int .i64 m] [cmp false, cmp false, cmp false, cmp false, cmp false, cmp false, cmp true]) (rdT (bOr (bNot 9218868437227405312 9223372036854775808) (bAnd (bXor a b) 9223372036854775808)) 2) [(cl b == 0, true), lU b, (cl b == 3, false), lU b, (cl a == 3, false), lU a, (cl a == 3, false), lU a, (cl a == 0, false), lU a, (decide (cl b > 3), false), lU b, (decide (cl a > 3), false), lU a] := ⟨by kernel_rfl, by kernel_rfl, by kernel_rfl, by kernel_rfl⟩
theorem dq_f (a b m : Int) : Fits (reckon (tabOf Try.prog extY conU1 true) 300 8 [.int .u64 a, .int .u64 b, .int .i64 m] [cmp false, cmp false, cmp false, cmp false, cmp false, cmp false, cmp false]) (rdV m (prN a b) (tw (ofN (dvQ a b)) (dvM a b)) (clp (xp a - xp b - 128) - 1)) [(decide (ofN (dvQ a b)).ok, true), (okQo a b, true), (decide (U a ∧ U b), true), (cl b == 0, false), lU b, (cl b == 3, false), lU b, (cl a == 3, false), lU a, (cl a == 3, false), lU a, (cl a == 0, false), lU a, (decide (cl b > 3), false), lU b, (decide (cl a > 3), false), lU a] := ⟨by kernel_rfl, by kernel_rfl, by kernel_rfl, by kernel_rfl⟩
theorem dq_zf (a b m : Int) : Fits (reckon (tabOf Try.prog extY conU1 true) 300 8 [.int .u64 a, .int .u64 b, .int .i64 m] [cmp false, cmp false, cmp true, cmp false, cmp false, cmp false, cmp false, cmp false]) (rdV m (prN a b) (tw (ofN (dvQ a b)) (dvM a b)) (clp (xp a - xp b - 128) - 1)) [(decide (ofN (dvQ a b)).ok, true), (okQo a b, true), (decide (U a ∧ U b), true), (cl b == 0, false), lU b, (cl b == 3, false), lU b, (cl a == 3, false), lU a, (cl a == 3, false), lU a, (cl b == 0, false), lU b, (cl a == 0, true), lU a, (decide (cl b > 3), false), lU b, (decide (cl a > 3), false), lU a] := ⟨by kernel_rfl, by kernel_rfl, by kernel_rfl, by kernel_rfl⟩
theorem sq_n1 (a m : Int) : Fits (reckon (tabOf Try.prog extY conU1 true) 300 11 [.int .u64 a, .int .i64 m] [cmp true, cmp true, cmp true]) (rdT 9221120237041090560 1) [(cl a == 5, true), lU a, (decide ((0 : Int) < ((1 : Nat) : Int)), true), (decide (cl a > 3), true), lU a] := ⟨by kernel_rfl, by kernel_rfl, by kernel_rfl, by kernel_rfl⟩
theorem sq_n0 (a m : Int) : Fits (reckon (tabOf Try.prog extY conU1 true) 300 11 [.int .u64 a, .int .i64 m] [cmp true, cmp true, cmp false, cmp false]) (rdT 9221120237041090560 0) [(decide (IntKind.i64.wrap (0 + 1) < ((1 : Nat) : Int)), false), (cl a == 5, false), lU a, (decide ((0 : Int) < ((1 : Nat) : Int)), true), (decide (cl a > 3), true), lU a] := ⟨by kernel_rfl, by kernel_rfl, by kernel_rfl, by kernel_rfl⟩
theorem sq_z (a m : Int) : Fits (reckon (tabOf Try.prog extY conU1 true) 300 11 [.int .u64 a, .int .i64 m] [cmp false, cmp true]) (rdT a 0) [(cl a == 0, true), lU a, (decide (cl a > 3), false), lU a] := ⟨by kernel_rfl, by kernel_rfl, by kernel_rfl, by kernel_rfl⟩
theorem sq_m (a m : Int) : Fits (reckon (tabOf Try.prog extY conU1 true) 300 11 [.int .u64 a, .int .i64 m] [cmp false, cmp false, cmp true]) (rdT 9221120237041090560 1) [((bNot a 9223372036854775808) != a, true), (cl a == 0, false), lU a, (decide (cl a > 3), false), lU a] := ⟨by kernel_rfl, by kernel_rfl, by kernel_rfl, by kernel_rfl⟩
theorem sq_i (a m : Int) : Fits (reckon (tabOf Try.prog extY conU1 true) 300 11 [.int .u64 a, .int .i64 m] [cmp false, cmp false, cmp false, cmp true]) (rdT a 0) [(cl a == 3, true), lU a, ((bNot a 9223372036854775808) != a, false), (cl a == 0, false), lU a, (decide (cl a > 3), false), lU a] := ⟨by kernel_rfl, by kernel_rfl, by kernel_rfl, by kernel_rfl⟩
theorem sq_f (a m : Int) : Fits (reckon (tabOf Try.prog extY conU1 true) 300 11 [.int .u64 a, .int .i64 m] [cmp false, cmp false, cmp false, cmp false]) (rdV m false (tw (ofN (isq (rtX a))) (rtM a)) (clp ((xp a - rtU a) / 2) - 1)) [(decide (ofN (isq (rtX a))).ok, true), ((fun a => decide (cl a ≤ 2)) a, true), lU a, (cl a == 3, false), lU a, ((bNot a 9223372036854775808) != a, false), (cl a == 0, false), lU a, (decide (cl a > 3), false), lU a] := ⟨by kernel_rfl, by kernel_rfl, by kernel_rfl, by kernel_rfl⟩
/-- what Div answers -/
def quP (m a b : Int) : Int := if 3 < cl a ∨ 3 < cl b then 9221120237041090560 else if (cl a = 0 ∧ cl b = 0) ∨ (cl a = 3 ∧ cl b = 3) then 9221120237041090560 else if cl a = 3 then sS (prN a b) inf else if cl b = 3 then sS (prN a b) 0 else if cl b = 0 then sS (prN a b) inf else sS (prN a b) (dvP m a b)
def quF (m a b : Int) : Int := if 3 < cl a ∨ 3 < cl b then (if cl a = 5 ∨ cl b = 5 then 1 else 0) else if (cl a = 0 ∧ cl b = 0) ∨ (cl a = 3 ∧ cl b = 3) then 1 else if cl a = 3 then 0 else if cl b = 3 then 0 else if cl b = 0 then 2 else dvF m a b
theorem en_eq0 {a b : Int} (ha : U a) (hb : U b) : bOr (bNot 0 9223372036854775808) (bAnd (bXor a b) 9223372036854775808) = sS (prN a b) 0 := by
  rw [(xor_top ha hb).2]
  cases prN a b <;> decide
theorem div_calls7 (a b m : Int) (ha : U a) (hb : U b) (w : World) : Calls Try.prog 8 #[.int .u64 a, .int .u64 b, .int .i64 m] w fun r w' => r = .returned (rdT (quP m a b) (quF m a b)) ∧ Tidy w w' := by
  have hv : ([.int .u64 a, .int .u64 b, .int .i64 m].all (lt 0)) = true := rfl
  have T := tabY_ok conU1_ok
  have ka : decide (U a) = true := decide_eq_true ha
  have kb : decide (U b) = true := decide_eq_true hb
  have kab : decide (U a ∧ U b) = true := decide_eq_true ⟨ha, hb⟩
  have ba := cl_bd a
  have bb := cl_bd b
  have en := en_eq ha hb
  have en0 := en_eq0 ha hb
  unfold quP quF
  by_cases ha3 : 3 < cl a
  · rw [if_pos (.inl ha3), if_pos (.inl ha3)]
    by_cases a5 : cl a = 5
    · rw [if_pos (.inl a5)]
      exact fits_calls T (dq_n1 a b m) (okCons (beq_t (by omega)) (okCons ka (okCons (by decide) (okCons (decide_eq_true (by omega)) (okL1 ka))))) hv (by rfl) w
    · by_cases b5 : cl b = 5
      · rw [if_pos (.inr b5)]
        exact fits_calls T (dq_n2 a b m) (okCons (beq_t (by omega)) (okCons kb (okCons (by decide) (okCons (beq_f (by omega)) (okCons ka (okCons (by decide) (okCons (decide_eq_true (by omega)) (okL1 ka)))))))) hv (by rfl) w
      · rw [if_neg (by omega)]
        exact fits_calls T (dq_n3 a b m) (okCons (by decide) (okCons (beq_f (by omega)) (okCons kb (okCons (by decide) (okCons (beq_f (by omega)) (okCons ka (okCons (by decide) (okCons (decide_eq_true (by omega)) (okL1 ka))))))))) hv (by rfl) w
  · by_cases hb3 : 3 < cl b
    · rw [if_pos (.inr hb3), if_pos (.inr hb3)]
      by_cases b5 : cl b = 5
      · rw [if_pos (.inr b5)]
        exact fits_calls T (dq_m2 a b m) (okCons (beq_t (by omega)) (okCons kb (okCons (by decide) (okCons (beq_f (by omega)) (okCons ka (okCons (by decide) (okCons (decide_eq_true (by omega)) (okCons kb (okCons (decide_eq_false (by omega)) (okL1 ka)))))))))) hv (by rfl) w
      · rw [if_neg (by omega)]
        exact fits_calls T (dq_m3 a b m) (okCons (by decide) (okCons (beq_f (by omega)) (okCons kb (okCons (by decide) (okCons (beq_f (by omega)) (okCons ka (okCons (by decide) (okCons (decide_eq_true (by omega)) (okCons kb (okCons (decide_eq_false (by omega)) (okL1 ka))))))))))) hv (by rfl) w
    · have hno : ¬ (3 < cl a ∨ 3 < cl b) := by omega
      rw [if_neg hno, if_neg hno]
      by_cases az : cl a = 0
      · by_cases bz : cl b = 0
        · rw [if_pos (.inl ⟨az, bz⟩), if_pos (.inl ⟨az, bz⟩)]
          exact fits_calls T (dq_zz a b m) (okCons (beq_t (by omega)) (okCons kb (okCons (beq_t (by omega)) (okCons ka (okCons (decide_eq_false (by omega)) (okCons kb (okCons (decide_eq_false (by omega)) (okL1 ka)))))))) hv (by rfl) w
        · have hn2 : ¬ ((cl a = 0 ∧ cl b = 0) ∨ (cl a = 3 ∧ cl b = 3)) := by omega
          have a3 : ¬ cl a = 3 := by omega
          rw [if_neg hn2, if_neg hn2, if_neg a3, if_neg a3]
          by_cases b3 : cl b = 3
          · rw [if_pos b3, if_pos b3, ← en0]
            exact fits_calls T (dq_zb a b m) (okCons (beq_t (by omega)) (okCons kb (okCons (beq_f (by omega)) (okCons ka (okCons (beq_f (by omega)) (okCons ka (okCons (beq_f (by omega)) (okCons kb (okCons (beq_t (by omega)) (okCons ka (okCons (decide_eq_false (by omega)) (okCons kb (okCons (decide_eq_false (by omega)) (okL1 ka)))))))))))))) hv (by rfl) w
          · rw [if_neg b3, if_neg b3, if_neg bz, if_neg bz]
            have hf := dq_zf a b m
            rw [dv_round] at hf
            exact fits_calls T hf (okCons (decide_eq_true (ofN_ok _)) (okCons (decide_eq_true ⟨by omega, by omega, by omega⟩) (okCons kab (okCons (beq_f (by omega)) (okCons kb (okCons (beq_f (by omega)) (okCons kb (okCons (beq_f (by omega)) (okCons ka (okCons (beq_f (by omega)) (okCons ka (okCons (beq_f (by omega)) (okCons kb (okCons (beq_t (by omega)) (okCons ka (okCons (decide_eq_false (by omega)) (okCons kb (okCons (decide_eq_false (by omega)) (okL1 ka))))))))))))))))))) hv (by rfl) w
      · by_cases a3 : cl a = 3
        · by_cases b3 : cl b = 3
          · rw [if_pos (.inr ⟨a3, b3⟩), if_pos (.inr ⟨a3, b3⟩)]
            exact fits_calls T (dq_ii a b m) (okCons (beq_t (by omega)) (okCons kb (okCons (beq_t (by omega)) (okCons ka (okCons (beq_f (by omega)) (okCons ka (okCons (decide_eq_false (by omega)) (okCons kb (okCons (decide_eq_false (by omega)) (okL1 ka)))))))))) hv (by rfl) w
          · have hn2 : ¬ ((cl a = 0 ∧ cl b = 0) ∨ (cl a = 3 ∧ cl b = 3)) := by omega
            rw [if_neg hn2, if_neg hn2, if_pos a3, if_pos a3, ← en]
            exact fits_calls T (dq_ia a b m) (okCons (beq_t (by omega)) (okCons ka (okCons (beq_f (by omega)) (okCons kb (okCons (beq_t (by omega)) (okCons ka (okCons (beq_f (by omega)) (okCons ka (okCons (decide_eq_false (by omega)) (okCons kb (okCons (decide_eq_false (by omega)) (okL1 ka)))))))))))) hv (by rfl) w
        · have hn2 : ¬ ((cl a = 0 ∧ cl b = 0) ∨ (cl a = 3 ∧ cl b = 3)) := by omega
          rw [if_neg hn2, if_neg hn2, if_neg a3, if_neg a3]
          by_cases b3 : cl b = 3
          · rw [if_pos b3, if_pos b3, ← en0]
            exact fits_calls T (dq_ib a b m) (okCons (beq_t (by omega)) (okCons kb (okCons (beq_f (by omega)) (okCons ka (okCons (beq_f (by omega)) (okCons ka (okCons (beq_f (by omega)) (okCons ka (okCons (decide_eq_false (by omega)) (okCons kb (okCons (decide_eq_false (by omega)) (okL1 ka)))))))))))) hv (by rfl) w
          · rw [if_neg b3, if_neg b3]
            by_cases bz : cl b = 0
            · rw [if_pos bz, if_pos bz, ← en]
              exact fits_calls T (dq_bz a b m) (okCons (beq_t (by omega)) (okCons kb (okCons (beq_f (by omega)) (okCons kb (okCons (beq_f (by omega)) (okCons ka (okCons (beq_f (by omega)) (okCons ka (okCons (beq_f (by omega)) (okCons ka (okCons (decide_eq_false (by omega)) (okCons kb (okCons (decide_eq_false (by omega)) (okL1 ka)))))))))))))) hv (by rfl) w
            · rw [if_neg bz, if_neg bz]
              have hf := dq_f a b m
              rw [dv_round] at hf
              exact fits_calls T hf (okCons (decide_eq_true (ofN_ok _)) (okCons (decide_eq_true ⟨by omega, by omega, by omega⟩) (okCons kab (okCons (beq_f (by omega)) (okCons kb (okCons (beq_f (by omega)) (okCons kb (okCons (beq_f (by omega)) (okCons ka (okCons (beq_f (by omega)) (okCons ka (okCons (beq_f (by omega)) (okCons ka (okCons (decide_eq_false (by omega)) (okCons kb (okCons (decide_eq_false (by omega)) (okL1 ka))))))))))))))))) hv (by rfl) w
def gQD : Ans := fun vals s =>
  match vals with
  | [.int .u64 a, .int .u64 b, .int .i64 m] => some (rdT (quP m a b) (quF m a b), s, [(decide (U a ∧ U b), true)])
  | _ => none
theorem gQD_ok : AnsOk 8 gQD := by
  intro vals s v s' lg h hl w
  unfold gQD at h
  split at h
  · cases h
    obtain ⟨h1, h2⟩ := of_decide_eq_true (hl _ (List.mem_singleton.2 rfl))
    exact div_calls7 _ _ _ h1 h2 w
  · cases h
/-- what Sqrt answers -/
def sqP (m a : Int) : Int := if 3 < cl a then 9221120237041090560 else if cl a = 0 then a else if sgn a = true then 9221120237041090560 else if cl a = 3 then a else rtP m a
def sqF (m a : Int) : Int := if 3 < cl a then (if cl a = 5 then 1 else 0) else if cl a = 0 then 0 else if sgn a = true then 1 else if cl a = 3 then 0 else rtF m a
theorem sqrt_calls7 (a m : Int) (ha : U a) (w : World) : Calls Try.prog 11 #[.int .u64 a, .int .i64 m] w fun r w' => r = .returned (rdT (sqP m a) (sqF m a)) ∧ Tidy w w' := by
  have hv : ([.int .u64 a, .int .i64 m].all (lt 0)) = true := rfl
  have T := tabY_ok conU1_ok
  have ka : decide (U a) = true := decide_eq_true ha
  have ba := cl_bd a
  have hn := bNot_sign ha
  unfold sqP sqF
  by_cases ha3 : 3 < cl a
  · rw [if_pos ha3, if_pos ha3]
    by_cases a5 : cl a = 5
    · rw [if_pos a5]
      exact fits_calls T (sq_n1 a m) (okCons (beq_t (by omega)) (okCons ka (okCons (by decide) (okCons (decide_eq_true (by omega)) (okL1 ka))))) hv (by rfl) w
    · rw [if_neg a5]
      exact fits_calls T (sq_n0 a m) (okCons (by decide) (okCons (beq_f (by omega)) (okCons ka (okCons (by decide) (okCons (decide_eq_true (by omega)) (okL1 ka)))))) hv (by rfl) w
  · rw [if_neg ha3, if_neg ha3]
    by_cases az : cl a = 0
    · rw [if_pos az, if_pos az]
      exact fits_calls T (sq_z a m) (okCons (beq_t (by omega)) (okCons ka (okCons (decide_eq_false (by omega)) (okL1 ka)))) hv (by rfl) w
    · rw [if_neg az, if_neg az]
      by_cases sa : sgn a = true
      · rw [if_pos sa, if_pos sa]
        have h9 : 9223372036854775808 ≤ a := of_decide_eq_true sa
        have hm : bNot a 9223372036854775808 ≠ a := by rw [hn]; omega
        exact fits_calls T (sq_m a m) (okCons (bne_t hm) (okCons (beq_f (by omega)) (okCons ka (okCons (decide_eq_false (by omega)) (okL1 ka))))) hv (by rfl) w
      · rw [if_neg sa, if_neg sa]
        have h9 : ¬ 9223372036854775808 ≤ a := fun h => sa (decide_eq_true h)
        have hm : bNot a 9223372036854775808 = a := by have := ha.1; rw [hn]; omega
        by_cases a3 : cl a = 3
        · rw [if_pos a3, if_pos a3]
          exact fits_calls T (sq_i a m) (okCons (beq_t (by omega)) (okCons ka (okCons (bne_f hm) (okCons (beq_f (by omega)) (okCons ka (okCons (decide_eq_false (by omega)) (okL1 ka))))))) hv (by rfl) w
        · rw [if_neg a3, if_neg a3]
          have hf := sq_f a m
          rw [rt_round] at hf
          exact fits_calls T hf (okCons (decide_eq_true (ofN_ok _)) (okCons (decide_eq_true (show cl a ≤ 2 by omega)) (okCons ka (okCons (beq_f (by omega)) (okCons ka (okCons (bne_f hm) (okCons (beq_f (by omega)) (okCons ka (okCons (decide_eq_false (by omega)) (okL1 ka)))))))))) hv (by rfl) w
def gQS : Ans := fun vals s =>
  match vals with
  | [.int .u64 a, .int .i64 m] => some (rdT (sqP m a) (sqF m a), s, [(decide (U a), true)])
  | _ => none
theorem gQS_ok : AnsOk 11 gQS := by
  intro vals s v s' lg h hl w
  unfold gQS at h
  split at h
  · cases h
    exact sqrt_calls7 _ _ (of_decide_eq_true (hl _ (List.mem_singleton.2 rfl))) w
  · cases h
/-! ### the law's own 'sure' -/
def conU2 : Con := alt 8 gQD (alt 11 gQS conN)
theorem conU2_ok : ConOk conU2 := alt_ok Try.func8 rfl gQD_ok (alt_ok Try.func11 rfl gQS_ok conN_ok)
theorem sure7_n : quP 0 4607182418800017408 4613937818241073152 = 4599676419421066581 ∧ quF 0 4607182418800017408 4613937818241073152 = 16 ∧ sqP 0 4611686018427387904 = 4609047870845172685 ∧ sqF 0 4611686018427387904 = 16 := ⟨by kernel_rfl, by kernel_rfl, by kernel_rfl, by kernel_rfl⟩
theorem sure7 : Fits (reckon (tabOf Try.prog extY conU2 true) 300 10 [] [cmp true, cmp true, cmp true, cmp true]) (.bool true) [(sqF 0 4611686018427387904 == 16, true), (sqP 0 4611686018427387904 == 4609047870845172685, true), (quF 0 4607182418800017408 4613937818241073152 == 16, true), (quP 0 4607182418800017408 4613937818241073152 == 4599676419421066581, true), (decide (U 4611686018427387904), true), (decide (U 4607182418800017408 ∧ U 4613937818241073152), true)] := ⟨by kernel_rfl, by kernel_rfl, by kernel_rfl, by kernel_rfl⟩
def gSure7 : Ans := fun vals s => match vals with | [] => some (.bool true, s, []) | _ => none
theorem gSure7_ok : AnsOk 10 gSure7 := by
  intro vals s v s' lg h hl w
  unfold gSure7 at h
  split at h
  · cases h
    obtain ⟨n1, n2, n3, n4⟩ := sure7_n
    exact fits_calls (tabY_ok conU2_ok) sure7 (okCons (beq_t n4) (okCons (beq_t n3) (okCons (beq_t n2) (okCons (beq_t n1) (okCons (by decide) (okL1 (by decide))))))) (by rfl) (by rfl) w
  · cases h
def conS7 : Con := alt 10 gSure7 conU2
theorem conS7_ok : ConOk conS7 := alt_ok Try.func10 rfl gSure7_ok conU2_ok
end Go.Proofs.Ytnolcojnodoecaa

/-
  The document's Div (tillerref07), as a call in every world.
-/
namespace Go.Proofs.Ytnolcojnodoecaa
open Go.KRun Go.Nt Go.Wd Go.Pt Go.Rn
set_option maxRecDepth 100000

def bPt (p : Int) : List Value × TypeId := ([.bool (sgn p), .int .i64 (cl p), .int .i64 (xp p), .int .u64 (sg p)], 45)
def w16 (X : Nat) : List Value × TypeId := (wU (d16 X), tU)
def M3 (a b : Int) : Hp := ⟨3, [w16 (sg a).toNat, bPt b, bPt a]⟩
def M5 (a b : Int) (V : Nat) : Hp := ⟨5, [w16 (sg b).toNat, w16 V, w16 (sg a).toNat, bPt b, bPt a]⟩
def L7 (a b : Int) (V Q R : Nat) : List (List Value × TypeId) := [w16 R, w16 Q, w16 (sg b).toNat, w16 V, w16 (sg a).toNat, bPt b, bPt a]
def M7 (a b : Int) (V Q R : Nat) : Hp := ⟨7, L7 a b V Q R⟩
def M8 (a b : Int) (V Q R : Nat) : Hp := ⟨8, bOf false 0 nilS :: L7 a b V Q R⟩
def M9 (a b : Int) (V Q R S : Nat) : Hp := ⟨9, bOf (prN a b) (IntKind.i64.wrap (IntKind.i64.wrap (xp a - xp b) - 121)) (sOf 7 S) :: w16 S :: L7 a b V Q R⟩
def M10 (a b : Int) (V Q R S : Nat) : Hp := ⟨10, w16 1 :: bOf (prN a b) (IntKind.i64.wrap (IntKind.i64.wrap (xp a - xp b) - 121)) (sOf 7 S) :: w16 S :: L7 a b V Q R⟩
def M11 (a b : Int) (V Q R S T : Nat) : Hp := ⟨11, w16 T :: w16 1 :: bOf (prN a b) (IntKind.i64.wrap (IntKind.i64.wrap (xp a - xp b) - 121)) (sOf 10 T) :: w16 S :: L7 a b V Q R⟩
theorem rd_r (a b m : Int) (V Q R S T : Nat) : Fits (reckon (tabH Try.prog extY conR7 hcT) 300 9 [.int .u64 a, .int .u64 b, .int .i64 m] [cmp false, cmp false, cmp false, cmp false, cmp false, cmp false, cmp false, cmp false, cmp true, num V, num Q, num R, at_, num 1, at_, num 2, at_, num 8, num 2, cmp true, num S, num 89, num 13, cmp true, cmp true, num T, num T]) (.tuple #[.int .u64 (sS (prN a b) (rnP m (prN a b) T (IntKind.i64.wrap (IntKind.i64.wrap (xp a - xp b) - 121)))), .int .i64 (rnF m (prN a b) T (IntKind.i64.wrap (IntKind.i64.wrap (xp a - xp b) - 121)))]) [(decide (vO (M11 a b V Q R S T) (aP 10 0) (d16 T).length = T), true), (okRo (M11 a b V Q R S T) (aP 10 0) (d16 T).length (d16 T).length (IntKind.i64.wrap (IntKind.i64.wrap (xp a - xp b) - 121)), true), (decide (vO (M10 a b V Q R S) (aP 7 0) (d16 S).length + vO (M10 a b V Q R S) (aP 9 0) (d16 1).length = T), true), (two16 (M10 a b V Q R S) (aP 7 0) (aP 9 0) (d16 S).length (d16 S).length (d16 1).length (d16 1).length, true), (decide (0 < (d16 S).length ∨ 0 < (d16 1).length), true), (decide (0 ≤ (1 : Int) ∧ (1 : Int) < 18446744073709551616), true), (decide (vO (M10 a b V Q R S) (aP 7 0) (d16 S).length + vO (M10 a b V Q R S) (aP 9 0) (d16 1).length = T), true), (two16 (M10 a b V Q R S) (aP 7 0) (aP 9 0) (d16 S).length (d16 S).length (d16 1).length (d16 1).length, true), (decide (0 < (d16 S).length ∨ 0 < (d16 1).length), true), (decide (0 ≤ (1 : Int) ∧ (1 : Int) < 18446744073709551616), true), (decide ((((d16 R).length : Nat) : Int) > 0), true), ((wU (d16 S)).all calm1, true), ((wU (d16 R)).all calm1, true), ((wU (d16 Q)).all calm1, true), ((wU (d16 (sg b).toNat)).all calm1, true), ((wU (d16 V)).all calm1, true), ((wU (d16 (sg a).toNat)).all calm1, true), (decide (vO (M8 a b V Q R) (aP 5 0) (d16 Q).length * 2 ^ (1 : Int).toNat = S), true), (okSh (M8 a b V Q R) (aP 5 0) (d16 Q).length (d16 Q).length 1, true), (decide (0 < (d16 Q).length), true), (decide (vO (M7 a b V Q R) (aP 5 0) (d16 Q).length * 2 ^ (1 : Int).toNat = S), true), (okSh (M7 a b V Q R) (aP 5 0) (d16 Q).length (d16 Q).length 1, true), (decide (0 < (d16 Q).length), true), (decide (vO (M5 a b V) (aP 3 0) (d16 V).length / vO (M5 a b V) (aP 4 0) (d16 (sg b).toNat).length = Q ∧ vO (M5 a b V) (aP 3 0) (d16 V).length % vO (M5 a b V) (aP 4 0) (d16 (sg b).toNat).length = R), true), (okPa (M5 a b V) (aP 3 0) (aP 4 0) (d16 V).length (d16 V).length (d16 (sg b).toNat).length (d16 (sg b).toNat).length, true), (decide (0 ≤ sg b ∧ sg b < 18446744073709551616), true), (decide (vO (M3 a b) (aP 2 0) (d16 (sg a).toNat).length * 2 ^ (120 : Int).toNat = V), true), (okSh (M3 a b) (aP 2 0) (d16 (sg a).toNat).length (d16 (sg a).toNat).length 120, true), (decide (0 < (d16 (sg a).toNat).length), true), (decide (0 ≤ sg a ∧ sg a < 18446744073709551616), true), (cl b == 0, false), (cl a == 0, false), (cl b == 3, false), (cl a == 3, false), (cl a == 0, false), (cl a == 3, false), (decide (cl b > 3), false), lU b, (decide (cl a > 3), false), lU a, lU b, lU a] := ⟨by kernel_rfl, by kernel_rfl, by kernel_rfl, by kernel_rfl⟩
theorem rd_e (a b m : Int) (V Q R S : Nat) : Fits (reckon (tabH Try.prog extY conR7 hcT) 300 9 [.int .u64 a, .int .u64 b, .int .i64 m] [cmp false, cmp false, cmp false, cmp false, cmp false, cmp false, cmp false, cmp false, cmp true, num V, num Q, num R, at_, num 1, at_, num 2, at_, num 8, num 2, cmp true, num S, num 89, num 13, cmp false, num S]) (.tuple #[.int .u64 (sS (prN a b) (rnP m (prN a b) S (IntKind.i64.wrap (IntKind.i64.wrap (xp a - xp b) - 121)))), .int .i64 (rnF m (prN a b) S (IntKind.i64.wrap (IntKind.i64.wrap (xp a - xp b) - 121)))]) [(decide (vO (M9 a b V Q R S) (aP 7 0) (d16 S).length = S), true), (okRo (M9 a b V Q R S) (aP 7 0) (d16 S).length (d16 S).length (IntKind.i64.wrap (IntKind.i64.wrap (xp a - xp b) - 121)), true), (decide ((((d16 R).length : Nat) : Int) > 0), false), ((wU (d16 S)).all calm1, true), ((wU (d16 R)).all calm1, true), ((wU (d16 Q)).all calm1, true), ((wU (d16 (sg b).toNat)).all calm1, true), ((wU (d16 V)).all calm1, true), ((wU (d16 (sg a).toNat)).all calm1, true), (decide (vO (M8 a b V Q R) (aP 5 0) (d16 Q).length * 2 ^ (1 : Int).toNat = S), true), (okSh (M8 a b V Q R) (aP 5 0) (d16 Q).length (d16 Q).length 1, true), (decide (0 < (d16 Q).length), true), (decide (vO (M7 a b V Q R) (aP 5 0) (d16 Q).length * 2 ^ (1 : Int).toNat = S), true), (okSh (M7 a b V Q R) (aP 5 0) (d16 Q).length (d16 Q).length 1, true), (decide (0 < (d16 Q).length), true), (decide (vO (M5 a b V) (aP 3 0) (d16 V).length / vO (M5 a b V) (aP 4 0) (d16 (sg b).toNat).length = Q ∧ vO (M5 a b V) (aP 3 0) (d16 V).length % vO (M5 a b V) (aP 4 0) (d16 (sg b).toNat).length = R), true), (okPa (M5 a b V) (aP 3 0) (aP 4 0) (d16 V).length (d16 V).length (d16 (sg b).toNat).length (d16 (sg b).toNat).length, true), (decide (0 ≤ sg b ∧ sg b < 18446744073709551616), true), (decide (vO (M3 a b) (aP 2 0) (d16 (sg a).toNat).length * 2 ^ (120 : Int).toNat = V), true), (okSh (M3 a b) (aP 2 0) (d16 (sg a).toNat).length (d16 (sg a).toNat).length 120, true), (decide (0 < (d16 (sg a).toNat).length), true), (decide (0 ≤ sg a ∧ sg a < 18446744073709551616), true), (cl b == 0, false), (cl a == 0, false), (cl b == 3, false), (cl a == 3, false), (cl a == 0, false), (cl a == 3, false), (decide (cl b > 3), false), lU b, (decide (cl a > 3), false), lU a, lU b, lU a] := ⟨by kernel_rfl, by kernel_rfl, by kernel_rfl, by kernel_rfl⟩
theorem rd_n1 (a b m : Int) : Fits (reckon (tabH Try.prog extY conR7 hcT) 300 9 [.int .u64 a, .int .u64 b, .int .i64 m] [cmp true, cmp true]) (.tuple #[.int .u64 9221120237041090560, .int .i64 1]) [(cl a == 5, true), lU a, (decide (cl a > 3), true), lU a, lU b, lU a] := ⟨by kernel_rfl, by kernel_rfl, by kernel_rfl, by kernel_rfl⟩
theorem rd_n2 (a b m : Int) : Fits (reckon (tabH Try.prog extY conR7 hcT) 300 9 [.int .u64 a, .int .u64 b, .int .i64 m] [cmp true, cmp false, cmp true]) (.tuple #[.int .u64 9221120237041090560, .int .i64 1]) [(cl b == 5, true), lU b, (cl a == 5, false), lU a, (decide (cl a > 3), true), lU a, lU b, lU a] := ⟨by kernel_rfl, by kernel_rfl, by kernel_rfl, by kernel_rfl⟩
theorem rd_n3 (a b m : Int) : Fits (reckon (tabH Try.prog extY conR7 hcT) 300 9 [.int .u64 a, .int .u64 b, .int .i64 m] [cmp true, cmp false, cmp false]) (.tuple #[.int .u64 9221120237041090560, .int .i64 0]) [(cl b == 5, false), lU b, (cl a == 5, false), lU a, (decide (cl a > 3), true), lU a, lU b, lU a] := ⟨by kernel_rfl, by kernel_rfl, by kernel_rfl, by kernel_rfl⟩
theorem rd_m1 (a b m : Int) : Fits (reckon (tabH Try.prog extY conR7 hcT) 300 9 [.int .u64 a, .int .u64 b, .int .i64 m] [cmp false, cmp true, cmp true]) (.tuple #[.int .u64 9221120237041090560, .int .i64 1]) [(cl a == 5, true), lU a, (decide (cl b > 3), true), lU b, (decide (cl a > 3), false), lU a, lU b, lU a] := ⟨by kernel_rfl, by kernel_rfl, by kernel_rfl, by kernel_rfl⟩
theorem rd_m2 (a b m : Int) : Fits (reckon (tabH Try.prog extY conR7 hcT) 300 9 [.int .u64 a, .int .u64 b, .int .i64 m] [cmp false, cmp true, cmp false, cmp true]) (.tuple #[.int .u64 9221120237041090560, .int .i64 1]) [(cl b == 5, true), lU b, (cl a == 5, false), lU a, (decide (cl b > 3), true), lU b, (decide (cl a > 3), false), lU a, lU b, lU a] := ⟨by kernel_rfl, by kernel_rfl, by kernel_rfl, by kernel_rfl⟩
theorem rd_m3 (a b m : Int) : Fits (reckon (tabH Try.prog extY conR7 hcT) 300 9 [.int .u64 a, .int .u64 b, .int .i64 m] [cmp false, cmp true, cmp false, cmp false]) (.tuple #[.int .u64 9221120237041090560, .int .i64 0]) [(cl b == 5, false), lU b, (cl a == 5, false), lU a, (decide (cl b > 3), true), lU b, (decide (cl a > 3), false), lU a, lU b, lU a] := ⟨by kernel_rfl, by kernel_rfl, by kernel_rfl, by kernel_rfl⟩
theorem rd_ii (a b m : Int) : Fits (reckon (tabH Try.prog extY conR7 hcT) 300 9 [.int .u64 a, .int .u64 b, .int .i64 m] [cmp false, cmp false, cmp true, cmp true]) (.tuple #[.int .u64 9221120237041090560, .int .i64 1]) [(cl b == 3, true), (cl a == 3, true), (decide (cl b > 3), false), lU b, (decide (cl a > 3), false), lU a, lU b, lU a] := ⟨by kernel_rfl, by kernel_rfl, by kernel_rfl, by kernel_rfl⟩
theorem rd_zz (a b m : Int) : Fits (reckon (tabH Try.prog extY conR7 hcT) 300 9 [.int .u64 a, .int .u64 b, .int .i64 m] [cmp false, cmp false, cmp false, cmp true, cmp true]) (.tuple #[.int .u64 9221120237041090560, .int .i64 1]) [(cl b == 0, true), (cl a == 0, true), (cl a == 3, false), (decide (cl b > 3), false), lU b, (decide (cl a > 3), false), lU a, lU b, lU a] := ⟨by kernel_rfl, by kernel_rfl, by kernel_rfl, by kernel_rfl⟩
theorem rd_ia (a b m : Int) : Fits (reckon (tabH Try.prog extY conR7 hcT) 300 9 [.int .u64 a, .int .u64 b, .int .i64 m] [cmp false, cmp false, cmp true, cmp false, cmp false, cmp true]) (.tuple #[.int .u64 (sS (prN a b) 9218868437227405312), .int .i64 0]) [(decide ((0 : Int) ≤ 9218868437227405312 ∧ 9218868437227405312 < 9223372036854775808), true), (cl a == 3, true), (cl a == 0, false), (cl b == 3, false), (cl a == 3, true), (decide (cl b > 3), false), lU b, (decide (cl a > 3), false), lU a, lU b, lU a] := ⟨by kernel_rfl, by kernel_rfl, by kernel_rfl, by kernel_rfl⟩
theorem rd_ib (a b m : Int) : Fits (reckon (tabH Try.prog extY conR7 hcT) 300 9 [.int .u64 a, .int .u64 b, .int .i64 m] [cmp false, cmp false, cmp false, cmp false, cmp false, cmp true]) (.tuple #[.int .u64 (sS (prN a b) 0), .int .i64 0]) [(decide ((0 : Int) ≤ 0 ∧ 0 < 9223372036854775808), true), (cl b == 3, true), (cl a == 3, false), (cl a == 0, false), (cl a == 3, false), (decide (cl b > 3), false), lU b, (decide (cl a > 3), false), lU a, lU b, lU a] := ⟨by kernel_rfl, by kernel_rfl, by kernel_rfl, by kernel_rfl⟩
theorem rd_zb (a b m : Int) : Fits (reckon (tabH Try.prog extY conR7 hcT) 300 9 [.int .u64 a, .int .u64 b, .int .i64 m] [cmp false, cmp false, cmp false, cmp true, cmp false, cmp false, cmp true]) (.tuple #[.int .u64 (sS (prN a b) 0), .int .i64 0]) [(decide ((0 : Int) ≤ 0 ∧ 0 < 9223372036854775808), true), (cl b == 3, true), (cl a == 3, false), (cl b == 0, false), (cl a == 0, true), (cl a == 3, false), (decide (cl b > 3), false), lU b, (decide (cl a > 3), false), lU a, lU b, lU a] := ⟨by kernel_rfl, by kernel_rfl, by kernel_rfl, by kernel_rfl⟩
theorem rd_za (a b m : Int) : Fits (reckon (tabH Try.prog extY conR7 hcT) 300 9 [.int .u64 a, .int .u64 b, .int .i64 m] [cmp false, cmp false, cmp false, cmp true, cmp false, cmp false, cmp false, cmp true]) (.tuple #[.int .u64 (sS (prN a b) 0), .int .i64 0]) [(decide ((0 : Int) ≤ 0 ∧ 0 < 9223372036854775808), true), (cl a == 0, true), (cl b == 3, false), (cl a == 3, false), (cl b == 0, false), (cl a == 0, true), (cl a == 3, false), (decide (cl b > 3), false), lU b, (decide (cl a > 3), false), lU a, lU b, lU a] := ⟨by kernel_rfl, by kernel_rfl, by kernel_rfl, by kernel_rfl⟩
theorem rd_bz (a b m : Int) : Fits (reckon (tabH Try.prog extY conR7 hcT) 300 9 [.int .u64 a, .int .u64 b, .int .i64 m] [cmp false, cmp false, cmp false, cmp false, cmp false, cmp false, cmp false, cmp true]) (.tuple #[.int .u64 (sS (prN a b) 9218868437227405312), .int .i64 2]) [(decide ((0 : Int) ≤ 9218868437227405312 ∧ 9218868437227405312 < 9223372036854775808), true), (cl b == 0, true), (cl a == 0, false), (cl b == 3, false), (cl a == 3, false), (cl a == 0, false), (cl a == 3, false), (decide (cl b > 3), false), lU b, (decide (cl a > 3), false), lU a, lU b, lU a] := ⟨by kernel_rfl, by kernel_rfl, by kernel_rfl, by kernel_rfl⟩

/-! ### what is asked of rows that are numbers -/
theorem wU_calm1 (L : List Int) : (wU L).all calm1 = true := by
  unfold wU
  rw [List.all_eq_true]
  intro v hv
  obtain ⟨x, _, rfl⟩ := List.mem_map.1 hv
  rfl
section
variable {h : Hp} {b b' V W : Nat}
theorem vO_aP (hb : h.blk? b = some (wU (d16 V), tU)) : vO h (aP b 0) (d16 V).length = V := vO_d16 hb
theorem d16_iff : 0 < (d16 V).length ↔ 0 < V := by
  unfold d16
  rw [List.length_pos_iff, ne_eq, db_nil (by omega)]
  omega
theorem oRo {E : Int} (hb : h.blk? b = some (wU (d16 V), tU)) (hl : (d16 V).length < 20000) (hE : -400000 ≤ E ∧ E ≤ 400000) : okRo h (aP b 0) (d16 V).length (d16 V).length E = true := by
  unfold okRo aP
  rw [rowP_d16 hb (by omega), rowOf_d16 hb, show canB (d16 V) = true from canB_mk (can_db (by omega) V), blt_iff.2 hl, decide_eq_true hE]
  rfl
theorem oPa (hb : h.blk? b = some (wU (d16 V), tU)) (hc : h.blk? b' = some (wU (d16 W), tU)) (hl : (d16 V).length < 1000000) (hm : (d16 W).length < 1000000) (h0 : 0 < (d16 V).length) (h1 : 0 < (d16 W).length) : okPa h (aP b 0) (aP b' 0) (d16 V).length (d16 V).length (d16 W).length (d16 W).length = true := by
  unfold okPa aP
  rw [rowP_d16 hb (by omega), dgB_d16 hb, rowP_d16 hc (by omega), rowOf_d16 hc, show canB (d16 W) = true from canB_mk (can_db (by omega) W), blt_iff.2 hl, blt_iff.2 hm, blt_iff.2 h0, blt_iff.2 h1]
  rfl
end
def vRD (m a b : Int) : Value := .tuple #[.int .u64 (quP m a b), .int .i64 (quF m a b)]
theorem dv_zero {m a b : Int} (h : sg a = 0) : dvP m a b = 0 ∧ dvF m a b = 0 := by
  have e : dvT a b = 0 := by unfold dvT dvK; rw [h]; simp
  unfold dvP dvF rnP rnF
  rw [e, if_pos rfl, if_pos rfl]
  exact ⟨rfl, rfl⟩
theorem rdiv_fin (a b m : Int) (ha : U a) (hb : U b) (ca : cl a = 1 ∨ cl a = 2) (cb : cl b = 1 ∨ cl b = 2) (w : World) : Calls Try.prog 9 #[.int .u64 a, .int .u64 b, .int .i64 m] w fun r w' => r = .returned (vRD m a b) ∧ Tidy w w' := by
  have hv : ([.int .u64 a, .int .u64 b, .int .i64 m].all (lt 0)) = true := rfl
  have T0 := tabH_ok conR7_ok hcT_ok
  have ka : decide (U a) = true := decide_eq_true ha
  have kb : decide (U b) = true := decide_eq_true hb
  have sa := sg_lt a
  have sb := sg_lt b
  have na : sg a ≠ 0 := fun h => by have := (sg_zero (p := a) (by omega)).1 h; omega
  have nb : sg b ≠ 0 := fun h => by have := (sg_zero (p := b) (by omega)).1 h; omega
  have xa := xp_bd a
  have xb := xp_bd b
  have eX : (IntKind.i64.wrap (IntKind.i64.wrap (xp a - xp b) - 121)) = xp a - xp b - 121 := by
    rw [wrapI' (n := xp a - xp b) ⟨by omega, by omega⟩, wrapI' ⟨by omega, by omega⟩]
  have eE : -400000 ≤ (IntKind.i64.wrap (IntKind.i64.wrap (xp a - xp b) - 121)) ∧ (IntKind.i64.wrap (IntKind.i64.wrap (xp a - xp b) - 121)) ≤ 400000 := by rw [eX]; omega
  obtain ⟨V, hV⟩ : ∃ V, V = (sg a).toNat * 2 ^ 120 := ⟨_, rfl⟩
  obtain ⟨Q, hQ⟩ : ∃ Q, Q = V / (sg b).toNat := ⟨_, rfl⟩
  obtain ⟨R, hR⟩ : ∃ R, R = V % (sg b).toNat := ⟨_, rfl⟩
  obtain ⟨S, hS⟩ : ∃ S, S = Q * 2 ^ 1 := ⟨_, rfl⟩
  obtain ⟨T, hT⟩ : ∃ T, T = S + 1 := ⟨_, rfl⟩
  have p120 : (2 : Nat) ^ 120 = 1329227995784915872903807060280344576 := rfl
  have vB : V < 2 ^ (16 * 11) := by
    have : (2 : Nat) ^ (16 * 11) = 95780971304118053647396689196894323976171195136475136 := rfl
    rw [hV, p120, this]; omega
  have v1 : (sg b).toNat ≤ V := by rw [hV, p120]; omega
  have qB : Q ≤ V := by rw [hQ]; exact Nat.div_le_self _ _
  have q0 : 0 < Q := by rw [hQ]; exact Nat.div_pos v1 (by omega)
  have rB : R < (sg b).toNat := by rw [hR]; exact Nat.mod_lt _ (by omega)
  have e53 : (2 : Nat) ^ (16 * 4) = 18446744073709551616 := rfl
  have l1 := d16_len (A := (sg a).toNat) (k := 4) (by omega)
  have l2 := d16_len (A := (sg b).toNat) (k := 4) (by omega)
  have l3 := d16_len (A := V) (k := 11) vB
  have l4 := d16_len (A := Q) (k := 11) (by omega)
  have l5 := d16_len (A := R) (k := 4) (by omega)
  have e12 : (2 : Nat) ^ (16 * 12) = 2 ^ (16 * 11) * 65536 := by rw [← Nat.pow_add 2 (16 * 11) 16]
  have l6 := d16_len (A := S) (k := 12) (by omega)
  have l7 := d16_len (A := T) (k := 12) (by omega)
  have l8 := d16_len (A := 1) (k := 1) (by decide)
  have z1 : 0 < (d16 (sg a).toNat).length := d16_iff.2 (by omega)
  have z2 : 0 < (d16 (sg b).toNat).length := d16_iff.2 (by omega)
  have z3 : 0 < (d16 V).length := d16_iff.2 (by omega)
  have z4 : 0 < (d16 Q).length := d16_iff.2 q0
  have z5 : 0 < (d16 R).length ↔ 0 < R := d16_iff
  have z8 : 0 < (d16 1).length := d16_iff.2 (by omega)
  obtain ⟨e1, e2⟩ : quP m a b = sS (prN a b) (dvP m a b) ∧ quF m a b = dvF m a b := by
    unfold quP quF
    have h0 : ¬ (3 < cl a ∨ 3 < cl b) := by omega
    have h1 : ¬ ((cl a = 0 ∧ cl b = 0) ∨ (cl a = 3 ∧ cl b = 3)) := by omega
    have h2 : ¬ cl a = 3 := by omega
    have h3 : ¬ cl b = 3 := by omega
    have h4 : ¬ cl b = 0 := by omega
    rw [if_neg h0, if_neg h0, if_neg h1, if_neg h1, if_neg h2, if_neg h2, if_neg h3, if_neg h3, if_neg h4, if_neg h4]
    exact ⟨rfl, rfl⟩
  obtain ⟨d1, d2⟩ := dv_doc (m := m) (a := a) (b := b) nb
  have hK : dvK (sg a).toNat (sg b).toNat 120 = S + (if R = 0 then 0 else 1) := by
    unfold dvK
    rw [← hV, ← hQ, ← hR, hS]
    omega
  rw [hK] at d1 d2
  unfold vRD
  rw [e1, e2, ← d1, ← d2, ← eX]
  by_cases r0 : R = 0
  · rw [if_pos r0, Nat.add_zero]
    have z5 : ¬ 0 < (d16 R).length := fun h => by have := z5.1 h; omega
    exact fits_calls T0 (rd_e a b m V Q R S) (okCons (decide_eq_true (vO_aP (V := S) rfl)) (okCons (oRo (V := S) rfl (by omega) eE) (okCons (decide_eq_false (by omega)) (okCons (wU_calm1 _) (okCons (wU_calm1 _) (okCons (wU_calm1 _) (okCons (wU_calm1 _) (okCons (wU_calm1 _) (okCons (wU_calm1 _) (okCons (decide_eq_true (by rw [vO_aP (V := Q) rfl]; exact hS.symm)) (okCons (oSh (k := 1) (V := Q) rfl (by omega) (by omega)) (okCons (decide_eq_true (by omega)) (okCons (decide_eq_true (by rw [vO_aP (V := Q) rfl]; exact hS.symm)) (okCons (oSh (k := 1) (V := Q) rfl (by omega) (by omega)) (okCons (decide_eq_true (by omega)) (okCons (decide_eq_true (by rw [vO_aP (V := V) rfl, vO_aP (V := (sg b).toNat) rfl]; exact ⟨hQ.symm, hR.symm⟩)) (okCons (oPa (V := V) (W := (sg b).toNat) rfl rfl (by omega) (by omega) (by omega) (by omega)) (okCons (decide_eq_true ⟨by omega, by omega⟩) (okCons (decide_eq_true (by rw [vO_aP (V := (sg a).toNat) rfl]; exact hV.symm)) (okCons (oSh (k := 120) (V := (sg a).toNat) rfl (by omega) (by omega)) (okCons (decide_eq_true (by omega)) (okCons (decide_eq_true ⟨by omega, by omega⟩) (okCons (beq_f (by omega)) (okCons (beq_f (by omega)) (okCons (beq_f (by omega)) (okCons (beq_f (by omega)) (okCons (beq_f (by omega)) (okCons (beq_f (by omega)) (okCons (decide_eq_false (by omega)) (okCons kb (okCons (decide_eq_false (by omega)) (okCons ka (okCons kb (okL1 ka)))))))))))))))))))))))))))))))))) hv (by rfl) w
  · rw [if_neg r0, ← hT]
    have z5 : 0 < (d16 R).length := z5.2 (by omega)
    exact fits_calls T0 (rd_r a b m V Q R S T) (okCons (decide_eq_true (vO_aP (V := T) rfl)) (okCons (oRo (V := T) rfl (by omega) eE) (okCons (decide_eq_true (by rw [vO_aP (V := S) rfl, vO_aP (V := 1) rfl]; exact hT.symm)) (okCons (oTwo (V := S) (W := 1) rfl rfl (by omega) (by omega)) (okCons (decide_eq_true (by omega)) (okCons (by decide) (okCons (decide_eq_true (by rw [vO_aP (V := S) rfl, vO_aP (V := 1) rfl]; exact hT.symm)) (okCons (oTwo (V := S) (W := 1) rfl rfl (by omega) (by omega)) (okCons (decide_eq_true (by omega)) (okCons (by decide) (okCons (decide_eq_true (by omega)) (okCons (wU_calm1 _) (okCons (wU_calm1 _) (okCons (wU_calm1 _) (okCons (wU_calm1 _) (okCons (wU_calm1 _) (okCons (wU_calm1 _) (okCons (decide_eq_true (by rw [vO_aP (V := Q) rfl]; exact hS.symm)) (okCons (oSh (k := 1) (V := Q) rfl (by omega) (by omega)) (okCons (decide_eq_true (by omega)) (okCons (decide_eq_true (by rw [vO_aP (V := Q) rfl]; exact hS.symm)) (okCons (oSh (k := 1) (V := Q) rfl (by omega) (by omega)) (okCons (decide_eq_true (by omega)) (okCons (decide_eq_true (by rw [vO_aP (V := V) rfl, vO_aP (V := (sg b).toNat) rfl]; exact ⟨hQ.symm, hR.symm⟩)) (okCons (oPa (V := V) (W := (sg b).toNat) rfl rfl (by omega) (by omega) (by omega) (by omega)) (okCons (decide_eq_true ⟨by omega, by omega⟩) (okCons (decide_eq_true (by rw [vO_aP (V := (sg a).toNat) rfl]; exact hV.symm)) (okCons (oSh (k := 120) (V := (sg a).toNat) rfl (by omega) (by omega)) (okCons (decide_eq_true (by omega)) (okCons (decide_eq_true ⟨by omega, by omega⟩) (okCons (beq_f (by omega)) (okCons (beq_f (by omega)) (okCons (beq_f (by omega)) (okCons (beq_f (by omega)) (okCons (beq_f (by omega)) (okCons (beq_f (by omega)) (okCons (decide_eq_false (by omega)) (okCons kb (okCons (decide_eq_false (by omega)) (okCons ka (okCons kb (okL1 ka)))))))))))))))))))))))))))))))))))))))))) hv (by rfl) w
theorem rdiv_calls (a b m : Int) (ha : U a) (hb : U b) (w : World) : Calls Try.prog 9 #[.int .u64 a, .int .u64 b, .int .i64 m] w fun r w' => r = .returned (vRD m a b) ∧ Tidy w w' := by
  have hv : ([.int .u64 a, .int .u64 b, .int .i64 m].all (lt 0)) = true := rfl
  have T := tabH_ok conR7_ok hcT_ok
  have ka : decide (U a) = true := decide_eq_true ha
  have kb : decide (U b) = true := decide_eq_true hb
  have ba := cl_bd a
  have bb := cl_bd b
  by_cases hf : (cl a = 1 ∨ cl a = 2) ∧ (cl b = 1 ∨ cl b = 2)
  · exact rdiv_fin a b m ha hb hf.1 hf.2 w
  unfold vRD quP quF
  by_cases ha3 : 3 < cl a
  · rw [if_pos (.inl ha3), if_pos (.inl ha3)]
    by_cases a5 : cl a = 5
    · rw [if_pos (.inl a5)]
      exact fits_calls T (rd_n1 a b m) (okCons (beq_t (by omega)) (okCons ka (okCons (decide_eq_true (by omega)) (okCons ka (okCons kb (okL1 ka)))))) hv (by rfl) w
    · by_cases b5 : cl b = 5
      · rw [if_pos (.inr b5)]
        exact fits_calls T (rd_n2 a b m) (okCons (beq_t (by omega)) (okCons kb (okCons (beq_f (by omega)) (okCons ka (okCons (decide_eq_true (by omega)) (okCons ka (okCons kb (okL1 ka)))))))) hv (by rfl) w
      · rw [if_neg (by omega)]
        exact fits_calls T (rd_n3 a b m) (okCons (beq_f (by omega)) (okCons kb (okCons (beq_f (by omega)) (okCons ka (okCons (decide_eq_true (by omega)) (okCons ka (okCons kb (okL1 ka)))))))) hv (by rfl) w
  · by_cases hb3 : 3 < cl b
    · rw [if_pos (.inr hb3), if_pos (.inr hb3)]
      by_cases b5 : cl b = 5
      · rw [if_pos (.inr b5)]
        exact fits_calls T (rd_m2 a b m) (okCons (beq_t (by omega)) (okCons kb (okCons (beq_f (by omega)) (okCons ka (okCons (decide_eq_true (by omega)) (okCons kb (okCons (decide_eq_false (by omega)) (okCons ka (okCons kb (okL1 ka)))))))))) hv (by rfl) w
      · rw [if_neg (by omega)]
        exact fits_calls T (rd_m3 a b m) (okCons (beq_f (by omega)) (okCons kb (okCons (beq_f (by omega)) (okCons ka (okCons (decide_eq_true (by omega)) (okCons kb (okCons (decide_eq_false (by omega)) (okCons ka (okCons kb (okL1 ka)))))))))) hv (by rfl) w
    · have hno : ¬ (3 < cl a ∨ 3 < cl b) := by omega
      rw [if_neg hno, if_neg hno]
      by_cases az : cl a = 0
      · by_cases bz : cl b = 0
        · rw [if_pos (.inl ⟨az, bz⟩), if_pos (.inl ⟨az, bz⟩)]
          exact fits_calls T (rd_zz a b m) (okCons (beq_t (by omega)) (okCons (beq_t (by omega)) (okCons (beq_f (by omega)) (okCons (decide_eq_false (by omega)) (okCons kb (okCons (decide_eq_false (by omega)) (okCons ka (okCons kb (okL1 ka))))))))) hv (by rfl) w
        · have hn2 : ¬ ((cl a = 0 ∧ cl b = 0) ∨ (cl a = 3 ∧ cl b = 3)) := by omega
          have a3 : ¬ cl a = 3 := by omega
          rw [if_neg hn2, if_neg hn2, if_neg a3, if_neg a3]
          by_cases b3 : cl b = 3
          · rw [if_pos b3, if_pos b3]
            exact fits_calls T (rd_zb a b m) (okCons (by decide) (okCons (beq_t (by omega)) (okCons (beq_f (by omega)) (okCons (beq_f (by omega)) (okCons (beq_t (by omega)) (okCons (beq_f (by omega)) (okCons (decide_eq_false (by omega)) (okCons kb (okCons (decide_eq_false (by omega)) (okCons ka (okCons kb (okL1 ka)))))))))))) hv (by rfl) w
          · rw [if_neg b3, if_neg b3, if_neg bz, if_neg bz]
            obtain ⟨d1, d2⟩ := dv_zero (m := m) (b := b) ((sg_zero (p := a) (by omega)).2 az)
            rw [d1, d2]
            exact fits_calls T (rd_za a b m) (okCons (by decide) (okCons (beq_t (by omega)) (okCons (beq_f (by omega)) (okCons (beq_f (by omega)) (okCons (beq_f (by omega)) (okCons (beq_t (by omega)) (okCons (beq_f (by omega)) (okCons (decide_eq_false (by omega)) (okCons kb (okCons (decide_eq_false (by omega)) (okCons ka (okCons kb (okL1 ka))))))))))))) hv (by rfl) w
      · by_cases a3 : cl a = 3
        · by_cases b3 : cl b = 3
          · rw [if_pos (.inr ⟨a3, b3⟩), if_pos (.inr ⟨a3, b3⟩)]
            exact fits_calls T (rd_ii a b m) (okCons (beq_t (by omega)) (okCons (beq_t (by omega)) (okCons (decide_eq_false (by omega)) (okCons kb (okCons (decide_eq_false (by omega)) (okCons ka (okCons kb (okL1 ka)))))))) hv (by rfl) w
          · have hn2 : ¬ ((cl a = 0 ∧ cl b = 0) ∨ (cl a = 3 ∧ cl b = 3)) := by omega
            rw [if_neg hn2, if_neg hn2, if_pos a3, if_pos a3]
            exact fits_calls T (rd_ia a b m) (okCons (by decide) (okCons (beq_t (by omega)) (okCons (beq_f (by omega)) (okCons (beq_f (by omega)) (okCons (beq_t (by omega)) (okCons (decide_eq_false (by omega)) (okCons kb (okCons (decide_eq_false (by omega)) (okCons ka (okCons kb (okL1 ka))))))))))) hv (by rfl) w
        · have hn2 : ¬ ((cl a = 0 ∧ cl b = 0) ∨ (cl a = 3 ∧ cl b = 3)) := by omega
          rw [if_neg hn2, if_neg hn2, if_neg a3, if_neg a3]
          by_cases b3 : cl b = 3
          · rw [if_pos b3, if_pos b3]
            exact fits_calls T (rd_ib a b m) (okCons (by decide) (okCons (beq_t (by omega)) (okCons (beq_f (by omega)) (okCons (beq_f (by omega)) (okCons (beq_f (by omega)) (okCons (decide_eq_false (by omega)) (okCons kb (okCons (decide_eq_false (by omega)) (okCons ka (okCons kb (okL1 ka))))))))))) hv (by rfl) w
          · rw [if_neg b3, if_neg b3]
            have bz : cl b = 0 := by omega
            rw [if_pos bz, if_pos bz]
            exact fits_calls T (rd_bz a b m) (okCons (by decide) (okCons (beq_t (by omega)) (okCons (beq_f (by omega)) (okCons (beq_f (by omega)) (okCons (beq_f (by omega)) (okCons (beq_f (by omega)) (okCons (beq_f (by omega)) (okCons (decide_eq_false (by omega)) (okCons kb (okCons (decide_eq_false (by omega)) (okCons ka (okCons kb (okL1 ka))))))))))))) hv (by rfl) w
def gRD : Ans := fun vals s =>
  match vals with
  | [.int .u64 a, .int .u64 b, .int .i64 m] => some (vRD m a b, s, [(decide (U a ∧ U b), true)])
  | _ => none
theorem gRD_ok : AnsOk 9 gRD := by
  intro vals s v s' lg h hl w
  unfold gRD at h
  split at h
  · cases h
    obtain ⟨h1, h2⟩ := of_decide_eq_true (hl _ (List.mem_singleton.2 rfl))
    exact rdiv_calls _ _ _ h1 h2 w
  · cases h
end Go.Proofs.Ytnolcojnodoecaa

/-
  What is known of calls, for the law QuotDivs.
-/
namespace Go.Proofs.Ytnolcojnodoecaa
open Go.KRun Go.Wd Go.Pt Go.Rn
set_option maxRecDepth 100000

def conD7 : Con := alt 9 gRD conS7
theorem conD7_ok : ConOk conD7 := alt_ok Try.func9 rfl gRD_ok conS7_ok
theorem quF_bd (m a b : Int) : 0 ≤ quF m a b ∧ quF m a b ≤ 24 := by
  have h' : 0 ≤ dvF m a b ∧ dvF m a b ≤ 24 := by
    unfold dvF rnF
    split
    · omega
    · split
      · omega
      · split
        · split <;> omega
        · omega
  unfold quF
  split
  · split <;> omega
  split
  · omega
  split
  · omega
  split
  · omega
  split
  · omega
  · exact h'
end Go.Proofs.Ytnolcojnodoecaa
