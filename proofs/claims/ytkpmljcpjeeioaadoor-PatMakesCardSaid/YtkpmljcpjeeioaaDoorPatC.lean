/-
  pat.join and pat.Make, as calls in every world.
-/
import Derived.Test.YtkpmljcpjeeioaaDoorPatB
namespace Go.Proofs.YtkpmljcpjeeioaaDoor
open Go.KRun Go.Pt
set_option maxRecDepth 100000

def upE (e : Int) : Int := bAnd (IntKind.u64.wrap (IntKind.u64.wrap (IntKind.i64.wrap (e + 1075)) * 2 ^ min (Int.toNat 52) 64)) 9218868437227405312
def baseN (c e s : Int) : Int := s % 4503599627370496 + 4503599627370496 * (if c = 2 then (e + 1075) % 2048 else if c = 3 ∨ c = 4 ∨ c = 5 then 2047 else 0)
def joinN (m : Bool) (c e s : Int) : Int := (if m = true then 9223372036854775808 else 0) + baseN c e s
theorem i_mod (n : Int) : IntKind.i64.wrap n % 18446744073709551616 = n % 18446744073709551616 := by
  simp [IntKind.wrap, IntKind.bits, IntKind.signed]
  omega
theorem upE_eq (e : Int) : upE e = 4503599627370496 * ((e + 1075) % 2048) := by
  unfold upE
  have e1 : ((2 : Int) ^ min (Int.toNat 52) 64) = 4503599627370496 := by rfl
  rw [e1, wrapU (IntKind.i64.wrap (e + 1075)), i_mod, wrapU, bAnd_inf ⟨by omega, by omega⟩]
  omega
theorem base_lt (c e s : Int) : 0 ≤ baseN c e s ∧ baseN c e s < 9223372036854775808 := by
  unfold baseN
  split
  · omega
  · split <;> omega
theorem join_U (m : Bool) (c e s : Int) : U (joinN m c e s) := by
  have := base_lt c e s
  unfold joinN U
  split <;> omega
def orS (m : Bool) (x : Int) : Int := match m with | true => bOr x 9223372036854775808 | false => x
theorem orS_eq {m : Bool} {x : Int} (h : 0 ≤ x ∧ x < 9223372036854775808) : orS m x = (if m = true then 9223372036854775808 else 0) + x := by
  cases m
  · simp [orS]
  · simp only [orS, if_true]
    exact or_low 63 (z := 1) (by omega) (by rfl) h.1 (show x < 2 ^ 63 from h.2) (by omega)
theorem j_plain (m : Bool) (c e s : Int) : Fits (reckon (tabOf Tryd.prog extY conN true) 300 13 [vP m c e s] [cmp true]) (.int .u64 (orS m (bOr (bAnd s 4503599627370495) (upE e)))) [(decide ((52 : Int) < 0), false), (c == 2, true)] := by
  cases m <;> exact ⟨by kernel_rfl, by kernel_rfl, by kernel_rfl, by kernel_rfl⟩
theorem j_end (m : Bool) (c e s : Int) : Fits (reckon (tabOf Tryd.prog extY conN true) 300 13 [vP m c e s] [cmp false, cmp true]) (.int .u64 (orS m (bOr (bAnd s 4503599627370495) 9218868437227405312))) [(c == 3, true), (c == 2, false)] := by
  cases m <;> exact ⟨by kernel_rfl, by kernel_rfl, by kernel_rfl, by kernel_rfl⟩
theorem j_quiet (m : Bool) (c e s : Int) : Fits (reckon (tabOf Tryd.prog extY conN true) 300 13 [vP m c e s] [cmp false, cmp false, cmp true]) (.int .u64 (orS m (bOr (bAnd s 4503599627370495) 9218868437227405312))) [(c == 4, true), (c == 3, false), (c == 2, false)] := by
  cases m <;> exact ⟨by kernel_rfl, by kernel_rfl, by kernel_rfl, by kernel_rfl⟩
theorem j_loud (m : Bool) (c e s : Int) : Fits (reckon (tabOf Tryd.prog extY conN true) 300 13 [vP m c e s] [cmp false, cmp false, cmp false, cmp true]) (.int .u64 (orS m (bOr (bAnd s 4503599627370495) 9218868437227405312))) [(c == 5, true), (c == 4, false), (c == 3, false), (c == 2, false)] := by
  cases m <;> exact ⟨by kernel_rfl, by kernel_rfl, by kernel_rfl, by kernel_rfl⟩
theorem j_else (m : Bool) (c e s : Int) : Fits (reckon (tabOf Tryd.prog extY conN true) 300 13 [vP m c e s] [cmp false, cmp false, cmp false, cmp false]) (.int .u64 (orS m (bAnd s 4503599627370495))) [(c == 5, false), (c == 4, false), (c == 3, false), (c == 2, false)] := by
  cases m <;> exact ⟨by kernel_rfl, by kernel_rfl, by kernel_rfl, by kernel_rfl⟩
theorem inf_or {s : Int} (hs : U s) : bOr (bAnd s 4503599627370495) 9218868437227405312 = s % 4503599627370496 + 4503599627370496 * 2047 := by
  rw [bAnd_frac hs, or_low 52 (z := 2047) (by omega) (by rfl) (by omega) (show s % 4503599627370496 < 2 ^ 52 by omega) (by omega)]
  omega
theorem join_calls (m : Bool) (c e s : Int) (hs : U s) (w : World) : Calls Tryd.prog 13 #[vP m c e s] w fun r w' => r = .returned (.int .u64 (joinN m c e s)) ∧ Tidy w w' := by
  have hv : ([vP m c e s].all (lt 0)) = true := rfl
  have hb := base_lt c e s
  by_cases h2 : c = 2
  · have h := fits_calls (tabY_ok conN_ok) (j_plain m c e s) (by simp only [okCs, okNl, h2]; decide) hv (by rfl) w
    have e1 : bOr (bAnd s 4503599627370495) (upE e) = baseN c e s := by
      rw [bAnd_frac hs, upE_eq, or_low 52 (z := (e + 1075) % 2048) (by omega) (by rfl) (by omega) (show s % 4503599627370496 < 2 ^ 52 by omega) (by omega)]
      unfold baseN
      rw [if_pos h2]
      omega
    rw [e1, orS_eq hb] at h
    exact h
  · have b2 : (c == 2) = false := by simp [h2]
    by_cases h3 : c = 3
    · have h := fits_calls (tabY_ok conN_ok) (j_end m c e s) (by simp only [okCs, okNl, h3]; decide) hv (by rfl) w
      have e1 : bOr (bAnd s 4503599627370495) 9218868437227405312 = baseN c e s := by rw [inf_or hs]; unfold baseN; rw [if_neg h2, if_pos (.inl h3)]
      rw [e1, orS_eq hb] at h
      exact h
    · have b3 : (c == 3) = false := by simp [h3]
      by_cases h4 : c = 4
      · have h := fits_calls (tabY_ok conN_ok) (j_quiet m c e s) (by simp only [okCs, okNl, h4]; decide) hv (by rfl) w
        have e1 : bOr (bAnd s 4503599627370495) 9218868437227405312 = baseN c e s := by rw [inf_or hs]; unfold baseN; rw [if_neg h2, if_pos (.inr (.inl h4))]
        rw [e1, orS_eq hb] at h
        exact h
      · have b4 : (c == 4) = false := by simp [h4]
        by_cases h5 : c = 5
        · have h := fits_calls (tabY_ok conN_ok) (j_loud m c e s) (by simp only [okCs, okNl, h5]; decide) hv (by rfl) w
          have e1 : bOr (bAnd s 4503599627370495) 9218868437227405312 = baseN c e s := by rw [inf_or hs]; unfold baseN; rw [if_neg h2, if_pos (.inr (.inr h5))]
          rw [e1, orS_eq hb] at h
          exact h
        · have b5 : (c == 5) = false := by simp [h5]
          have h := fits_calls (tabY_ok conN_ok) (j_else m c e s) (by simp only [okCs, okNl, b2, b3, b4, b5]; decide) hv (by rfl) w
          have e1 : bAnd s 4503599627370495 = baseN c e s := by
            rw [bAnd_frac hs]; unfold baseN; rw [if_neg h2, if_neg (by omega)]; omega
          rw [e1, orS_eq hb] at h
          exact h
/-- a call with parts -/
def gP (k : Bool → Int → Int → Int → Value) : Ans := fun vals s =>
  match vals with
  | [.agg cs] =>
    match cs.toList with
    | [.bool m, .int .i64 c, .int .i64 e, .int .u64 x] => some (k m c e x, s, [(decide (U x), true)])
    | _ => none
  | _ => none
theorem gP_ok {f : Nat} {k : Bool → Int → Int → Int → Value} (hk : ∀ m c e s, U s → ∀ w, Calls Tryd.prog f #[vP m c e s] w fun r w' => r = .returned (k m c e s) ∧ Tidy w w') : AnsOk f (gP k) := by
  intro vals s v s' lg h hl w
  unfold gP at h
  split at h
  · rename_i cs
    split at h
    · rename_i m c e x hcs
      cases h
      have e1 : cs = #[.bool m, .int .i64 c, .int .i64 e, .int .u64 x] := by
        have := congrArg List.toArray hcs
        simpa using this
      subst e1
      exact hk _ _ _ _ (of_decide_eq_true (hl _ (List.mem_singleton.2 rfl))) w
    · cases h
  · cases h
theorem join_ok : AnsOk 13 (gP fun m c e s => .int .u64 (joinN m c e s)) := gP_ok join_calls
def conJ : Con := alt 13 (gP fun m c e s => .int .u64 (joinN m c e s)) conP
theorem conJ_ok : ConOk conJ := alt_ok Tryd.func13 rfl join_ok conP_ok

/-! ### Make -/
def errP (k : Int) : Value := .iface 41 (.int .i64 k)
/-- parts are a pattern's own -/
def eqP (p : Int) (m : Bool) (c e s : Int) : Bool := (sgn p == m) && ((cl p == c) && ((xp p == e) && ((sg p == s) && true)))
def mayB (m : Bool) (c e s : Int) : Bool := eqP (joinN m c e s) m c e s
def makeV (m : Bool) (c e s : Int) (d : Bool) : Value := match d with | true => .tuple #[.int .u64 (joinN m c e s), .nilIface] | false => .tuple #[.int .u64 0, errP 1]
theorem make_fits (m : Bool) (c e s : Int) (d : Bool) : Fits (reckon (tabOf Tryd.prog extY conJ true) 300 5 [vP m c e s] [sam (!d)]) (makeV m c e s d) [(!(mayB m c e s), !d), lU (joinN m c e s), lU s] := by
  cases d <;> exact ⟨by kernel_rfl, by kernel_rfl, by kernel_rfl, by kernel_rfl⟩
def gMake : Ans := fun vals s =>
  match vals with
  | [.agg cs] =>
    match cs.toList, s with
    | [.bool m, .int .i64 c, .int .i64 e, .int .u64 x], .inr (.inr (.inr (.inl d))) :: s' => some (makeV m c e x d, s', [(decide (U x), true), (mayB m c e x, d)])
    | _, _ => none
  | _ => none
theorem gMake_ok : AnsOk 5 gMake := by
  intro vals s v s' lg h hl w
  unfold gMake at h
  split at h
  · rename_i cs
    split at h
    · rename_i m c e x d s2 hcs
      cases h
      have e1 : cs = #[.bool m, .int .i64 c, .int .i64 e, .int .u64 x] := by
        have := congrArg List.toArray hcs
        simpa using this
      subst e1
      have h1 := hl _ (List.mem_cons_self)
      have h2 := hl _ (List.mem_cons_of_mem _ (List.mem_singleton.2 rfl))
      simp only at h1 h2
      exact fits_calls (tabY_ok conJ_ok) (make_fits m c e x d) (okCons (by rw [h2]) (okCons (decide_eq_true (join_U _ _ _ _)) (okL1 h1))) (by rfl) (by cases d <;> rfl) w
    · cases h
  · cases h
/-- the parts of a pattern make it again -/
theorem join_take {p : Int} (hp : U p) : joinN (sgn p) (cl p) (xp p) (sg p) = p := by
  have h1 := of_parts hp
  have h2 := ex_lt p
  have h3 := fr_lt p
  have key : baseN (cl p) (xp p) (sg p) = 4503599627370496 * ex p + fr p := by
    unfold baseN xp sg
    rcases cl_cases p with ⟨g1, g2⟩ | ⟨g1, g2⟩ | ⟨g1, g2, g3⟩
    · rw [if_pos g1, if_pos g1, if_neg (by omega), if_neg (by omega)]
      omega
    · have g0 : ¬ ex p = 0 := by omega
      have g3 : cl p = 3 ∨ cl p = 4 ∨ cl p = 5 := by
        unfold cl at *
        simp only [if_neg g0, if_pos g1] at *
        split
        · omega
        · split <;> omega
      rw [if_neg g0, if_neg g0, if_pos g1, if_pos g1, if_neg (by omega), if_pos g3]
      omega
    · rw [if_neg g1, if_neg g1, if_neg g2, if_neg g2, if_pos g3]
      omega
  unfold joinN
  rw [key]
  omega
theorem may_take {p : Int} (hp : U p) : mayB (sgn p) (cl p) (xp p) (sg p) = true := by
  unfold mayB eqP
  rw [join_take hp]
  simp
def conM : Con := alt 5 gMake conJ
theorem conM_ok : ConOk conM := alt_ok Tryd.func5 rfl gMake_ok conJ_ok
end Go.Proofs.YtkpmljcpjeeioaaDoor
