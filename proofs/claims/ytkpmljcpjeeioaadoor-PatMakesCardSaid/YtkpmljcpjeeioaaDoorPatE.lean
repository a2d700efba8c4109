/-
  Which parts may be, in plain numbers; the document's own Make, as a call.
-/
import Derived.Test.YtkpmljcpjeeioaaDoorPatD
namespace Go.Proofs.YtkpmljcpjeeioaaDoor
open Go.KRun Go.Pt
set_option maxRecDepth 100000

def mayS (c e s : Int) : Prop := (c = 0 ∧ e = -1074 ∧ s = 0) ∨ (c = 1 ∧ e = -1074 ∧ 0 < s ∧ s < 4503599627370496) ∨ (c = 2 ∧ -1074 ≤ e ∧ e ≤ 971 ∧ 4503599627370496 ≤ s ∧ s < 9007199254740992) ∨
  (c = 3 ∧ e = 0 ∧ s = 0) ∨ (c = 4 ∧ e = 0 ∧ 2251799813685248 ≤ s ∧ s < 4503599627370496) ∨ (c = 5 ∧ e = 0 ∧ 0 < s ∧ s < 2251799813685248)
def expN (c e : Int) : Int := if c = 2 then (e + 1075) % 2048 else if c = 3 ∨ c = 4 ∨ c = 5 then 2047 else 0
theorem expN_lt (c e : Int) : 0 ≤ expN c e ∧ expN c e < 2048 := by
  unfold expN
  split
  · omega
  · split <;> omega
theorem join_parts (m : Bool) (c e s : Int) : sgn (joinN m c e s) = m ∧ ex (joinN m c e s) = expN c e ∧ fr (joinN m c e s) = s % 4503599627370496 := by
  have h := expN_lt c e
  have hb : baseN c e s = s % 4503599627370496 + 4503599627370496 * expN c e := rfl
  unfold joinN sgn ex fr
  rw [hb]
  cases m
  · refine ⟨decide_eq_false ?_, ?_, ?_⟩ <;> simp <;> omega
  · refine ⟨decide_eq_true ?_, ?_, ?_⟩ <;> simp <;> omega
theorem may_iff {m : Bool} {c e s : Int} (hs : U s) : mayB m c e s = true ↔ mayS c e s := by
  obtain ⟨h1, h2, h3⟩ := join_parts m c e s
  have key : mayB m c e s = true ↔ cl (joinN m c e s) = c ∧ xp (joinN m c e s) = e ∧ sg (joinN m c e s) = s := by
    unfold mayB eqP
    rw [h1]
    simp
  rw [key]
  unfold cl xp sg mayS
  rw [h2, h3]
  unfold expN
  unfold U at hs
  by_cases c2 : c = 2
  · simp only [if_pos c2]
    by_cases g1 : (e + 1075) % 2048 = 0
    · simp only [if_pos g1]
      split <;> omega
    · simp only [if_neg g1]
      by_cases g2 : (e + 1075) % 2048 = 2047
      · simp only [if_pos g2]
        split
        · omega
        · split <;> omega
      · simp only [if_neg g2]
        omega
  · simp only [if_neg c2]
    by_cases c3 : c = 3 ∨ c = 4 ∨ c = 5
    · simp only [if_pos c3]
      simp only [if_neg (show ¬ (2047 : Int) = 0 by omega), if_true]
      split
      · omega
      · split <;> omega
    · simp only [if_neg c3, if_true]
      split <;> omega
def refV (m : Bool) (c e s : Int) (d : Bool) : Value := match d with | true => .tuple #[.int .u64 (joinN m c e s), .int .i64 0] | false => noM
theorem okM_eq {m : Bool} {c e s x : Int} (h : x = baseN c e s) : okM m x = refV m c e s true := by
  have hb := base_lt c e s
  subst h
  unfold okM refV addM joinN
  cases m
  · simp
  · simp only [if_true]
    rw [wrapU' ⟨by omega, by omega⟩, Int.add_comm]
theorem refm_calls (m : Bool) (c e s : Int) (hs : U s) (d : Bool) (hd : mayB m c e s = d) (w : World) : Calls Tryd.prog 6 #[vP m c e s] w fun r w' => r = .returned (refV m c e s d) ∧ Tidy w w' := by
  have hv : ([vP m c e s].all (lt 0)) = true := rfl
  have hn : lt 0 noM = true := rfl
  have hk : ∀ x, lt 0 (okM m x) = true := fun x => rfl
  have no : ¬ mayS c e s → d = false := fun h => by
    cases d
    · rfl
    · exact absurd ((may_iff hs).1 hd) h
  have yes : mayS c e s → d = true := fun h => hd.symm.trans ((may_iff hs).2 h)
  unfold U at hs
  by_cases g01 : c = 0
  · by_cases g02 : e = -1074
    · by_cases g03 : s = 0
      · obtain rfl : d = true := yes (by unfold mayS; omega)
        have h := fits_calls (tabY_ok conN_ok) (r0_0 m c e s) (by simp [okCs, okNl, g01, g02, g03]) hv (hk _) w
        rw [okM_eq (c := c) (e := e) (s := s) (by unfold baseN; rw [if_neg (by omega), if_neg (by omega)]; omega)] at h
        exact h
      · obtain rfl : d = false := no (by unfold mayS; omega)
        exact fits_calls (tabY_ok conN_ok) (r0_3 m c e s) (by simp [okCs, okNl, g01, g02, g03]) hv hn w
    · obtain rfl : d = false := no (by unfold mayS; omega)
      exact fits_calls (tabY_ok conN_ok) (r0_2 m c e s) (by simp [okCs, okNl, g01, g02]) hv hn w
  · by_cases g11 : c = 1
    · by_cases g12 : e = -1074
      · by_cases g13 : s > 0
        · by_cases g14 : s < 4503599627370496
          · obtain rfl : d = true := yes (by unfold mayS; omega)
            have h := fits_calls (tabY_ok conN_ok) (r1_0 m c e s) (by simp [okCs, okNl, g11, g12, g13, g14]) hv (hk _) w
            rw [okM_eq (c := c) (e := e) (s := s) (by unfold baseN; rw [if_neg (by omega), if_neg (by omega)]; omega)] at h
            exact h
          · obtain rfl : d = false := no (by unfold mayS; omega)
            exact fits_calls (tabY_ok conN_ok) (r1_4 m c e s) (by simp [okCs, okNl, g11, g12, g13, g14]) hv hn w
        · obtain rfl : d = false := no (by unfold mayS; omega)
          exact fits_calls (tabY_ok conN_ok) (r1_3 m c e s) (by simp [okCs, okNl, g11, g12, g13]) hv hn w
      · obtain rfl : d = false := no (by unfold mayS; omega)
        exact fits_calls (tabY_ok conN_ok) (r1_2 m c e s) (by simp [okCs, okNl, g11, g12]) hv hn w
    · by_cases g21 : c = 2
      · by_cases g22 : e ≥ -1074
        · by_cases g23 : e ≤ 971
          · by_cases g24 : s ≥ 4503599627370496
            · by_cases g25 : s < 9007199254740992
              · obtain rfl : d = true := yes (by unfold mayS; omega)
                have h := fits_calls (tabY_ok conN_ok) (r2_0 m c e s) (by simp [okCs, okNl, g21, g22, g23, g24, g25]) hv (hk _) w
                rw [okM_eq (c := c) (e := e) (s := s) (by unfold baseN plM; rw [if_pos (by omega), wrapI' (by unfold I; omega), wrapU, wrapU, wrapU, wrapU]; omega)] at h
                exact h
              · obtain rfl : d = false := no (by unfold mayS; omega)
                exact fits_calls (tabY_ok conN_ok) (r2_5 m c e s) (by simp [okCs, okNl, g21, g22, g23, g24, g25]) hv hn w
            · obtain rfl : d = false := no (by unfold mayS; omega)
              exact fits_calls (tabY_ok conN_ok) (r2_4 m c e s) (by simp [okCs, okNl, g21, g22, g23, g24]) hv hn w
          · obtain rfl : d = false := no (by unfold mayS; omega)
            exact fits_calls (tabY_ok conN_ok) (r2_3 m c e s) (by simp [okCs, okNl, g21, g22, g23]) hv hn w
        · obtain rfl : d = false := no (by unfold mayS; omega)
          exact fits_calls (tabY_ok conN_ok) (r2_2 m c e s) (by simp [okCs, okNl, g21, g22]) hv hn w
      · by_cases g31 : c = 3
        · by_cases g32 : e = 0
          · by_cases g33 : s = 0
            · obtain rfl : d = true := yes (by unfold mayS; omega)
              have h := fits_calls (tabY_ok conN_ok) (r3_0 m c e s) (by simp [okCs, okNl, g31, g32, g33]) hv (hk _) w
              rw [okM_eq (c := c) (e := e) (s := s) (by unfold baseN grM; rw [if_neg (by omega), if_pos (by omega), wrapU]; omega)] at h
              exact h
            · obtain rfl : d = false := no (by unfold mayS; omega)
              exact fits_calls (tabY_ok conN_ok) (r3_3 m c e s) (by simp [okCs, okNl, g31, g32, g33]) hv hn w
          · obtain rfl : d = false := no (by unfold mayS; omega)
            exact fits_calls (tabY_ok conN_ok) (r3_2 m c e s) (by simp [okCs, okNl, g31, g32]) hv hn w
        · by_cases g41 : c = 4
          · by_cases g42 : e = 0
            · by_cases g43 : s ≥ 2251799813685248
              · by_cases g44 : s < 4503599627370496
                · obtain rfl : d = true := yes (by unfold mayS; omega)
                  have h := fits_calls (tabY_ok conN_ok) (r4_0 m c e s) (by simp [okCs, okNl, g41, g42, g43, g44]) hv (hk _) w
                  rw [okM_eq (c := c) (e := e) (s := s) (by unfold baseN grM; rw [if_neg (by omega), if_pos (by omega), wrapU]; omega)] at h
                  exact h
                · obtain rfl : d = false := no (by unfold mayS; omega)
                  exact fits_calls (tabY_ok conN_ok) (r4_4 m c e s) (by simp [okCs, okNl, g41, g42, g43, g44]) hv hn w
              · obtain rfl : d = false := no (by unfold mayS; omega)
                exact fits_calls (tabY_ok conN_ok) (r4_3 m c e s) (by simp [okCs, okNl, g41, g42, g43]) hv hn w
            · obtain rfl : d = false := no (by unfold mayS; omega)
              exact fits_calls (tabY_ok conN_ok) (r4_2 m c e s) (by simp [okCs, okNl, g41, g42]) hv hn w
          · by_cases g51 : c = 5
            · by_cases g52 : e = 0
              · by_cases g53 : s > 0
                · by_cases g54 : s < 2251799813685248
                  · obtain rfl : d = true := yes (by unfold mayS; omega)
                    have h := fits_calls (tabY_ok conN_ok) (r5_0 m c e s) (by simp [okCs, okNl, g51, g52, g53, g54]) hv (hk _) w
                    rw [okM_eq (c := c) (e := e) (s := s) (by unfold baseN grM; rw [if_neg (by omega), if_pos (by omega), wrapU]; omega)] at h
                    exact h
                  · obtain rfl : d = false := no (by unfold mayS; omega)
                    exact fits_calls (tabY_ok conN_ok) (r5_4 m c e s) (by simp [okCs, okNl, g51, g52, g53, g54]) hv hn w
                · obtain rfl : d = false := no (by unfold mayS; omega)
                  exact fits_calls (tabY_ok conN_ok) (r5_3 m c e s) (by simp [okCs, okNl, g51, g52, g53]) hv hn w
              · obtain rfl : d = false := no (by unfold mayS; omega)
                exact fits_calls (tabY_ok conN_ok) (r5_2 m c e s) (by simp [okCs, okNl, g51, g52]) hv hn w
            · obtain rfl : d = false := no (by unfold mayS; omega)
              exact fits_calls (tabY_ok conN_ok) (r_no m c e s) (by simp [okCs, okNl, g01, g11, g21, g31, g41, g51]) hv hn w
def gRefM : Ans := fun vals s =>
  match vals with
  | [.agg cs] =>
    match cs.toList, s with
    | [.bool m, .int .i64 c, .int .i64 e, .int .u64 x], .inr (.inr (.inr (.inl d))) :: s' => some (refV m c e x d, s', [(decide (U x), true), (mayB m c e x, d)])
    | _, _ => none
  | _ => none
theorem gRefM_ok : AnsOk 6 gRefM := by
  intro vals s v s' lg h hl w
  unfold gRefM at h
  split at h
  · rename_i cs
    split at h
    · rename_i m c e x d s2 hcs
      cases h
      have e1 : cs = #[.bool m, .int .i64 c, .int .i64 e, .int .u64 x] := by
        have := congrArg List.toArray hcs
        simpa using this
      subst e1
      have h1 := hl _ (List.mem_cons_self)
      have h2 := hl _ (List.mem_cons_of_mem _ (List.mem_singleton.2 rfl))
      simp only [decide_eq_true_eq] at h1 h2
      exact refm_calls m c e x h1 d h2 w
    · cases h
  · cases h
end Go.Proofs.YtkpmljcpjeeioaaDoor
