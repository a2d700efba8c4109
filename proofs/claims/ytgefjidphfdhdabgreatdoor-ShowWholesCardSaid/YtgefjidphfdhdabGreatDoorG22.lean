/-
  ShM, ShG, ShO
-/
import Derived.Test.YtgefjidphfdhdabGreatDoorG21
import Derived.Lib.Walk
import Derived.Lib.ItoaMem
import Derived.BigCall
import Derived.BigGuard
namespace Go.Proofs.YtgefjidphfdhdabGreatDoor
open Go.KRun Go.Nt Go.Rd Go.Wd Go.Pt
set_option maxRecDepth 100000
def sAt (S : Nat) (E j : Int) : Nat := sp14F E j (4 * S)
def sMo (S : Nat) (E j : Int) : Bool := sp14R E j (4 * S)
def sLo (S : Nat) (E j : Int) : Nat := sp14F E j (mdL S E) + (if sp14R E j (mdL S E) = true ∨ S % 2 = 1 then 1 else 0)
def sHi (S : Nat) (E j : Int) : Nat := sp14F E j (mdH S) - (if sp14R E j (mdH S) = false ∧ S % 2 = 1 then 1 else 0)
theorem sAt_bd {S : Nat} {E : Int} (h0 : S ≠ 0) (hE : -1074 ≤ E) (hE1 : E ≤ 972) (hS : S < 9007199254740992) : (100000000000000000 * unN14 E (lgS S E - 17) ≤ 4 * S * ovN E (lgS S E - 17) ∧ 4 * S * ovN E (lgS S E - 17) < 10000000000000000000 * unN14 E (lgS S E - 17)) ∧ -400 ≤ lgS S E - 17 ∧ lgS S E - 17 ≤ 300 := by
  obtain ⟨bd, h1, h2⟩ := lgS_bd h0 hE hE1 hS
  obtain ⟨j, hj⟩ : ∃ j, j = lgS S E - 17 := ⟨_, rfl⟩
  have hb := pbN_pos E (-j)
  have hu := unN_pos E j
  have a := part_ge (a := 1) 17 (by rw [Nat.one_mul]; exact h1)
  have b := part_lt (a := 1) 19 (by rw [Nat.one_mul]; exact h2)
  rw [show -(lgS S E) + ((17 : Nat) : Int) = -j by omega, Nat.one_mul] at a
  rw [show -(lgS S E + 2) + ((19 : Nat) : Int) = -j by omega, Nat.one_mul] at b
  have e17 : (10 : Nat) ^ 17 = 100000000000000000 := rfl
  have e19 : (10 : Nat) ^ 19 = 10000000000000000000 := rfl
  rw [e17] at a
  rw [e19] at b
  have hc := at_cross S E j
  rw [← hj]
  refine ⟨⟨?_, ?_⟩, by omega, by omega⟩
  · refine Nat.le_of_mul_le_mul_right (c := pbN E (-j)) ?_ hb
    rw [hc]
    have := Nat.mul_le_mul_right (unN14 E j) a
    have e : 100000000000000000 * unN14 E j * pbN E (-j) = 100000000000000000 * pbN E (-j) * unN14 E j := by ac_rfl
    rw [e]
    exact this
  · refine Nat.lt_of_mul_lt_mul_right (a := pbN E (-j)) ?_
    rw [hc]
    have := Nat.mul_lt_mul_of_pos_right b hu
    have e : 10000000000000000000 * unN14 E j * pbN E (-j) = 10000000000000000000 * pbN E (-j) * unN14 E j := by ac_rfl
    rw [e]
    exact this
/-- any number of the pattern's size is of eighteen digits or so -/
theorem sF_bd {S : Nat} {E : Int} (h0 : S ≠ 0) (hE : -1074 ≤ E) (hE1 : E ≤ 972) (hS : S < 9007199254740992) {x : Nat} (h1 : 2 * S ≤ x) (h2 : x ≤ 6 * S) : 50000000000000000 ≤ sp14F E (lgS S E - 17) x ∧ sp14F E (lgS S E - 17) x < 15000000000000000000 := by
  obtain ⟨⟨a, b⟩, _⟩ := sAt_bd h0 hE hE1 hS
  obtain ⟨j, hj⟩ : ∃ j, j = lgS S E - 17 := ⟨_, rfl⟩
  rw [← hj] at a b ⊢
  have hu := unN_pos E j
  unfold sp14F
  have m1 := Nat.mul_le_mul_right (ovN E j) h1
  have m2 := Nat.mul_le_mul_right (ovN E j) h2
  obtain ⟨X, hX⟩ : ∃ X, X = S * ovN E j := ⟨_, rfl⟩
  have e4 : 4 * S * ovN E j = 4 * X := by rw [hX, Nat.mul_assoc]
  have e2 : 2 * S * ovN E j = 2 * X := by rw [hX, Nat.mul_assoc]
  have e6 : 6 * S * ovN E j = 6 * X := by rw [hX, Nat.mul_assoc]
  rw [e4] at a b
  rw [e2] at m1
  rw [e6] at m2
  obtain ⟨Y, hY⟩ : ∃ Y, Y = x * ovN E j := ⟨_, rfl⟩
  obtain ⟨u, hu0⟩ : ∃ u, u = unN14 E j := ⟨_, rfl⟩
  rw [← hY] at m1 m2 ⊢
  rw [← hu0] at a b hu ⊢
  exact ⟨(Nat.le_div_iff_mul_le hu).2 (by omega), (Nat.div_lt_iff_lt_mul hu).2 (by omega)⟩
theorem lTi_ok {e q : Int} {P P' O U : Nat} {H : Hp} {x V : Nat} {d : Bool} (r1 : Na.IsR H (a14 6) (t14 (spcO e q P) O) (spcO e q P) O) (r2 : Na.IsR H (a14 7) (t14 (spcU e q P') U) (spcU e q P') U) (n1 : t14 (spcO e q P) O ≤ 300) (n2 : t14 (spcU e q P') U ≤ 300) (hO : O ≠ 0) (hU : U ≠ 0) (hx : 1 ≤ x ∧ x < 18446744073709551616) (hV : x * O / U = V) (hb : 4294967296 ≤ V ∧ V < 18446744073709551616) (hd : decide (x * O % U ≠ 0) = d) {l : Log} (hl : okLog l) : okLog (lTi e q P P' O U H (x : Nat) V d l) := by
  unfold lTi
  rw [Int.toNat_natCast]
  exact okCons (isRB_mk r1 n1) (okCons (isRB_mk r2 n2) (okCons (decide_eq_true (by rw [hV])) (okCons hd (okCons (decide_eq_true ⟨by omega, by omega, hO, hU, by omega, by omega⟩) hl))))
theorem u64w {z : Int} (h0 : 0 ≤ z) (h1 : z < 18446744073709551616) : IntKind.u64.wrap z = z := by
  simp [IntKind.wrap, IntKind.bits, IntKind.signed]
  omega
theorem sp_calls (m : Bool) (c E : Int) (S : Nat) (h0 : S ≠ 0) (hS : S < 9007199254740992) (hE : -1074 ≤ E) (hE1 : E ≤ 972) (w : World) : Calls Tryz.prog 65 #[vP m c E S] w fun r w' => r = .returned (vSp (sLo S E (lgS S E - 17)) (sHi S E (lgS S E - 17)) (sAt S E (lgS S E - 17)) (sMo S E (lgS S E - 17)) (lgS S E - 17)) ∧ Tidy w w' := by
  obtain ⟨_, j1, j2⟩ := sAt_bd h0 hE hE1 hS
  have bA := sF_bd h0 hE hE1 hS (x := 4 * S) (by omega) (by omega)
  have mL : 2 * S ≤ mdL S E ∧ mdL S E ≤ 6 * S := by unfold mdL; split <;> omega
  have mH : 2 * S ≤ mdH S ∧ mdH S ≤ 6 * S := by unfold mdH; omega
  have bL := sF_bd h0 hE hE1 hS (x := mdL S E) mL.1 mL.2
  have bH := sF_bd h0 hE hE1 hS (x := mdH S) mH.1 mH.2
  obtain ⟨j, hj⟩ : ∃ j, j = lgS S E - 17 := ⟨_, rfl⟩
  rw [← hj] at j1 j2 bA bL bH ⊢
  have eT : spT E S = j := by unfold spT; rw [Int.toNat_natCast, ← hj, wrapI (by omega) (by omega)]
  obtain ⟨a, ha⟩ : ∃ a, a = (-j).toNat := ⟨_, rfl⟩
  obtain ⟨b, hb⟩ : ∃ b, b = j.toNat := ⟨_, rfl⟩
  obtain ⟨k, hk⟩ : ∃ k, k = (E - 2).toNat := ⟨_, rfl⟩
  obtain ⟨g, hg⟩ : ∃ g, g = (2 - E).toNat := ⟨_, rfl⟩
  have eN : mx0 (spN E S) = ((a : Nat) : Int) := by unfold spN; rw [eT, wrapI (by omega) (by omega), mx0_nat]; omega
  have eN' : mx0 (IntKind.i64.wrap (0 - spN E S)) = ((b : Nat) : Int) := by unfold spN; rw [eT, wrapI (n := 0 - j) (by omega) (by omega), wrapI (by omega) (by omega), mx0_nat]; omega
  have eW : mx0 (spW E) = ((k : Nat) : Int) := by unfold spW; rw [wrapI (by omega) (by omega), mx0_nat, hk]
  have eW' : mx0 (IntKind.i64.wrap (0 - spW E)) = ((g : Nat) : Int) := by unfold spW; rw [wrapI (n := E - 2) (by omega) (by omega), wrapI (by omega) (by omega), mx0_nat]; omega
  obtain ⟨P, hP⟩ : ∃ P, P = 10 ^ a := ⟨_, rfl⟩
  obtain ⟨P', hP'⟩ : ∃ P', P' = 10 ^ b := ⟨_, rfl⟩
  obtain ⟨O, hO⟩ : ∃ O, O = P * 2 ^ k := ⟨_, rfl⟩
  obtain ⟨U, hU⟩ : ∃ U, U = P' * 2 ^ g := ⟨_, rfl⟩
  have eO : ovN E j = O := by unfold ovN; rw [hO, hP, ← ha, ← hk, Nat.mul_comm]
  have eU : unN14 E j = U := by unfold unN14; rw [hU, hP', ← hb, ← hg, Nat.mul_comm]
  have P0 : P ≠ 0 := by rw [hP]; exact ten_ne a
  have P0' : P' ≠ 0 := by rw [hP']; exact ten_ne b
  have O0 : O ≠ 0 := by rw [hO]; exact mul_ne P0 (fun c => by have := Nat.pow_pos (n := k) (show 0 < 2 by omega); omega)
  have U0 : U ≠ 0 := by rw [hU]; exact mul_ne P0' (fun c => by have := Nat.pow_pos (n := g) (show 0 < 2 by omega); omega)
  -- the rows
  have cP : spcP E S = Na.pMi 10 ((a : Nat) : Int) := by unfold spcP; rw [eN]
  have cQ : spcQ E S = Na.pMi 10 ((b : Nat) : Int) := by unfold spcQ; rw [eN']
  obtain ⟨rP, lP⟩ := pow14 (H := spM5 m c E S P P') (i := 4) (b := 10) (k := a) (.inl rfl) (by omega) (by rw [← hP]; unfold spM5; rw [cP]; rfl)
  obtain ⟨rQ, lQ⟩ := pow14 (H := spM6 m c E S P P' O) (i := 5) (b := 10) (k := b) (.inl rfl) (by omega) (by rw [← hP']; unfold spM6; rw [cQ]; rfl)
  rw [← hP] at rP lP
  rw [← hP'] at rQ lQ
  have tP : t14 (Na.pMi 10 ((a : Nat) : Int)) P = (Na.d32 P).length := rP.2.2.2.1
  have tQ : t14 (Na.pMi 10 ((b : Nat) : Int)) P' = (Na.d32 P').length := rQ.2.2.2.1
  have cO : spcO E S P = k / 32 + ((Na.d32 P).length + 1) := by unfold spcO; rw [cP, eW, tP, sM14]
  have cU : spcU E S P' = g / 32 + ((Na.d32 P').length + 1) := by unfold spcU; rw [cQ, eW', tQ, sM14]
  have hOl : O < 4294967296 ^ spcO E S P := by
    have := shl14 (k := k) (Na.lt_w32 P)
    rw [sM14, ← hO] at this
    rw [cO]
    exact this
  have hUl : U < 4294967296 ^ spcU E S P' := by
    have := shl14 (k := g) (Na.lt_w32 P')
    rw [sM14, ← hU] at this
    rw [cU]
    exact this
  have tO : t14 (spcO E S P) O ≤ 300 := by
    have := trimN_le (dg (spcO E S P) (O : Int))
    rw [dg_len] at this
    unfold t14
    omega
  have tU' : t14 (spcU E S P') U ≤ 300 := by
    have := trimN_le (dg (spcU E S P') (U : Int))
    rw [dg_len] at this
    unfold t14
    omega
  have rO : ∀ l a d, Na.IsR (spM8 m c E S P P' O U l a d) (a14 6) (t14 (spcO E S P) O) (spcO E S P) O := fun l a d => Na.isRd rfl hOl (by omega)
  have rU : ∀ l a d, Na.IsR (spM8 m c E S P P' O U l a d) (a14 7) (t14 (spcU E S P') U) (spcU E S P') U := fun l a d => Na.isRd rfl hUl (by omega)
  -- the log, for every way
  have e4 : sp4 S = ((4 * S : Nat) : Int) := by unfold sp4; rw [u64w (by omega) (by omega)]; omega
  have eHi : spHi S = ((mdH S : Nat) : Int) := by unfold spHi mdH; rw [e4, u64w (by omega) (by omega)]; omega
  have okF14' : okF14 E S = true := decide_eq_true (by omega)
  have key : ∀ (i : Nat) (L' : Int), okLog (lPo E S i) → spLo (Nat.beq i 1) S = ((mdL S E : Nat) : Int) → okLog (lSp14 m c E S P P' O U (sp14F E j (4 * S)) (sp14F E j (mdL S E)) (sp14F E j (mdH S)) (sMo S E j) i (decide (S % 2 = 0)) (sp14R E j (mdL S E)) (sp14R E j (mdH S)) L') := by
    intro i L' hi hlo
    unfold lSp14
    rw [e4, eHi, hlo]
    have pre : okLog (lPre m c E S P P' O U (decide (S % 2 = 0)) (lPo E S i)) := by
      unfold lPre
      refine okCons ?_ (okCons rfl ?_)
      · rw [Int.tmod_eq_emod_of_nonneg (by omega)]
        have : ((((S : Nat) : Int) % 2 == 0) : Bool) = decide (((S : Nat) : Int) % 2 = 0) := rfl
        rw [this]
        exact decide_eq_decide.2 (by omega)
      · rw [eW', eW, eN', eN, cP, cQ]
        have l1 := lPw14_ok (b := 10) (k := a) (.inl rfl) (by omega) (okCons okF14' hi)
        have l2 := lPw14_ok (b := 10) (k := b) (.inl rfl) (by omega) l1
        rw [← hP, ← hP'] at l2
        have l3 := lSh14_ok rP P0 (k := k) (by omega) l2
        rw [← hO] at l3
        have l4 := lSh14_ok rQ P0' (k := g) (by omega) l3
        rw [← hU] at l4
        exact l4
    have mk : ∀ (x : Nat) (H : Hp) (l : Log), Na.IsR H (a14 6) (t14 (spcO E S P) O) (spcO E S P) O → Na.IsR H (a14 7) (t14 (spcU E S P') U) (spcU E S P') U → 2 * S ≤ x → x ≤ 6 * S → 50000000000000000 ≤ sp14F E j x ∧ sp14F E j x < 15000000000000000000 → okLog l → okLog (lTi E S P P' O U H (x : Nat) (sp14F E j x) (sp14R E j x) l) := by
      intro x H l r1 r2 x1 x2 hb hl
      refine lTi_ok r1 r2 tO tU' O0 U0 (by omega) ?_ (by omega) ?_ hl
      · unfold sp14F; rw [eO, eU]
      · unfold sp14R; rw [eO, eU]
    exact mk _ _ _ (rO _ _ _) (rU _ _ _) mH.1 mH.2 bH (mk _ _ _ (rO _ _ _) (rU _ _ _) mL.1 mL.2 bL (mk _ _ _ (rO _ _ _) (rU _ _ _) (by omega) (by omega) bA pre))
  have wL : IntKind.u64.wrap (((sp14F E j (mdL S E) : Nat) : Int) + 1) = ((sp14F E j (mdL S E) + 1 : Nat) : Int) := by rw [u64w (by omega) (by omega)]; omega
  have wH : IntKind.u64.wrap (((sp14F E j (mdH S) : Nat) : Int) - 1) = ((sp14F E j (mdH S) - 1 : Nat) : Int) := by rw [u64w (by omega) (by omega)]; omega
  have lo0 : ¬ (S = 4503599627370496 ∧ -1074 < E) → ∀ i, Nat.beq i 1 = false → spLo (Nat.beq i 1) S = ((mdL S E : Nat) : Int) := by
    intro hn i hi
    rw [hi]
    unfold spLo mdL
    rw [if_neg (by decide), if_neg hn, e4, u64w (by omega) (by omega)]
    omega
  unfold sLo sHi sAt
  by_cases h52 : S = 4503599627370496
  · have hev : S % 2 = 0 := by omega
    have hp : decide (S % 2 = 0) = true := decide_eq_true hev
    by_cases hEl : -1074 < E
    · have hi : okLog (lPo E S 1) := okCons (decide_eq_true (by omega)) (okL1 (beqR_t (by omega)))
      have hlo : spLo (Nat.beq 1 1) S = ((mdL S E : Nat) : Int) := by
        show spLo true S = _
        unfold spLo mdL
        rw [if_pos rfl, if_pos ⟨h52, hEl⟩, e4, u64w (by omega) (by omega)]
        omega
      cases hd1 : sp14R E j (mdL S E) with
      | true =>
        cases hd2 : sp14R E j (mdH S) with
        | true =>
          have f := sp14_1ttt m c E S P P' O U (sp14F E j (4 * S)) (sp14F E j (mdL S E)) (sp14F E j (mdH S)) (sMo S E j)
          have lg := key 1 (IntKind.u64.wrap (((sp14F E j (mdL S E) : Nat) : Int) + 1)) hi hlo
          rw [hd1, hd2, hp] at lg
          rw [wL, eT] at f
          rw [wL] at lg
          rw [if_pos (.inl rfl), if_neg (fun h => by cases h.1)]
          exact fits_calls tabSg f lg (by rfl) (by rfl) w
        | false =>
          have f := sp14_1ttf m c E S P P' O U (sp14F E j (4 * S)) (sp14F E j (mdL S E)) (sp14F E j (mdH S)) (sMo S E j)
          have lg := key 1 (IntKind.u64.wrap (((sp14F E j (mdL S E) : Nat) : Int) + 1)) hi hlo
          rw [hd1, hd2, hp] at lg
          rw [wL, eT] at f
          rw [wL] at lg
          rw [if_pos (.inl rfl), if_neg (fun h => by omega)]
          exact fits_calls tabSg f lg (by rfl) (by rfl) w
      | false =>
        cases hd2 : sp14R E j (mdH S) with
        | true =>
          have f := sp14_1tft m c E S P P' O U (sp14F E j (4 * S)) (sp14F E j (mdL S E)) (sp14F E j (mdH S)) (sMo S E j)
          have lg := key 1 (((sp14F E j (mdL S E) : Nat) : Int)) hi hlo
          rw [hd1, hd2, hp] at lg
          rw [eT] at f
          rw [if_neg (fun h => h.elim (fun h => by cases h) (fun h => by omega)), if_neg (fun h => by cases h.1)]
          exact fits_calls tabSg f lg (by rfl) (by rfl) w
        | false =>
          have f := sp14_1tff m c E S P P' O U (sp14F E j (4 * S)) (sp14F E j (mdL S E)) (sp14F E j (mdH S)) (sMo S E j)
          have lg := key 1 (((sp14F E j (mdL S E) : Nat) : Int)) hi hlo
          rw [hd1, hd2, hp] at lg
          rw [eT] at f
          rw [if_neg (fun h => h.elim (fun h => by cases h) (fun h => by omega)), if_neg (fun h => by omega)]
          exact fits_calls tabSg f lg (by rfl) (by rfl) w
    · have hi : okLog (lPo E S 2) := okCons (decide_eq_false (by omega)) (okL1 (beqR_t (by omega)))
      have hlo := lo0 (fun h => hEl h.2) 2 rfl
      cases hd1 : sp14R E j (mdL S E) with
      | true =>
        cases hd2 : sp14R E j (mdH S) with
        | true =>
          have f := sp14_2ttt m c E S P P' O U (sp14F E j (4 * S)) (sp14F E j (mdL S E)) (sp14F E j (mdH S)) (sMo S E j)
          have lg := key 2 (IntKind.u64.wrap (((sp14F E j (mdL S E) : Nat) : Int) + 1)) hi hlo
          rw [hd1, hd2, hp] at lg
          rw [wL, eT] at f
          rw [wL] at lg
          rw [if_pos (.inl rfl), if_neg (fun h => by cases h.1)]
          exact fits_calls tabSg f lg (by rfl) (by rfl) w
        | false =>
          have f := sp14_2ttf m c E S P P' O U (sp14F E j (4 * S)) (sp14F E j (mdL S E)) (sp14F E j (mdH S)) (sMo S E j)
          have lg := key 2 (IntKind.u64.wrap (((sp14F E j (mdL S E) : Nat) : Int) + 1)) hi hlo
          rw [hd1, hd2, hp] at lg
          rw [wL, eT] at f
          rw [wL] at lg
          rw [if_pos (.inl rfl), if_neg (fun h => by omega)]
          exact fits_calls tabSg f lg (by rfl) (by rfl) w
      | false =>
        cases hd2 : sp14R E j (mdH S) with
        | true =>
          have f := sp14_2tft m c E S P P' O U (sp14F E j (4 * S)) (sp14F E j (mdL S E)) (sp14F E j (mdH S)) (sMo S E j)
          have lg := key 2 (((sp14F E j (mdL S E) : Nat) : Int)) hi hlo
          rw [hd1, hd2, hp] at lg
          rw [eT] at f
          rw [if_neg (fun h => h.elim (fun h => by cases h) (fun h => by omega)), if_neg (fun h => by cases h.1)]
          exact fits_calls tabSg f lg (by rfl) (by rfl) w
        | false =>
          have f := sp14_2tff m c E S P P' O U (sp14F E j (4 * S)) (sp14F E j (mdL S E)) (sp14F E j (mdH S)) (sMo S E j)
          have lg := key 2 (((sp14F E j (mdL S E) : Nat) : Int)) hi hlo
          rw [hd1, hd2, hp] at lg
          rw [eT] at f
          rw [if_neg (fun h => h.elim (fun h => by cases h) (fun h => by omega)), if_neg (fun h => by omega)]
          exact fits_calls tabSg f lg (by rfl) (by rfl) w
  · have hi : okLog (lPo E S 0) := okL1 (beqR_f (by omega))
    have hlo := lo0 (fun h => h52 h.1) 0 rfl
    by_cases hev : S % 2 = 0
    · have hp : decide (S % 2 = 0) = true := decide_eq_true hev
      cases hd1 : sp14R E j (mdL S E) with
      | true =>
        cases hd2 : sp14R E j (mdH S) with
        | true =>
          have f := sp14_0ttt m c E S P P' O U (sp14F E j (4 * S)) (sp14F E j (mdL S E)) (sp14F E j (mdH S)) (sMo S E j)
          have lg := key 0 (IntKind.u64.wrap (((sp14F E j (mdL S E) : Nat) : Int) + 1)) hi hlo
          rw [hd1, hd2, hp] at lg
          rw [wL, eT] at f
          rw [wL] at lg
          rw [if_pos (.inl rfl), if_neg (fun h => by cases h.1)]
          exact fits_calls tabSg f lg (by rfl) (by rfl) w
        | false =>
          have f := sp14_0ttf m c E S P P' O U (sp14F E j (4 * S)) (sp14F E j (mdL S E)) (sp14F E j (mdH S)) (sMo S E j)
          have lg := key 0 (IntKind.u64.wrap (((sp14F E j (mdL S E) : Nat) : Int) + 1)) hi hlo
          rw [hd1, hd2, hp] at lg
          rw [wL, eT] at f
          rw [wL] at lg
          rw [if_pos (.inl rfl), if_neg (fun h => by omega)]
          exact fits_calls tabSg f lg (by rfl) (by rfl) w
      | false =>
        cases hd2 : sp14R E j (mdH S) with
        | true =>
          have f := sp14_0tft m c E S P P' O U (sp14F E j (4 * S)) (sp14F E j (mdL S E)) (sp14F E j (mdH S)) (sMo S E j)
          have lg := key 0 (((sp14F E j (mdL S E) : Nat) : Int)) hi hlo
          rw [hd1, hd2, hp] at lg
          rw [eT] at f
          rw [if_neg (fun h => h.elim (fun h => by cases h) (fun h => by omega)), if_neg (fun h => by cases h.1)]
          exact fits_calls tabSg f lg (by rfl) (by rfl) w
        | false =>
          have f := sp14_0tff m c E S P P' O U (sp14F E j (4 * S)) (sp14F E j (mdL S E)) (sp14F E j (mdH S)) (sMo S E j)
          have lg := key 0 (((sp14F E j (mdL S E) : Nat) : Int)) hi hlo
          rw [hd1, hd2, hp] at lg
          rw [eT] at f
          rw [if_neg (fun h => h.elim (fun h => by cases h) (fun h => by omega)), if_neg (fun h => by omega)]
          exact fits_calls tabSg f lg (by rfl) (by rfl) w
    · have hp : decide (S % 2 = 0) = false := decide_eq_false hev
      have hodd : S % 2 = 1 := by omega
      cases hd1 : sp14R E j (mdL S E) with
      | true =>
        cases hd2 : sp14R E j (mdH S) with
        | true =>
          have f := sp14_0ftt m c E S P P' O U (sp14F E j (4 * S)) (sp14F E j (mdL S E)) (sp14F E j (mdH S)) (sMo S E j)
          have lg := key 0 (IntKind.u64.wrap (((sp14F E j (mdL S E) : Nat) : Int) + 1)) hi hlo
          rw [hd1, hd2, hp] at lg
          rw [wL, eT] at f
          rw [wL] at lg
          rw [if_pos (.inl rfl), if_neg (fun h => by cases h.1)]
          exact fits_calls tabSg f lg (by rfl) (by rfl) w
        | false =>
          have f := sp14_0ftf m c E S P P' O U (sp14F E j (4 * S)) (sp14F E j (mdL S E)) (sp14F E j (mdH S)) (sMo S E j)
          have lg := key 0 (IntKind.u64.wrap (((sp14F E j (mdL S E) : Nat) : Int) + 1)) hi hlo
          rw [hd1, hd2, hp] at lg
          rw [wL, wH, eT] at f
          rw [wL] at lg
          rw [if_pos (.inl rfl), if_pos ⟨rfl, hodd⟩]
          exact fits_calls tabSg f lg (by rfl) (by rfl) w
      | false =>
        cases hd2 : sp14R E j (mdH S) with
        | true =>
          have f := sp14_0fft m c E S P P' O U (sp14F E j (4 * S)) (sp14F E j (mdL S E)) (sp14F E j (mdH S)) (sMo S E j)
          have lg := key 0 (IntKind.u64.wrap (((sp14F E j (mdL S E) : Nat) : Int) + 1)) hi hlo
          rw [hd1, hd2, hp] at lg
          rw [wL, eT] at f
          rw [wL] at lg
          rw [if_pos (.inr hodd), if_neg (fun h => by cases h.1)]
          exact fits_calls tabSg f lg (by rfl) (by rfl) w
        | false =>
          have f := sp14_0fff m c E S P P' O U (sp14F E j (4 * S)) (sp14F E j (mdL S E)) (sp14F E j (mdH S)) (sMo S E j)
          have lg := key 0 (IntKind.u64.wrap (((sp14F E j (mdL S E) : Nat) : Int) + 1)) hi hlo
          rw [hd1, hd2, hp] at lg
          rw [wL, wH, eT] at f
          rw [wL] at lg
          rw [if_pos (.inr hodd), if_pos ⟨rfl, hodd⟩]
          exact fits_calls tabSg f lg (by rfl) (by rfl) w
def gSpn : Ans := fun vals s =>
  match vals with
  | [v] =>
    match vP4 v with
    | some (_, _, E, q) => some (vSp (sLo q.toNat E (lgS q.toNat E - 17)) (sHi q.toNat E (lgS q.toNat E - 17)) (sAt q.toNat E (lgS q.toNat E - 17)) (sMo q.toNat E (lgS q.toNat E - 17)) (lgS q.toNat E - 17), s, [(okF14 E q, true)])
    | none => none
  | _ => none
theorem gSpn_ok : AnsOk 65 gSpn := by
  intro vals s v s' lg h hl w
  unfold gSpn at h
  split at h
  · split at h
    · rename_i o m c E q hv
      rw [vP4_spec hv]
      cases h
      obtain ⟨h1, h2, h3, h4⟩ := of_decide_eq_true (hl _ (List.mem_singleton.2 rfl))
      obtain ⟨k, rfl⟩ : ∃ k : Nat, q = k := ⟨q.toNat, by omega⟩
      exact sp_calls m c E k (by omega) (by omega) h3 h4 w
    · cases h
  · cases h
end Go.Proofs.YtgefjidphfdhdabGreatDoor
namespace Go.Proofs.YtgefjidphfdhdabGreatDoor
open Go.KRun Go.Rd Go.RowKit Go.Sort Go.Lib Go.Shelf
set_option maxRecDepth 100000
theorem holds_zero0 (w : World) (T : TypeId) (nd : Nat) (hs : nd ≤ 24) : Holds (fun (b : UInt8) => Value.int .u8 (b.toNat : Int)) (w.alloc (.cells zeros24 T)) w.heap.size 0 (Array.replicate nd (0 : UInt8)) := fun j hj => by
  have hj' : j < nd := by simpa using hj
  refine ⟨?_, World.frozen?_alloc_new _ _ _ _⟩
  rw [World.cell?_alloc_new, zeros24_at _ (by omega), getElem!_pos _ j hj]
  simp
theorem fin_pos0 (w : World) (o : Obj) (dk : Array UInt8) (k : Nat) : ∃ os, (putRow (fun (b : UInt8) => Value.int .u8 (b.toNat : Int)) (w.alloc o) w.heap.size 0 dk).drewN k = grow (w.drewN k) os := by
  rw [alloc_eq_grow]
  obtain ⟨os', _, e⟩ := putRow_grow_new (fun (b : UInt8) => Value.int .u8 (b.toNat : Int)) w #[o] w.heap.size 0 dk (Nat.le_refl _)
  exact ⟨os', by rw [e]; rfl⟩
set_option maxHeartbeats 6400000 in
theorem ifu_calls (u : Nat) (h100 : 100 ≤ u) (hu64 : u < 18446744073709551616) (w : World) (hk : knT w) : Calls Tryz.prog 113 #[.int .u64 u, .int .i64 10] w fun e w' => e = .returned (.string ⟨(Lib.decDigits u).toArray⟩) ∧ ∃ k os, w' = grow (w.drewN k) os := by
  have hu1 : 1 ≤ u := by omega
  have hnd20 : Lib.nDigits u ≤ 20 := by have := Lib.numDigits_eq u hu1 hu64; split at this <;> omega
  have hal : Tryz.prog.arrayLen 143 = 24 := by kernel_rfl
  have hsl1 : ∀ W, (Instr.sliceAt 143 (.pointer (some ⟨w.heap.size, 0, none⟩)) none (some (.int .i64 (Lib.nDigits u : Int))) none).run Tryz.prog W = .ok (.slice (some ⟨w.heap.size, 0, none⟩) (Lib.nDigits u) 24) W := fun W => by
    rw [run_sliceAt_array_h W 143 ⟨w.heap.size, 0, none⟩ (by kernel_rfl) .i64 (Lib.nDigits u : Int) (by omega) (by rw [hal]; omega)]
    rw [hal]
    rfl
  have hH0 := holds_zero0 w 143 (Lib.nDigits u) (by omega)
  have hfmt : Calls Tryz.prog 106 #[.slice (some ⟨w.heap.size, 0, none⟩) (Array.replicate (Lib.nDigits u) (0 : UInt8)).size 24, .int .u64 u] (w.alloc (.cells Lib.zeros24 143)) fun e w' => e = .returned (.tuple #[]) ∧ ∃ (n v' : Nat) (dk : Array UInt8), w' = (putRow (fun (b : UInt8) => Value.int .u8 (b.toNat : Int)) (w.alloc (.cells Lib.zeros24 143)) w.heap.size 0 dk).drewN n ∧ FmtInv (Array.replicate (Lib.nDigits u) (0 : UInt8)).size u 0 v' dk := Any.internal_strconv_formatBase10 { laysM171 with } w.heap.size 0 24 u (Array.replicate (Lib.nDigits u) 0) _ hH0 (by rw [Array.size_replicate]; exact Lib.lt_pow_nDigits u) hu64 (by rw [Array.size_replicate]; omega)
  rw [Array.size_replicate] at hfmt
  have htab : knT (w.alloc (.cells Lib.zeros24 143)) := by
    obtain ⟨t, z, h⟩ := hk
    refine ⟨t, z, ?_⟩
    rw [heap_alloc_ne _ _ _ (Nat.ne_of_lt (Array.getElem?_eq_some_iff.1 h).1), h]
  have hnum : Calls Tryz.prog 105 #[.int .u64 u] (w.alloc (.cells Lib.zeros24 143)) fun e w' => e = .returned (.int .i64 (Lib.nDigits u : Nat)) ∧ w' = w.alloc (.cells Lib.zeros24 143) := Any.internal_strconv_numDigits { laysM171 with } u hu1 hu64 _ (tabIs_of htab (by kernel_rfl))
  have HH0 := Lib.hid hH0
  have hlt : ¬ (u : Int) < 100 := by omega
  clear hH0 hal
  go_enter Tryz.func113, Tryz.ntmps113
  go_wp2_with (go_at_call 105; refine hnum.mono ?_; rintro e w' ⟨rfl, rfl⟩)
  go_at_call 106
  refine hfmt.mono ?_
  rintro e w' ⟨rfl, k, v', dk, rfl, hF⟩
  have hcv : (convert 83 9 (.slice (some ⟨w.heap.size, 0, none⟩) (Lib.nDigits u) 24)).run Tryz.prog ((putRow (fun (b : UInt8) => Value.int .u8 (b.toNat : Int)) (w.alloc (.cells Lib.zeros24 143)) w.heap.size 0 dk).drewN k) = .ok (.string ⟨(Lib.decDigits u).toArray⟩) ((putRow (fun (b : UInt8) => Value.int .u8 (b.toNat : Int)) (w.alloc (.cells Lib.zeros24 143)) w.heap.size 0 dk).drewN k) := by
    have h := run_convert_bytes_back (P := Tryz.prog) ((putRow (fun (b : UInt8) => Value.int .u8 (b.toNat : Int)) (w.alloc (.cells Lib.zeros24 143)) w.heap.size 0 dk).drewN k) 83 9 5 ⟨w.heap.size, 0, none⟩ 24 (Lib.decDigits u) Tryz.underlying83 Tryz.underlying5 Tryz.underlying9 (fun j hj => by
      rw [Lib.row_is_numeral hF j hj, Lib.add_plain, World.cell?_drewN]
      exact cell?_putRow (fun (b : UInt8) => Value.int .u8 (b.toNat : Int)) _ w.heap.size 0 _ dk HH0.out (by rw [hF.size, Array.size_replicate]) j (by rw [hF.size]; rw [Lib.decDigits_length] at hj; exact hj))
    rw [Lib.decDigits_length] at h
    exact h
  go_wp2
  go_ret
  obtain ⟨os, eo⟩ := fin_pos0 w (.cells Lib.zeros24 143) dk k
  exact ⟨rfl, k, os, eo⟩
set_option maxHeartbeats 6400000 in
theorem fu_calls (u : Nat) (h100 : 100 ≤ u) (hu64 : u < 18446744073709551616) (w : World) (hk : knT w) : Calls Tryz.prog 98 #[.int .u64 u, .int .i64 10] w fun e w' => e = .returned (bR (dcL u)) ∧ Tidy w w' := by
  have h := ifu_calls u h100 hu64 w hk
  rw [dec_dcL hu64] at h
  go_enter Tryz.func98, Tryz.ntmps98
  go_wp2_with (go_at_call 113; refine h.mono ?_; rintro e w' ⟨rfl, k, os, rfl⟩)
  go_ret
  exact ⟨rfl, tidy_below (below_grow14 w k os)⟩
def gFuT : Ans := fun vals s =>
  match vals with
  | [.int .u64 n, .int .i64 b] => some (bR (dcL n.toNat), s, [(decide (100 ≤ n ∧ n < 18446744073709551616 ∧ b = 10), true)])
  | _ => none
theorem gFuT_ok : AnsTOk 98 gFuT := by
  intro vals s v s' lg h hl w hk
  unfold gFuT at h
  split at h
  · cases h
    obtain ⟨h1, h2, h3⟩ := of_decide_eq_true (hl _ (List.mem_singleton.2 rfl))
    rename_i n b
    obtain ⟨u, rfl⟩ : ∃ u : Nat, n = u := ⟨n.toNat, by omega⟩
    subst h3
    exact fu_calls u (by omega) (by omega) w hk
  · cases h
end Go.Proofs.YtgefjidphfdhdabGreatDoor
namespace Go.Proofs.YtgefjidphfdhdabGreatDoor
open Go.KRun Go.Nt Go.Rd Go.Wd Go.Pt
set_option maxRecDepth 100000
set_option linter.unusedVariables false
def vSp5 : Value → Option (Int × Int × Int × Bool × Int)
  | .agg cs =>
    match cs.toList with
    | [.int .u64 l, .int .u64 h, .int .u64 a, .bool d, .int .i64 t] => some (l, h, a, d, t)
    | _ => none
  | _ => none
theorem vSp5_spec {v : Value} {l h a : Int} {d : Bool} {t : Int} (hv : vSp5 v = some (l, h, a, d, t)) : v = vSp l h a d t := by
  unfold vSp5 at hv
  split at hv
  · rename_i cs
    split at hv
    · rename_i hc
      cases hv
      obtain ⟨l⟩ := cs
      simp only at hc
      subst hc
      rfl
    · cases hv
  · cases hv
/-! ### the two numbers about the pattern -/
theorem ar14_g (l h a t u q : Int) (d : Bool) : Fits (reckon (tabOf Tryz.prog extY conN true) 200 66 [vSp l h a d t, .int .u64 u] [num q, cmp false, cmp true]) (.tuple #[.int .u64 (IntKind.u64.wrap (IntKind.u64.wrap (q + 1) * u)), .int .u64 (IntKind.u64.wrap (q * u))]) [(decide (a.tmod u > IntKind.u64.wrap (u.tdiv 2)), true), (decide (u = 0), false), (decide (u = 0), false), (decide (IntKind.u64.wrap (a.tdiv u) = q), true)] := ⟨by kernel_rfl, by kernel_rfl, by kernel_rfl, by kernel_rfl⟩
theorem ar14_m (l h a t u q : Int) : Fits (reckon (tabOf Tryz.prog extY conN true) 200 66 [vSp l h a true t, .int .u64 u] [num q, cmp false, cmp false, cmp true]) (.tuple #[.int .u64 (IntKind.u64.wrap (IntKind.u64.wrap (q + 1) * u)), .int .u64 (IntKind.u64.wrap (q * u))]) [(a.tmod u == IntKind.u64.wrap (u.tdiv 2), true), (decide (a.tmod u > IntKind.u64.wrap (u.tdiv 2)), false), (decide (u = 0), false), (decide (u = 0), false), (decide (IntKind.u64.wrap (a.tdiv u) = q), true)] := ⟨by kernel_rfl, by kernel_rfl, by kernel_rfl, by kernel_rfl⟩
theorem ar14_o (l h a t u q : Int) : Fits (reckon (tabOf Tryz.prog extY conN true) 200 66 [vSp l h a false t, .int .u64 u] [num q, cmp false, cmp false, cmp true, cmp false, cmp true]) (.tuple #[.int .u64 (IntKind.u64.wrap (IntKind.u64.wrap (q + 1) * u)), .int .u64 (IntKind.u64.wrap (q * u))]) [(q.tmod 2 == 1, true), (decide ((2 : Int) = 0), false), (a.tmod u == IntKind.u64.wrap (u.tdiv 2), true), (decide (a.tmod u > IntKind.u64.wrap (u.tdiv 2)), false), (decide (u = 0), false), (decide (u = 0), false), (decide (IntKind.u64.wrap (a.tdiv u) = q), true)] := ⟨by kernel_rfl, by kernel_rfl, by kernel_rfl, by kernel_rfl⟩
theorem ar14_e (l h a t u q : Int) : Fits (reckon (tabOf Tryz.prog extY conN true) 200 66 [vSp l h a false t, .int .u64 u] [num q, cmp false, cmp false, cmp true, cmp false, cmp false]) (.tuple #[.int .u64 (IntKind.u64.wrap (q * u)), .int .u64 (IntKind.u64.wrap (IntKind.u64.wrap (q + 1) * u))]) [(q.tmod 2 == 1, false), (decide ((2 : Int) = 0), false), (a.tmod u == IntKind.u64.wrap (u.tdiv 2), true), (decide (a.tmod u > IntKind.u64.wrap (u.tdiv 2)), false), (decide (u = 0), false), (decide (u = 0), false), (decide (IntKind.u64.wrap (a.tdiv u) = q), true)] := ⟨by kernel_rfl, by kernel_rfl, by kernel_rfl, by kernel_rfl⟩
theorem ar14_l (l h a t u q : Int) (d : Bool) : Fits (reckon (tabOf Tryz.prog extY conN true) 200 66 [vSp l h a d t, .int .u64 u] [num q, cmp false, cmp false, cmp false]) (.tuple #[.int .u64 (IntKind.u64.wrap (q * u)), .int .u64 (IntKind.u64.wrap (IntKind.u64.wrap (q + 1) * u))]) [(a.tmod u == IntKind.u64.wrap (u.tdiv 2), false), (decide (a.tmod u > IntKind.u64.wrap (u.tdiv 2)), false), (decide (u = 0), false), (decide (u = 0), false), (decide (IntKind.u64.wrap (a.tdiv u) = q), true)] := ⟨by kernel_rfl, by kernel_rfl, by kernel_rfl, by kernel_rfl⟩
def okAr (a u : Nat) : Bool := decide (2 ≤ u ∧ (a / u + 1) * u < 18446744073709551616)
def arV (d : Bool) (a u : Nat) : Value := if d = true then .tuple #[.int .u64 (((a / u + 1) * u : Nat) : Int), .int .u64 ((a / u * u : Nat) : Int)] else .tuple #[.int .u64 ((a / u * u : Nat) : Int), .int .u64 (((a / u + 1) * u : Nat) : Int)]
theorem ar_calls (l h t : Int) (d : Bool) (a u : Nat) (hk : okAr a u = true) (w : World) : Calls Tryz.prog 66 #[vSp l h a d t, .int .u64 u] w fun e w' => e = .returned (arV (nrU a d u) a u) ∧ Tidy w w' := by
  have hT := tabY_ok conN_ok
  obtain ⟨h1, h2⟩ := of_decide_eq_true hk
  have hdm := Nat.div_add_mod a u
  have hm := Nat.mod_lt a (show 0 < u by omega)
  have e1 : ((a : Nat) : Int).tdiv ((u : Nat) : Int) = ((a / u : Nat) : Int) := by rw [Int.tdiv_eq_ediv_of_nonneg (by omega)]; exact (Int.natCast_ediv a u).symm
  have e2 : ((a : Nat) : Int).tmod ((u : Nat) : Int) = ((a % u : Nat) : Int) := by rw [Int.tmod_eq_emod_of_nonneg (by omega)]; exact (Int.natCast_emod a u).symm
  obtain ⟨q, hq⟩ : ∃ q, q = a / u := ⟨_, rfl⟩
  have hqu : (q + 1) * u = q * u + u := by rw [Nat.add_mul, Nat.one_mul]
  rw [← hq] at h2 hdm e1
  rw [Nat.mul_comm] at hdm
  have q2 : q ≤ q * u := Nat.le_mul_of_pos_right _ (by omega)
  have e3 : IntKind.u64.wrap (((u : Nat) : Int).tdiv 2) = ((u / 2 : Nat) : Int) := by rw [Int.tdiv_eq_ediv_of_nonneg (by omega), u64w (by omega) (by omega)]; omega
  have w1 : IntKind.u64.wrap ((q : Nat) : Int) = ((q : Nat) : Int) := u64w (by omega) (by omega)
  have w2 : IntKind.u64.wrap (((q : Nat) : Int) * ((u : Nat) : Int)) = ((q * u : Nat) : Int) := by rw [← Int.natCast_mul, u64w (by omega) (by omega)]
  have w3 : IntKind.u64.wrap (IntKind.u64.wrap (((q : Nat) : Int) + 1) * ((u : Nat) : Int)) = (((q + 1) * u : Nat) : Int) := by
    rw [u64w (z := ((q : Nat) : Int) + 1) (by omega) (by omega), show ((q : Nat) : Int) + 1 = ((q + 1 : Nat) : Int) by omega, ← Int.natCast_mul, u64w (by omega) (by omega)]
  have eo : (((q : Nat) : Int).tmod 2 == 1) = decide (q % 2 = 1) := by
    rw [Int.tmod_eq_emod_of_nonneg (by omega)]
    have : ((((q : Nat) : Int) % 2 == 1) : Bool) = decide (((q : Nat) : Int) % 2 = 1) := rfl
    rw [this]
    exact decide_eq_decide.2 (by omega)
  have kb : okLog [(decide (((u : Nat) : Int) = 0), false), (decide (((u : Nat) : Int) = 0), false), (decide (IntKind.u64.wrap (((a : Nat) : Int).tdiv ((u : Nat) : Int)) = ((q : Nat) : Int)), true)] := okCons (decide_eq_false (by omega)) (okCons (decide_eq_false (by omega)) (okL1 (decide_eq_true (by rw [e1, w1]))))
  unfold arV nrU
  rw [← hq]
  have kgt : ∀ b, decide (u / 2 < a % u) = b → decide (((a : Nat) : Int).tmod ((u : Nat) : Int) > IntKind.u64.wrap (((u : Nat) : Int).tdiv 2)) = b := fun b hb => by rw [← hb, e2, e3]; exact decide_eq_decide.2 (by omega)
  have keq : ∀ b, decide (a % u = u / 2) = b → (((a : Nat) : Int).tmod ((u : Nat) : Int) == IntKind.u64.wrap (((u : Nat) : Int).tdiv 2)) = b := fun b hb => by
    rw [← hb, e2, e3]
    have : ((((a % u : Nat) : Int) == ((u / 2 : Nat) : Int)) : Bool) = decide (((a % u : Nat) : Int) = ((u / 2 : Nat) : Int)) := rfl
    rw [this]
    exact decide_eq_decide.2 (by omega)
  by_cases c1 : u / 2 < a % u
  · rw [decide_eq_true c1, Bool.true_or, if_pos rfl]
    have f := ar14_g l h a t u q d
    rw [w2, w3] at f
    exact fits_calls hT f (okCons (kgt true (decide_eq_true c1)) kb) (by rfl) (by rfl) w
  have kb := okCons (kgt false (decide_eq_false c1)) kb
  rw [decide_eq_false c1, Bool.false_or]
  by_cases c2 : a % u = u / 2
  · have kb := okCons (keq true (decide_eq_true c2)) kb
    rw [decide_eq_true c2, Bool.true_and]
    cases d with
    | true =>
      rw [Bool.true_or, if_pos rfl]
      have f := ar14_m l h a t u q
      rw [w2, w3] at f
      exact fits_calls hT f kb (by rfl) (by rfl) w
    | false =>
      rw [Bool.false_or]
      by_cases c3 : q % 2 = 1
      · rw [decide_eq_true c3, if_pos rfl]
        have f := ar14_o l h a t u q
        rw [w2, w3] at f
        exact fits_calls hT f (okCons (by rw [eo]; exact decide_eq_true c3) (okCons (show decide ((2 : Int) = 0) = false from rfl) kb)) (by rfl) (by rfl) w
      · rw [decide_eq_false c3, if_neg (by decide)]
        have f := ar14_e l h a t u q
        rw [w2, w3] at f
        exact fits_calls hT f (okCons (by rw [eo]; exact decide_eq_false c3) (okCons (show decide ((2 : Int) = 0) = false from rfl) kb)) (by rfl) (by rfl) w
  · rw [decide_eq_false c2, Bool.false_and, if_neg (by decide)]
    have f := ar14_l l h a t u q d
    rw [w2, w3] at f
    exact fits_calls hT f (okCons (keq false (decide_eq_false c2)) kb) (by rfl) (by rfl) w
/-- told ahead which is the nearer one -/
def gAro : Ans := fun vals s =>
  match vals, s with
  | [v, .int .u64 u], .inr (.inr (.inr (.inl true))) :: s' =>
    match vSp5 v with
    | some (_, _, a, d, _) => some (arV true a.toNat u.toNat, s', [(nrU a.toNat d u.toNat, true), (okAr a.toNat u.toNat, true), (decide (0 ≤ a ∧ 0 ≤ u), true)])
    | none => none
  | [v, .int .u64 u], .inr (.inr (.inr (.inl false))) :: s' =>
    match vSp5 v with
    | some (_, _, a, d, _) => some (arV false a.toNat u.toNat, s', [(nrU a.toNat d u.toNat, false), (okAr a.toNat u.toNat, true), (decide (0 ≤ a ∧ 0 ≤ u), true)])
    | none => none
  | _, _ => none
theorem gAro_ok : AnsOk 66 gAro := by
  intro vals s v s' lg h hl w
  unfold gAro at h
  split at h
  all_goals
    try
      split at h
      · rename_i u s2 o l hh a d t hv
        rw [vSp5_spec hv]
        cases h
        have l1 := hl _ List.mem_cons_self
        have l2 : okAr a.toNat u.toNat = true := hl _ (List.mem_cons_of_mem _ List.mem_cons_self)
        obtain ⟨l3, l4⟩ := of_decide_eq_true (hl _ (List.mem_cons_of_mem _ (List.mem_cons_of_mem _ (List.mem_singleton.2 rfl))))
        obtain ⟨A, rfl⟩ : ∃ A : Nat, a = A := ⟨a.toNat, by omega⟩
        obtain ⟨K, rfl⟩ : ∃ K : Nat, u = K := ⟨u.toNat, by omega⟩
        have := ar_calls l hh t d A K l2 w
        have l1 : nrU A d K = _ := l1
        rw [l1] at this
        exact this
      · cases h
  cases h
theorem ha14_t (l h a t n : Int) (d d' : Bool) : Fits (reckon (tabOf Tryz.prog extY conN true) 200 67 [vSp l h a d t, .int .u64 n] [cmp true, cmp d']) (.bool d') [(decide (n ≤ h), d'), (decide (l ≤ n), true)] := ⟨by kernel_rfl, by kernel_rfl, by kernel_rfl, by kernel_rfl⟩
theorem ha14_f (l h a t n : Int) (d : Bool) : Fits (reckon (tabOf Tryz.prog extY conN true) 200 67 [vSp l h a d t, .int .u64 n] [cmp false]) (.bool false) [(decide (l ≤ n), false)] := ⟨by kernel_rfl, by kernel_rfl, by kernel_rfl, by kernel_rfl⟩
/-- told ahead -/
def gHas : Ans := fun vals s =>
  match vals, s with
  | [v, .int .u64 n], .inr (.inr (.inr (.inl b))) :: s' =>
    match vSp5 v with
    | some (l, h, _, _, _) => some (.bool b, s', [(decide (l ≤ n) && decide (n ≤ h), b)])
    | none => none
  | _, _ => none
theorem gHas_ok : AnsOk 67 gHas := by
  intro vals s v s' lg h hl w
  unfold gHas at h
  split at h
  · split at h
    · rename_i n b s2 o l hh a d t hv
      rw [vSp5_spec hv]
      cases h
      have l1 : (decide (l ≤ n) && decide (n ≤ hh)) = b := hl _ (List.mem_singleton.2 rfl)
      rw [← l1]
      by_cases c : l ≤ n
      · rw [decide_eq_true c, Bool.true_and]
        exact fits_calls (tabY_ok conN_ok) (ha14_t l hh a t n d _) (okCons rfl (okL1 (decide_eq_true c))) (by rfl) (by rfl) w
      · rw [decide_eq_false c, Bool.false_and]
        exact fits_calls (tabY_ok conN_ok) (ha14_f l hh a t n d) (okL1 (decide_eq_false c)) (by rfl) (by rfl) w
    · cases h
  · cases h
/-! ### digits without noughts at their end -/
def hcWn14 : Hc := altH 98 (gT gFuT) hcN
theorem hcWn14_ok : HcOk hcWn14 := altH_ok Tryz.func98 rfl (gT_ok gFuT_ok) hcN_ok
def conWn14 : Con := alt 34 gTrA conN
theorem conWn14_ok : ConOk conWn14 := alt_ok Tryz.func34 rfl gTrA_ok conN_ok
theorem wn14 (n t : Int) : Fits (reckonAt (tabH Tryz.prog extY conWn14 hcWn14) hT0 200 68 [.int .u64 n, .int .i64 t] []) (vDc (trC 48 (dcL n.toNat)) (IntKind.i64.wrap (IntKind.i64.wrap (t + (((dcL n.toNat).length : Nat) : Int)) - 1))) [(true, true), (decide ((dcL n.toNat).length ≤ 100000), true), (decide (100 ≤ n ∧ n < 18446744073709551616 ∧ (10 : Int) = 10), true)] := ⟨by kernel_rfl, by kernel_rfl, by kernel_rfl, by kernel_rfl⟩
def gWnT : Ans := fun vals s =>
  match vals with
  | [.int .u64 n, .int .i64 t] => some (vDc (trR (dcL n.toNat)) (t + (((dcL n.toNat).length : Nat) : Int) - 1), s, [(decide (100 ≤ n ∧ n < 18446744073709551616 ∧ -100000 ≤ t ∧ t ≤ 100000), true)])
  | _ => none
theorem dcL_len20 (n : Nat) : (dcL n).length ≤ 20 := decF_len 20 n
theorem gWnT_ok : AnsTOk 68 gWnT := by
  intro vals s v s' lg h hl w hk
  unfold gWnT at h
  split at h
  · rename_i n t
    cases h
    obtain ⟨h1, h2, h3, h4⟩ := of_decide_eq_true (hl _ (List.mem_singleton.2 rfl))
    have f := wn14 n t
    have hlen := dcL_len20 n.toNat
    rw [wrapI (n := t + (((dcL n.toNat).length : Nat) : Int)) (by omega) (by omega), wrapI (by omega) (by omega)] at f
    exact fitsT (tabH_ok conWn14_ok hcWn14_ok) f (okCons rfl (okCons (decide_eq_true (by omega)) (okL1 (decide_eq_true ⟨h1, h2, rfl⟩)))) (by rfl) (by rfl) hk
  · cases h
/-! ### the search -/
def conSr : Con := alt 65 gSpn (alt 66 gAro (alt 67 gHas conN))
theorem conSr_ok : ConOk conSr := alt_ok Tryz.func65 rfl gSpn_ok (alt_ok Tryz.func66 rfl gAro_ok (alt_ok Tryz.func67 rfl gHas_ok conN_ok))
def hcSr : Hc := altH 68 (gT gWnT) hcN
theorem hcSr_ok : HcOk hcSr := altH_ok Tryz.func68 rfl (gT_ok gWnT_ok) hcN_ok
theorem tabSr : TabOk (tabH Tryz.prog extY conSr hcSr) := tabH_ok conSr_ok hcSr_ok
def srL1 (F : Func) : Code := cIn (cIn (sP F 3))
def srL2 (F : Func) : Code := cIn (cIn (sP F 5))
theorem sr_body : Tryz.f33.body = some (seqs [sP Tryz.f33 0, sP Tryz.f33 1, sP Tryz.f33 2] (.seq (.block 0 (.loop (srL1 Tryz.f33))) (.seq (sP Tryz.f33 4) (.seq (.block 2 (.loop (srL2 Tryz.f33))) (sK Tryz.f33 6))))) := by kernel_rfl
def zDc : List Value × TypeId := ([bR [], .int .i64 0], 42)
def srM (m : Bool) (c e q l h a : Int) (d : Bool) (t : Int) : Hp := ⟨4, [bSp l h a d t, zDc, bPa m c e q, (pwV, pwT)]⟩
def srF (m : Bool) (c e q u : Int) : List Value := [vP m c e q, pO 1, pO 2, pO 3, .int .u64 u]
def srG (m : Bool) (c e q u n f : Int) : List Value := [vP m c e q, pO 1, pO 2, pO 3, .int .u64 u, .int .u64 n, .int .u64 f]
theorem sr_pre (m : Bool) (c e q : Int) : GoesT (evL (tabH Tryz.prog extY conSr hcSr) 200 [sP Tryz.f33 0, sP Tryz.f33 1, sP Tryz.f33 2] ([vP m c e q] ++ List.replicate 48 undef, hT0, []) ⟨[], [], []⟩) 5 44 none (srF m c e q 1) (srM m c e q (sLo q.toNat e (lgS q.toNat e - 17)) (sHi q.toNat e (lgS q.toNat e - 17)) (sAt q.toNat e (lgS q.toNat e - 17)) (sMo q.toNat e (lgS q.toNat e - 17)) (lgS q.toNat e - 17)) [(okF14 e q, true)] := ⟨by kernel_rfl, by kernel_rfl, by kernel_rfl⟩
theorem sr_1g (m : Bool) (c e q l h a t u : Int) (d : Bool) (g : Nat → Value) : GoesT (evC (tabH Tryz.prog extY conSr hcSr) 200 false (srL1 Tryz.f33) (srF m c e q u ++ tl 44 g, (srM m c e q l h a d t), [cmp true]) ⟨[], [], []⟩) 5 44 none (srF m c e q (IntKind.u64.wrap (u * 10))) (srM m c e q l h a d t) [(decide (u ≤ IntKind.u64.wrap (a.tdiv 10)), true)] := ⟨by kernel_rfl, by kernel_rfl, by kernel_rfl⟩
theorem sr_1x (m : Bool) (c e q l h a t u : Int) (d : Bool) (g : Nat → Value) : GoesT (evC (tabH Tryz.prog extY conSr hcSr) 200 false (srL1 Tryz.f33) (srF m c e q u ++ tl 44 g, (srM m c e q l h a d t), [cmp false]) ⟨[], [], []⟩) 5 44 (some (some 0)) (srF m c e q u) (srM m c e q l h a d t) [(decide (u ≤ IntKind.u64.wrap (a.tdiv 10)), false)] := ⟨by kernel_rfl, by kernel_rfl, by kernel_rfl⟩
def arN (d : Bool) (a u : Nat) : Nat := if d = true then (a / u + 1) * u else a / u * u
def arX (d : Bool) (a u : Nat) : Nat := if d = true then a / u * u else (a / u + 1) * u
def lAr (a u : Int) (d b : Bool) (l : Log) : Log := (nrU a.toNat d u.toNat, b) :: (okAr a.toNat u.toNat, true) :: (decide (0 ≤ a ∧ 0 ≤ u), true) :: l
theorem sr_mt (m : Bool) (c e q l h a t u : Int) (d : Bool) (g : Nat → Value) : GoesT (evC (tabH Tryz.prog extY conSr hcSr) 200 false (sP Tryz.f33 4) (srF m c e q u ++ tl 44 g, (srM m c e q l h a d t), [cmp true]) ⟨[], [], []⟩) 7 42 none (srG m c e q u ((arN true a.toNat u.toNat : Nat) : Int) ((arX true a.toNat u.toNat : Nat) : Int)) (srM m c e q l h a d t) (lAr a u d true []) := ⟨by kernel_rfl, by kernel_rfl, by kernel_rfl⟩
theorem sr_mf (m : Bool) (c e q l h a t u : Int) (d : Bool) (g : Nat → Value) : GoesT (evC (tabH Tryz.prog extY conSr hcSr) 200 false (sP Tryz.f33 4) (srF m c e q u ++ tl 44 g, (srM m c e q l h a d t), [cmp false]) ⟨[], [], []⟩) 7 42 none (srG m c e q u ((arN false a.toNat u.toNat : Nat) : Int) ((arX false a.toNat u.toNat : Nat) : Int)) (srM m c e q l h a d t) (lAr a u d false []) := ⟨by kernel_rfl, by kernel_rfl, by kernel_rfl⟩
theorem sr_2x1 (m : Bool) (c e q l h a t u n f : Int) (d : Bool) (g : Nat → Value) : GoesT (evC (tabH Tryz.prog extY conSr hcSr) 200 false (srL2 Tryz.f33) (srG m c e q u n f ++ tl 42 g, (srM m c e q l h a d t), [cmp true]) ⟨[], [], []⟩) 7 42 (some (some 2)) (srG m c e q u n f) (srM m c e q l h a d t) [(decide (l ≤ n) && decide (n ≤ h), true)] := ⟨by kernel_rfl, by kernel_rfl, by kernel_rfl⟩
theorem sr_2x2 (m : Bool) (c e q l h a t u n f : Int) (d : Bool) (g : Nat → Value) : GoesT (evC (tabH Tryz.prog extY conSr hcSr) 200 false (srL2 Tryz.f33) (srG m c e q u n f ++ tl 42 g, (srM m c e q l h a d t), [cmp false, cmp true]) ⟨[], [], []⟩) 7 42 (some (some 2)) (srG m c e q u n f) (srM m c e q l h a d t) [(decide (l ≤ f) && decide (f ≤ h), true), (decide (l ≤ n) && decide (n ≤ h), false)] := ⟨by kernel_rfl, by kernel_rfl, by kernel_rfl⟩
theorem sr_2gt (m : Bool) (c e q l h a t u n f : Int) (d : Bool) (g : Nat → Value) : GoesT (evC (tabH Tryz.prog extY conSr hcSr) 200 false (srL2 Tryz.f33) (srG m c e q u n f ++ tl 42 g, (srM m c e q l h a d t), [cmp false, cmp false, cmp true]) ⟨[], [], []⟩) 7 42 none (srG m c e q (IntKind.u64.wrap (u.tdiv 10)) ((arN true a.toNat (IntKind.u64.wrap (u.tdiv 10)).toNat : Nat) : Int) ((arX true a.toNat (IntKind.u64.wrap (u.tdiv 10)).toNat : Nat) : Int)) (srM m c e q l h a d t) (lAr a (IntKind.u64.wrap (u.tdiv 10)) d true [(decide (l ≤ f) && decide (f ≤ h), false), (decide (l ≤ n) && decide (n ≤ h), false)]) := ⟨by kernel_rfl, by kernel_rfl, by kernel_rfl⟩
theorem sr_2gf (m : Bool) (c e q l h a t u n f : Int) (d : Bool) (g : Nat → Value) : GoesT (evC (tabH Tryz.prog extY conSr hcSr) 200 false (srL2 Tryz.f33) (srG m c e q u n f ++ tl 42 g, (srM m c e q l h a d t), [cmp false, cmp false, cmp false]) ⟨[], [], []⟩) 7 42 none (srG m c e q (IntKind.u64.wrap (u.tdiv 10)) ((arN false a.toNat (IntKind.u64.wrap (u.tdiv 10)).toNat : Nat) : Int) ((arX false a.toNat (IntKind.u64.wrap (u.tdiv 10)).toNat : Nat) : Int)) (srM m c e q l h a d t) (lAr a (IntKind.u64.wrap (u.tdiv 10)) d false [(decide (l ≤ f) && decide (f ≤ h), false), (decide (l ≤ n) && decide (n ≤ h), false)]) := ⟨by kernel_rfl, by kernel_rfl, by kernel_rfl⟩
theorem sr_e1 (m : Bool) (c e q l h a t u n f : Int) (d : Bool) (g : Nat → Value) : GoesT (evC (tabH Tryz.prog extY conSr hcSr) 200 false (sK Tryz.f33 6) (srG m c e q u n f ++ tl 42 g, (srM m c e q l h a d t), [cmp true]) ⟨[], [], []⟩) 4 45 (some none) [vP m c e q, pO 1, pO 2, pO 3] ⟨4, [bSp l h a d t, ([bR (trR (dcL n.toNat)), .int .i64 (t + (((dcL n.toNat).length : Nat) : Int) - 1)], 42), bPa m c e q, (pwV, pwT)]⟩ [(decide (100 ≤ n ∧ n < 18446744073709551616 ∧ -100000 ≤ t ∧ t ≤ 100000), true), (decide (l ≤ n) && decide (n ≤ h), true)] := ⟨by kernel_rfl, by kernel_rfl, by kernel_rfl⟩
theorem sr_e2 (m : Bool) (c e q l h a t u n f : Int) (d : Bool) (g : Nat → Value) : GoesT (evC (tabH Tryz.prog extY conSr hcSr) 200 false (sK Tryz.f33 6) (srG m c e q u n f ++ tl 42 g, (srM m c e q l h a d t), [cmp false]) ⟨[], [], []⟩) 4 45 (some none) [vP m c e q, pO 1, pO 2, pO 3] ⟨4, [bSp l h a d t, ([bR (trR (dcL f.toNat)), .int .i64 (t + (((dcL f.toNat).length : Nat) : Int) - 1)], 42), bPa m c e q, (pwV, pwT)]⟩ [(decide (100 ≤ f ∧ f < 18446744073709551616 ∧ -100000 ≤ t ∧ t ≤ 100000), true), (decide (l ≤ n) && decide (n ≤ h), false)] := ⟨by kernel_rfl, by kernel_rfl, by kernel_rfl⟩
end Go.Proofs.YtgefjidphfdhdabGreatDoor
