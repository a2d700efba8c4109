/-
  PROVED HERE: for every input the law tillerlaw15.FixRound returns true, and each argument reads afterwards as it read before: the squares of the sine and the cosine are together 1, between their bounds. No condition.
-/
import Derived.Test.YtmgcnijpoklhkaaG15
import Derived.Test.YtmgcnijpoklhkaaRows
namespace Go.Proofs.Ytmgcnijpoklhkaa.fixRound
open Go.KRun Go.Pt Go.ChangeShapes Go.WideShapes Go.ChangeAt Go.RowKit Go.Wd Go.Nt
set_option linter.unusedVariables false
set_option maxRecDepth 100000
def bRo (x : W4) : List (List Value × TypeId) := [kFx (ch4 x), kFx (cl4 x), kFx (sh4 x), kFx (sl4 x), kX4 x]
theorem ro_in (x : W4) (AA CC Q BB DD R W0 : Nat) (k1 k2 : Int) : Fits (reckon (tabH Try.prog extY conF6 hcF2) 600 4 [vW x] [cmp false, cmp false, num AA, num CC, cmp true, num Q, num BB, num DD, cmp true, num R, cmp true, num W0, num k1, cmp true, num k2, cmp true]) (.bool true) [(decide (k2 ≤ 0), true), (decide (cmpZ (vO (hN5 (bRo x) [W0, 1, R, DD, (ch4 x).nat, (ch4 x).nat, BB, (sh4 x).nat, (sh4 x).nat, Q, CC, (cl4 x).nat, (cl4 x).nat, AA, (sl4 x).nat, (sl4 x).nat]) (aP16 20) ((d16 W0).length)) (vO (hN5 (bRo x) [W0, 1, R, DD, (ch4 x).nat, (ch4 x).nat, BB, (sh4 x).nat, (sh4 x).nat, Q, CC, (cl4 x).nat, (cl4 x).nat, AA, (sl4 x).nat, (sl4 x).nat]) (aP16 18) ((d16 R).length)) = k2), true), (two16 (hN5 (bRo x) [W0, 1, R, DD, (ch4 x).nat, (ch4 x).nat, BB, (sh4 x).nat, (sh4 x).nat, Q, CC, (cl4 x).nat, (cl4 x).nat, AA, (sl4 x).nat, (sl4 x).nat]) (aP16 20) (aP16 18) ((d16 W0).length) ((d16 W0).length) ((d16 R).length) ((d16 R).length), true), (decide (k1 ≤ 0), true), (decide (cmpZ (vO (hN5 (bRo x) [W0, 1, R, DD, (ch4 x).nat, (ch4 x).nat, BB, (sh4 x).nat, (sh4 x).nat, Q, CC, (cl4 x).nat, (cl4 x).nat, AA, (sl4 x).nat, (sl4 x).nat]) (aP16 11) ((d16 Q).length)) (vO (hN5 (bRo x) [W0, 1, R, DD, (ch4 x).nat, (ch4 x).nat, BB, (sh4 x).nat, (sh4 x).nat, Q, CC, (cl4 x).nat, (cl4 x).nat, AA, (sl4 x).nat, (sl4 x).nat]) (aP16 20) ((d16 W0).length)) = k1), true), (two16 (hN5 (bRo x) [W0, 1, R, DD, (ch4 x).nat, (ch4 x).nat, BB, (sh4 x).nat, (sh4 x).nat, Q, CC, (cl4 x).nat, (cl4 x).nat, AA, (sl4 x).nat, (sl4 x).nat]) (aP16 11) (aP16 20) ((d16 Q).length) ((d16 Q).length) ((d16 W0).length) ((d16 W0).length), true), (decide (vO (hN5 (bRo x) [1, R, DD, (ch4 x).nat, (ch4 x).nat, BB, (sh4 x).nat, (sh4 x).nat, Q, CC, (cl4 x).nat, (cl4 x).nat, AA, (sl4 x).nat, (sl4 x).nat]) (aP16 19) ((d16 1).length) * 2 ^ (496 : Int).toNat = W0), true), (okSh (hN5 (bRo x) [1, R, DD, (ch4 x).nat, (ch4 x).nat, BB, (sh4 x).nat, (sh4 x).nat, Q, CC, (cl4 x).nat, (cl4 x).nat, AA, (sl4 x).nat, (sl4 x).nat]) (aP16 19) ((d16 1).length) ((d16 1).length) 496, true), (decide (0 < (d16 1).length), true), (decide ((0 : Int) ≤ 1 ∧ (1 : Int) < 18446744073709551616), true), (decide (vO (hN5 (bRo x) [DD, (ch4 x).nat, (ch4 x).nat, BB, (sh4 x).nat, (sh4 x).nat, Q, CC, (cl4 x).nat, (cl4 x).nat, AA, (sl4 x).nat, (sl4 x).nat]) (aP16 14) ((d16 BB).length) + vO (hN5 (bRo x) [DD, (ch4 x).nat, (ch4 x).nat, BB, (sh4 x).nat, (sh4 x).nat, Q, CC, (cl4 x).nat, (cl4 x).nat, AA, (sl4 x).nat, (sl4 x).nat]) (aP16 17) ((d16 DD).length) = R), true), (two16 (hN5 (bRo x) [DD, (ch4 x).nat, (ch4 x).nat, BB, (sh4 x).nat, (sh4 x).nat, Q, CC, (cl4 x).nat, (cl4 x).nat, AA, (sl4 x).nat, (sl4 x).nat]) (aP16 14) (aP16 17) ((d16 BB).length) ((d16 BB).length) ((d16 DD).length) ((d16 DD).length), true), (decide (0 < (d16 BB).length ∨ 0 < (d16 DD).length), true), (decide (vO (hN5 (bRo x) [(ch4 x).nat, (ch4 x).nat, BB, (sh4 x).nat, (sh4 x).nat, Q, CC, (cl4 x).nat, (cl4 x).nat, AA, (sl4 x).nat, (sl4 x).nat]) (aP16 15) ((d16 (ch4 x).nat).length) * vO (hN5 (bRo x) [(ch4 x).nat, (ch4 x).nat, BB, (sh4 x).nat, (sh4 x).nat, Q, CC, (cl4 x).nat, (cl4 x).nat, AA, (sl4 x).nat, (sl4 x).nat]) (aP16 16) ((d16 (ch4 x).nat).length) = DD), true), (okMu (hN5 (bRo x) [(ch4 x).nat, (ch4 x).nat, BB, (sh4 x).nat, (sh4 x).nat, Q, CC, (cl4 x).nat, (cl4 x).nat, AA, (sl4 x).nat, (sl4 x).nat]) (aP16 15) (aP16 16) ((d16 (ch4 x).nat).length) ((d16 (ch4 x).nat).length) ((d16 (ch4 x).nat).length) ((d16 (ch4 x).nat).length), true), oW (ch4 x), oW (ch4 x), (decide (vO (hN5 (bRo x) [(sh4 x).nat, (sh4 x).nat, Q, CC, (cl4 x).nat, (cl4 x).nat, AA, (sl4 x).nat, (sl4 x).nat]) (aP16 12) ((d16 (sh4 x).nat).length) * vO (hN5 (bRo x) [(sh4 x).nat, (sh4 x).nat, Q, CC, (cl4 x).nat, (cl4 x).nat, AA, (sl4 x).nat, (sl4 x).nat]) (aP16 13) ((d16 (sh4 x).nat).length) = BB), true), (okMu (hN5 (bRo x) [(sh4 x).nat, (sh4 x).nat, Q, CC, (cl4 x).nat, (cl4 x).nat, AA, (sl4 x).nat, (sl4 x).nat]) (aP16 12) (aP16 13) ((d16 (sh4 x).nat).length) ((d16 (sh4 x).nat).length) ((d16 (sh4 x).nat).length) ((d16 (sh4 x).nat).length), true), oW (sh4 x), oW (sh4 x), (decide (vO (hN5 (bRo x) [CC, (cl4 x).nat, (cl4 x).nat, AA, (sl4 x).nat, (sl4 x).nat]) (aP16 7) ((d16 AA).length) + vO (hN5 (bRo x) [CC, (cl4 x).nat, (cl4 x).nat, AA, (sl4 x).nat, (sl4 x).nat]) (aP16 10) ((d16 CC).length) = Q), true), (two16 (hN5 (bRo x) [CC, (cl4 x).nat, (cl4 x).nat, AA, (sl4 x).nat, (sl4 x).nat]) (aP16 7) (aP16 10) ((d16 AA).length) ((d16 AA).length) ((d16 CC).length) ((d16 CC).length), true), (decide (0 < (d16 AA).length ∨ 0 < (d16 CC).length), true), (decide (vO (hN5 (bRo x) [(cl4 x).nat, (cl4 x).nat, AA, (sl4 x).nat, (sl4 x).nat]) (aP16 8) ((d16 (cl4 x).nat).length) * vO (hN5 (bRo x) [(cl4 x).nat, (cl4 x).nat, AA, (sl4 x).nat, (sl4 x).nat]) (aP16 9) ((d16 (cl4 x).nat).length) = CC), true), (okMu (hN5 (bRo x) [(cl4 x).nat, (cl4 x).nat, AA, (sl4 x).nat, (sl4 x).nat]) (aP16 8) (aP16 9) ((d16 (cl4 x).nat).length) ((d16 (cl4 x).nat).length) ((d16 (cl4 x).nat).length) ((d16 (cl4 x).nat).length), true), oW (cl4 x), oW (cl4 x), (decide (vO (hN5 (bRo x) [(sl4 x).nat, (sl4 x).nat]) (aP16 5) ((d16 (sl4 x).nat).length) * vO (hN5 (bRo x) [(sl4 x).nat, (sl4 x).nat]) (aP16 6) ((d16 (sl4 x).nat).length) = AA), true), (okMu (hN5 (bRo x) [(sl4 x).nat, (sl4 x).nat]) (aP16 5) (aP16 6) ((d16 (sl4 x).nat).length) ((d16 (sl4 x).nat).length) ((d16 (sl4 x).nat).length) ((d16 (sl4 x).nat).length), true), oW (sl4 x), oW (sl4 x), (decide (Go.Fx.uP < x.nat), false), oW x, (decide (Go.Fx.uP < x.nat), false), oW x] := ⟨by kernel_rfl, by kernel_rfl, by kernel_rfl, by kernel_rfl⟩
theorem ro_inK (x : W4) (AA CC Q BB DD R W0 : Nat) (k1 k2 : Int) (kk : Nat) (hk : kk = (496 : Int).toNat) : Fits (reckon (tabH Try.prog extY conF6 hcF2) 600 4 [vW x] [cmp false, cmp false, num AA, num CC, cmp true, num Q, num BB, num DD, cmp true, num R, cmp true, num W0, num k1, cmp true, num k2, cmp true]) (.bool true) [(decide (k2 ≤ 0), true), (decide (cmpZ (vO (hN5 (bRo x) [W0, 1, R, DD, (ch4 x).nat, (ch4 x).nat, BB, (sh4 x).nat, (sh4 x).nat, Q, CC, (cl4 x).nat, (cl4 x).nat, AA, (sl4 x).nat, (sl4 x).nat]) (aP16 20) ((d16 W0).length)) (vO (hN5 (bRo x) [W0, 1, R, DD, (ch4 x).nat, (ch4 x).nat, BB, (sh4 x).nat, (sh4 x).nat, Q, CC, (cl4 x).nat, (cl4 x).nat, AA, (sl4 x).nat, (sl4 x).nat]) (aP16 18) ((d16 R).length)) = k2), true), (two16 (hN5 (bRo x) [W0, 1, R, DD, (ch4 x).nat, (ch4 x).nat, BB, (sh4 x).nat, (sh4 x).nat, Q, CC, (cl4 x).nat, (cl4 x).nat, AA, (sl4 x).nat, (sl4 x).nat]) (aP16 20) (aP16 18) ((d16 W0).length) ((d16 W0).length) ((d16 R).length) ((d16 R).length), true), (decide (k1 ≤ 0), true), (decide (cmpZ (vO (hN5 (bRo x) [W0, 1, R, DD, (ch4 x).nat, (ch4 x).nat, BB, (sh4 x).nat, (sh4 x).nat, Q, CC, (cl4 x).nat, (cl4 x).nat, AA, (sl4 x).nat, (sl4 x).nat]) (aP16 11) ((d16 Q).length)) (vO (hN5 (bRo x) [W0, 1, R, DD, (ch4 x).nat, (ch4 x).nat, BB, (sh4 x).nat, (sh4 x).nat, Q, CC, (cl4 x).nat, (cl4 x).nat, AA, (sl4 x).nat, (sl4 x).nat]) (aP16 20) ((d16 W0).length)) = k1), true), (two16 (hN5 (bRo x) [W0, 1, R, DD, (ch4 x).nat, (ch4 x).nat, BB, (sh4 x).nat, (sh4 x).nat, Q, CC, (cl4 x).nat, (cl4 x).nat, AA, (sl4 x).nat, (sl4 x).nat]) (aP16 11) (aP16 20) ((d16 Q).length) ((d16 Q).length) ((d16 W0).length) ((d16 W0).length), true), (decide (vO (hN5 (bRo x) [1, R, DD, (ch4 x).nat, (ch4 x).nat, BB, (sh4 x).nat, (sh4 x).nat, Q, CC, (cl4 x).nat, (cl4 x).nat, AA, (sl4 x).nat, (sl4 x).nat]) (aP16 19) ((d16 1).length) * 2 ^ kk = W0), true), (okSh (hN5 (bRo x) [1, R, DD, (ch4 x).nat, (ch4 x).nat, BB, (sh4 x).nat, (sh4 x).nat, Q, CC, (cl4 x).nat, (cl4 x).nat, AA, (sl4 x).nat, (sl4 x).nat]) (aP16 19) ((d16 1).length) ((d16 1).length) 496, true), (decide (0 < (d16 1).length), true), (decide ((0 : Int) ≤ 1 ∧ (1 : Int) < 18446744073709551616), true), (decide (vO (hN5 (bRo x) [DD, (ch4 x).nat, (ch4 x).nat, BB, (sh4 x).nat, (sh4 x).nat, Q, CC, (cl4 x).nat, (cl4 x).nat, AA, (sl4 x).nat, (sl4 x).nat]) (aP16 14) ((d16 BB).length) + vO (hN5 (bRo x) [DD, (ch4 x).nat, (ch4 x).nat, BB, (sh4 x).nat, (sh4 x).nat, Q, CC, (cl4 x).nat, (cl4 x).nat, AA, (sl4 x).nat, (sl4 x).nat]) (aP16 17) ((d16 DD).length) = R), true), (two16 (hN5 (bRo x) [DD, (ch4 x).nat, (ch4 x).nat, BB, (sh4 x).nat, (sh4 x).nat, Q, CC, (cl4 x).nat, (cl4 x).nat, AA, (sl4 x).nat, (sl4 x).nat]) (aP16 14) (aP16 17) ((d16 BB).length) ((d16 BB).length) ((d16 DD).length) ((d16 DD).length), true), (decide (0 < (d16 BB).length ∨ 0 < (d16 DD).length), true), (decide (vO (hN5 (bRo x) [(ch4 x).nat, (ch4 x).nat, BB, (sh4 x).nat, (sh4 x).nat, Q, CC, (cl4 x).nat, (cl4 x).nat, AA, (sl4 x).nat, (sl4 x).nat]) (aP16 15) ((d16 (ch4 x).nat).length) * vO (hN5 (bRo x) [(ch4 x).nat, (ch4 x).nat, BB, (sh4 x).nat, (sh4 x).nat, Q, CC, (cl4 x).nat, (cl4 x).nat, AA, (sl4 x).nat, (sl4 x).nat]) (aP16 16) ((d16 (ch4 x).nat).length) = DD), true), (okMu (hN5 (bRo x) [(ch4 x).nat, (ch4 x).nat, BB, (sh4 x).nat, (sh4 x).nat, Q, CC, (cl4 x).nat, (cl4 x).nat, AA, (sl4 x).nat, (sl4 x).nat]) (aP16 15) (aP16 16) ((d16 (ch4 x).nat).length) ((d16 (ch4 x).nat).length) ((d16 (ch4 x).nat).length) ((d16 (ch4 x).nat).length), true), oW (ch4 x), oW (ch4 x), (decide (vO (hN5 (bRo x) [(sh4 x).nat, (sh4 x).nat, Q, CC, (cl4 x).nat, (cl4 x).nat, AA, (sl4 x).nat, (sl4 x).nat]) (aP16 12) ((d16 (sh4 x).nat).length) * vO (hN5 (bRo x) [(sh4 x).nat, (sh4 x).nat, Q, CC, (cl4 x).nat, (cl4 x).nat, AA, (sl4 x).nat, (sl4 x).nat]) (aP16 13) ((d16 (sh4 x).nat).length) = BB), true), (okMu (hN5 (bRo x) [(sh4 x).nat, (sh4 x).nat, Q, CC, (cl4 x).nat, (cl4 x).nat, AA, (sl4 x).nat, (sl4 x).nat]) (aP16 12) (aP16 13) ((d16 (sh4 x).nat).length) ((d16 (sh4 x).nat).length) ((d16 (sh4 x).nat).length) ((d16 (sh4 x).nat).length), true), oW (sh4 x), oW (sh4 x), (decide (vO (hN5 (bRo x) [CC, (cl4 x).nat, (cl4 x).nat, AA, (sl4 x).nat, (sl4 x).nat]) (aP16 7) ((d16 AA).length) + vO (hN5 (bRo x) [CC, (cl4 x).nat, (cl4 x).nat, AA, (sl4 x).nat, (sl4 x).nat]) (aP16 10) ((d16 CC).length) = Q), true), (two16 (hN5 (bRo x) [CC, (cl4 x).nat, (cl4 x).nat, AA, (sl4 x).nat, (sl4 x).nat]) (aP16 7) (aP16 10) ((d16 AA).length) ((d16 AA).length) ((d16 CC).length) ((d16 CC).length), true), (decide (0 < (d16 AA).length ∨ 0 < (d16 CC).length), true), (decide (vO (hN5 (bRo x) [(cl4 x).nat, (cl4 x).nat, AA, (sl4 x).nat, (sl4 x).nat]) (aP16 8) ((d16 (cl4 x).nat).length) * vO (hN5 (bRo x) [(cl4 x).nat, (cl4 x).nat, AA, (sl4 x).nat, (sl4 x).nat]) (aP16 9) ((d16 (cl4 x).nat).length) = CC), true), (okMu (hN5 (bRo x) [(cl4 x).nat, (cl4 x).nat, AA, (sl4 x).nat, (sl4 x).nat]) (aP16 8) (aP16 9) ((d16 (cl4 x).nat).length) ((d16 (cl4 x).nat).length) ((d16 (cl4 x).nat).length) ((d16 (cl4 x).nat).length), true), oW (cl4 x), oW (cl4 x), (decide (vO (hN5 (bRo x) [(sl4 x).nat, (sl4 x).nat]) (aP16 5) ((d16 (sl4 x).nat).length) * vO (hN5 (bRo x) [(sl4 x).nat, (sl4 x).nat]) (aP16 6) ((d16 (sl4 x).nat).length) = AA), true), (okMu (hN5 (bRo x) [(sl4 x).nat, (sl4 x).nat]) (aP16 5) (aP16 6) ((d16 (sl4 x).nat).length) ((d16 (sl4 x).nat).length) ((d16 (sl4 x).nat).length) ((d16 (sl4 x).nat).length), true), oW (sl4 x), oW (sl4 x), (decide (Go.Fx.uP < x.nat), false), oW x, (decide (Go.Fx.uP < x.nat), false), oW x] := by
  subst hk
  exact ro_in x AA CC Q BB DD R W0 k1 k2
theorem ro_big (x : W4) : Fits (reckon (tabH Try.prog extY conF6 hcF2) 600 4 [vW x] [cmp true, cmp true, cmp true]) (.bool true) [cg1 x true, q2 x oneW, (decide (Go.Fx.uP < x.nat), true), oW x, (decide (Go.Fx.uP < x.nat), true), oW x] := ⟨by kernel_rfl, by kernel_rfl, by kernel_rfl, by kernel_rfl⟩
theorem walk (x : W4) (hx : x.ok) (w : World) : Calls Try.prog 4 #[vW x] w fun e w' => e = .returned (.bool true) ∧ Tidy w w' := by
  have hv : ([vW x].all (lt 0)) = true := rfl
  have T := tabH_ok conF6_ok hcF2_ok
  by_cases hb : Go.Fx.uP < x.nat
  · have h1 := decide_eq_true hb
    have h2 : (cg1 x true).1 = (cg1 x true).2 := decide_eq_true ((cg1_iff hx).2 hb)
    have h3 : (q2 x oneW).1 = (q2 x oneW).2 := decide_eq_true ⟨hx, oneW_ok⟩
    have h4 : (oW x).1 = (oW x).2 := decide_eq_true hx
    exact fits_calls T (ro_big x) (okPC h2 (okPC h3 (okPC h1 (okPC h4 (okPC h1 (okP1 h4)))))) hv (by rfl) w
  have hx1 := decide_eq_false hb
  have hle : x.nat ≤ Go.Fx.uP := by omega
  have n := bds_nat hle
  have g := Go.Fx.round_bd hle
  have cp := cos_pos hle
  obtain ⟨AA, hAA⟩ : ∃ P, (sl4 x).nat * (sl4 x).nat = P := ⟨_, rfl⟩
  obtain ⟨CC, hCC⟩ : ∃ P, (cl4 x).nat * (cl4 x).nat = P := ⟨_, rfl⟩
  obtain ⟨BB, hBB⟩ : ∃ P, (sh4 x).nat * (sh4 x).nat = P := ⟨_, rfl⟩
  obtain ⟨DD, hDD⟩ : ∃ P, (ch4 x).nat * (ch4 x).nat = P := ⟨_, rfl⟩
  obtain ⟨Q, hQ⟩ : ∃ P, AA + CC = P := ⟨_, rfl⟩
  obtain ⟨R, hR⟩ : ∃ P, BB + DD = P := ⟨_, rfl⟩
  obtain ⟨kk, hkk⟩ : ∃ k, k = (496 : Int).toNat := ⟨_, rfl⟩
  obtain ⟨W0, hW⟩ : ∃ P, 1 * 2 ^ kk = P := ⟨_, rfl⟩
  have eW : W0 = Go.Fx.uP * Go.Fx.uP := by rw [← hW]; exact pow496 hkk
  obtain ⟨k1, hk1⟩ : ∃ k, cmpZ Q W0 = k := ⟨_, rfl⟩
  obtain ⟨k2, hk2⟩ : ∃ k, cmpZ W0 R = k := ⟨_, rfl⟩
  obtain ⟨n1, n2, n3, n4, m1, m2, m3, m4⟩ := n
  have a1 : Q ≤ W0 := by rw [← hQ, ← hAA, ← hCC, eW, n1, n3]; exact g.1
  have a2 : W0 ≤ R := by rw [← hR, ← hBB, ← hDD, eW, n2, n4]; exact g.2
  have hk1n : decide (k1 ≤ 0) = true := by rw [← hk1]; exact decide_eq_true (cmpZ_le a1)
  have hk2n : decide (k2 ≤ 0) = true := by rw [← hk2]; exact decide_eq_true (cmpZ_le a2)
  have lA : (d16 (sl4 x).nat).length < 100000 := sh33 (by rw [n1]; exact big33 m1)
  have lB : (d16 (sh4 x).nat).length < 100000 := sh33 (by rw [n2]; exact big33 m2)
  have lC : (d16 (cl4 x).nat).length < 100000 := sh33 (by rw [n3]; exact big33 m3)
  have lD : (d16 (ch4 x).nat).length < 100000 := sh33 (by rw [n4]; exact big33 m4)
  have bAA : AA < 115792089237316195423570985008687907853269984665640564039457584007913129639936 * 115792089237316195423570985008687907853269984665640564039457584007913129639936 := by rw [← hAA, n1]; exact Nat.mul_lt_mul'' m1 m1
  have bBB : BB < 115792089237316195423570985008687907853269984665640564039457584007913129639936 * 115792089237316195423570985008687907853269984665640564039457584007913129639936 := by rw [← hBB, n2]; exact Nat.mul_lt_mul'' m2 m2
  have bCC : CC < 115792089237316195423570985008687907853269984665640564039457584007913129639936 * 115792089237316195423570985008687907853269984665640564039457584007913129639936 := by rw [← hCC, n3]; exact Nat.mul_lt_mul'' m3 m3
  have bDD : DD < 115792089237316195423570985008687907853269984665640564039457584007913129639936 * 115792089237316195423570985008687907853269984665640564039457584007913129639936 := by rw [← hDD, n4]; exact Nat.mul_lt_mul'' m4 m4
  have pC : 1 ≤ CC := by rw [← hCC, n3]; exact Nat.mul_pos cp.1 cp.1
  have pD : 1 ≤ DD := by rw [← hDD, n4]; exact Nat.mul_pos cp.2 cp.2
  have lAA := sh33 (V := AA) (by omega)
  have lBB := sh33 (V := BB) (by omega)
  have lCC := sh33 (V := CC) (by omega)
  have lDD := sh33 (V := DD) (by omega)
  have lQ := sh33 (V := Q) (by omega)
  have lR := sh33 (V := R) (by omega)
  have lW0 := sh33 (V := W0) (by omega)
  have l1 := sh33 (V := 1) (by omega)
  have dQ : decide (0 < (d16 AA).length ∨ 0 < (d16 CC).length) = true := decide_eq_true (.inr (len_pos16 pC))
  have dR : decide (0 < (d16 BB).length ∨ 0 < (d16 DD).length) = true := decide_eq_true (.inr (len_pos16 pD))
  have d1 : decide (0 < (d16 1).length) = true := decide_eq_true (len_pos16 (Nat.le_refl _))
  exact fits_calls T (ro_inK x AA CC Q BB DD R W0 k1 k2 kk hkk) (okPC hk2n (okPC ((bN5 (V := W0) rfl lW0).cmp (bN5 (V := R) rfl lR) hk2) (okPC ((bN5 (V := W0) rfl lW0).two (bN5 (V := R) rfl lR)) (okPC hk1n (okPC ((bN5 (V := Q) rfl lQ).cmp (bN5 (V := W0) rfl lW0) hk1) (okPC ((bN5 (V := Q) rfl lQ).two (bN5 (V := W0) rfl lW0)) (okPC ((bN5 (V := 1) rfl l1).shlV (k := kk) hW) (okPC ((bN5 (V := 1) rfl l1).shl (k := 496) ⟨by decide, by decide⟩) (okPC d1 (okPC (by decide) (okPC ((bN5 (V := BB) rfl lBB).addV (bN5 (V := DD) rfl lDD) hR) (okPC ((bN5 (V := BB) rfl lBB).two (bN5 (V := DD) rfl lDD)) (okPC dR (okPC ((bN5 (V := (ch4 x).nat) rfl lD).mulV (bN5 (V := (ch4 x).nat) rfl lD) hDD) (okPC ((bN5 (V := (ch4 x).nat) rfl lD).mu (bN5 (V := (ch4 x).nat) rfl lD)) (okPC (oW4 x).2.2 (okPC (oW4 x).2.2 (okPC ((bN5 (V := (sh4 x).nat) rfl lB).mulV (bN5 (V := (sh4 x).nat) rfl lB) hBB) (okPC ((bN5 (V := (sh4 x).nat) rfl lB).mu (bN5 (V := (sh4 x).nat) rfl lB)) (okPC (oW4 x).1.2 (okPC (oW4 x).1.2 (okPC ((bN5 (V := AA) rfl lAA).addV (bN5 (V := CC) rfl lCC) hQ) (okPC ((bN5 (V := AA) rfl lAA).two (bN5 (V := CC) rfl lCC)) (okPC dQ (okPC ((bN5 (V := (cl4 x).nat) rfl lC).mulV (bN5 (V := (cl4 x).nat) rfl lC) hCC) (okPC ((bN5 (V := (cl4 x).nat) rfl lC).mu (bN5 (V := (cl4 x).nat) rfl lC)) (okPC (oW4 x).2.1 (okPC (oW4 x).2.1 (okPC ((bN5 (V := (sl4 x).nat) rfl lA).mulV (bN5 (V := (sl4 x).nat) rfl lA) hAA) (okPC ((bN5 (V := (sl4 x).nat) rfl lA).mu (bN5 (V := (sl4 x).nat) rfl lA)) (okPC (oW4 x).1.1 (okPC (oW4 x).1.1 (okPC hx1 (okPC (decide_eq_true hx) (okPC hx1 (okP1 (decide_eq_true hx))))))))))))))))))))))))))))))))))))) hv (by rfl) w
theorem cells0 {l : List Value} (h : okC [some .u64, some .u64, some .u64, some .u64] l) : ∃ aa ab ac ad, l = [.int .u64 aa, .int .u64 ab, .int .u64 ac, .int .u64 ad] ∧ (Lit.int .u64 aa).wf = true ∧ (Lit.int .u64 ab).wf = true ∧ (Lit.int .u64 ac).wf = true ∧ (Lit.int .u64 ad).wf = true := by
  have hl := okC_length h
  obtain ⟨v0, v1, v2, v3, rfl⟩ : ∃ v0 v1 v2 v3, l = [v0, v1, v2, v3] := by
    match l, hl with
    | [v0, v1, v2, v3], _ => exact ⟨v0, v1, v2, v3, rfl⟩
  obtain ⟨⟨aa, rfl, kaa⟩, ⟨ab, rfl, kab⟩, ⟨ac, rfl, kac⟩, ⟨ad, rfl, kad⟩, _⟩ := h
  exact ⟨aa, ab, ac, ad, rfl, kaa, kab, kac, kad⟩
theorem own : ownKnob Try.prog.godebug = none := by kernel_rfl
set_option maxRecDepth 100000 in
theorem lifted (os : Os) (started : os.Started) (H : Type) (enc : TypeId × Value → H) :
    ReturnsInHanded {} Try.checked os 4 .any (Rows.fixRoundSpec.pre6 enc Try.prog Try.f4 Rows.fixRoundRow.domain false) (Rows.fixRoundSpec.post enc Try.prog Try.f4 false true false false) := by
  refine returnsInHanded_of_change (C := Try.checked) own started (by kernel_rfl) Try.func4
    (ChangeSpec.witness6 (enc := enc) (C := Try.checked) false ⟨#[], #[.agg #[.int .u64 0, .int .u64 0, .int .u64 0, .int .u64 0]], []⟩ 8 (by kernel_rfl) (by kernel_rfl) (by kernel_rfl) (by kernel_rfl)) ?_
  intro W base args ds gs before hval0 hW hcnd _
  have hval : ∀ (j : Nat) t v, Try.f4.params[j]? = some t → args[j]? = some v → Value.okWide Try.prog W .any base t v := hval0
  have hW' := hW
  obtain ⟨p, q, hA0, hV, rfl, hfz, hnd⟩ := hW
  have hA : DataW.TrodAll enc Try.prog W 0 (fun _ => true) true Try.f4.params.toList args.toList ds p := hA0
  rw [Try.params4] at hA hval
  obtain ⟨v0, d0, rfl, rfl, h0⟩ := trodAll_one hA
  obtain ⟨rfl, rfl⟩ := trodVars_none hV
  obtain ⟨c0, rfl, r0⟩ := flat_open (L := [some .u64, some .u64, some .u64, some .u64]) (by kernel_rfl) h0
  obtain ⟨cs0, rfl⟩ := agg_array Try.underlying23 (hval 0 23 v0 rfl rfl)
  obtain ⟨aa, ab, ac, ad, hcs0, kaa, kab, kac, kad⟩ := cells0 c0
  have hcs0' : cs0 = #[.int .u64 aa, .int .u64 ab, .int .u64 ac, .int .u64 ad] := by
    have := congrArg List.toArray hcs0
    simpa [Value.cells] using this
  subst hcs0'
  clear hA0 hval0
  simp only [List.append_nil] at hW'
  refine (walk ⟨aa, ab, ac, ad⟩ ⟨u64_bounds kaa, u64_bounds kab, u64_bounds kac, u64_bounds kad⟩ W).mono fun e W' ⟨he, hg⟩ => ?_
  subst he
  exact ⟨_, rfl, post_of_same (pa := []) (pv := []) hW' (fun _ _ _ => trodAll_mk1 (shut_bool Try.underlying4 _))
    (fun sp _ => trodAll_mk1 (r0 _ _ _ _)) (fun _ _ => rfl) rfl
    (hg.1.frame _) (tidy_frozen hg) (ok_one (by kernel_rfl) rfl (okWide_bool_mk Try.underlying4 _))⟩
theorem proved : Rows.FixRoundSaid :=
  OpenClaim.holds_of_wide 4 Try.f4 rfl rfl rfl rfl rfl rfl rfl ⟨rfl, rfl, rfl, rfl, rfl⟩ rfl rfl rfl rfl rfl (by kernel_rfl) Try.func4 (by kernel_rfl)
    (of_decide_eq_true (by kernel_rfl)) (by unfold Func.isWrapper; first | (rw [if_pos (by decide +kernel)]; kernel_rfl) | (rw [if_neg (by decide +kernel)]; exact ⟨rfl, rfl⟩))
    (fun os started H enc _ => lifted os started H enc)
end Go.Proofs.Ytmgcnijpoklhkaa.fixRound
