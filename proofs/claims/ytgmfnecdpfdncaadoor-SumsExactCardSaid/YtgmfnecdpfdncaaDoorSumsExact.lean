/-
  PROVED HERE: the tied card of tillerlaw05.SumsExact: for every input the law returns true, and each argument reads afterwards as it read before: what is rounded as the exact sum of any two numbers is, by every mode; or the error. Its condition: the variable errors.errorType holds what the program's own text lays there (tied, by the given text).
-/
import Derived.Test.YtgmfnecdpfdncaaDoorG29
import Derived.Test.YtgmfnecdpfdncaaDoorG30
import Derived.Test.YtgmfnecdpfdncaaDoorRows
import Derived.Test.YtgmfnecdpfdncaaDoorCards
import Derived.Test.YtgmfnecdpfdncaaDoorTie
import Derived.ChangeSame
import Derived.ChangeVars
import Derived.JoinedOf
import Derived.RowKit
import Derived.RowKitTokens
import Derived.LaidLaws
import Derived.LaidHandle
import Derived.Stop.Joined
import Derived.SevenTiedAt
namespace Go.Proofs.YtgmfnecdpfdncaaDoor.sumsExact
open Go.KRun Go.Pt Go.ChangeShapes Go.WideShapes Go.ChangeAt Go.RowKit Go.Wd Go.Rn Go.Nt
set_option linter.unusedVariables false

set_option maxRecDepth 100000
def lZ0 : Bool × Bool := (false == false && ((0 : Int) == 0 && (((0 : Int) == 0 && ((0 : Int) == 0 && ((0 : Int) == 0 && ((0 : Int) == 0 && true)))) && (false == false && true))), true)
def lN0 : Bool × Bool := (Nat.beq 50 50 && Nat.beq kT kT && kOk kV, true)
def l11 : Bool × Bool := ((1 : Int) == 1, true)
theorem xe1 (nx ny b b2 : Bool) (X Y : W4) (Ex Ey m : Int) : Fits (reckonAt (tabH Tryd.prog extY conE0 hcE) hK 300 3 [vN nx Ex X b, vN ny Ey Y b2, .int .i64 m] [cmp false, cmp false, cmp true, sam true]) (.bool true) [lZ0, l11, lN0, (X.c == 0, false), (mayB Ex X b, false), (decide X.ok, true)] := ⟨by kernel_rfl, by kernel_rfl, by kernel_rfl, by kernel_rfl⟩
theorem xe2 (nx ny b b2 : Bool) (X Y : W4) (Ex Ey m : Int) : Fits (reckonAt (tabH Tryd.prog extY conE0 hcE) hK 300 3 [vN nx Ex X b, vN ny Ey Y b2, .int .i64 m] [cmp false, cmp true, cmp false, cmp true, sam true]) (.bool true) [lZ0, l11, lN0, (X.d == 0, false), (X.c == 0, true), (mayB Ex X b, false), (decide X.ok, true)] := ⟨by kernel_rfl, by kernel_rfl, by kernel_rfl, by kernel_rfl⟩
theorem xe3 (nx ny b2 : Bool) (X Y : W4) (Ex Ey m : Int) : Fits (reckonAt (tabH Tryd.prog extY conE0 hcE) hK 300 3 [vN nx Ex X true, vN ny Ey Y b2, .int .i64 m] [cmp false, cmp true, cmp true, cmp true, sam true]) (.bool true) [lZ0, l11, lN0, (X.d == 0, true), (X.c == 0, true), (mayB Ex X true, false), (decide X.ok, true)] := ⟨by kernel_rfl, by kernel_rfl, by kernel_rfl, by kernel_rfl⟩
theorem xe4 (nx ny b2 : Bool) (X Y : W4) (Ex Ey m : Int) : Fits (reckonAt (tabH Tryd.prog extY conE0 hcE) hK 300 3 [vN nx Ex X false, vN ny Ey Y b2, .int .i64 m] [cmp false, cmp true, cmp true, cmp false, cmp true, sam true]) (.bool true) [lZ0, l11, lN0, (decide (Ex ≥ -100000), false), (X.d == 0, true), (X.c == 0, true), (mayB Ex X false, false), (decide X.ok, true)] := ⟨by kernel_rfl, by kernel_rfl, by kernel_rfl, by kernel_rfl⟩
theorem xe5 (nx ny b2 : Bool) (X Y : W4) (Ex Ey m : Int) : Fits (reckonAt (tabH Tryd.prog extY conE0 hcE) hK 300 3 [vN nx Ex X false, vN ny Ey Y b2, .int .i64 m] [cmp false, cmp true, cmp true, cmp true, cmp false, cmp true, sam true]) (.bool true) [lZ0, l11, lN0, (decide (Ex ≤ 100000), false), (decide (Ex ≥ -100000), true), (X.d == 0, true), (X.c == 0, true), (mayB Ex X false, false), (decide X.ok, true)] := ⟨by kernel_rfl, by kernel_rfl, by kernel_rfl, by kernel_rfl⟩
theorem ye1 (nx ny b2 : Bool) (X Y : W4) (Ex Ey m : Int) : Fits (reckonAt (tabH Tryd.prog extY conE0 hcE) hK 300 3 [vN nx Ex X false, vN ny Ey Y b2, .int .i64 m] [cmp true, cmp false, cmp true, cmp true, cmp true, cmp true, cmp false, cmp true, sam true]) (.bool true) [lZ0, l11, lN0, (Y.c == 0, false), (decide (Ex ≤ 100000), true), (decide (Ex ≥ -100000), true), (X.d == 0, true), (X.c == 0, true), (mayB Ey Y b2, false), (decide Y.ok, true), (mayB Ex X false, true), (decide X.ok, true)] := ⟨by kernel_rfl, by kernel_rfl, by kernel_rfl, by kernel_rfl⟩
theorem ye2 (nx ny b2 : Bool) (X Y : W4) (Ex Ey m : Int) : Fits (reckonAt (tabH Tryd.prog extY conE0 hcE) hK 300 3 [vN nx Ex X false, vN ny Ey Y b2, .int .i64 m] [cmp true, cmp false, cmp true, cmp true, cmp true, cmp true, cmp true, cmp false, cmp true, sam true]) (.bool true) [lZ0, l11, lN0, (Y.d == 0, false), (Y.c == 0, true), (decide (Ex ≤ 100000), true), (decide (Ex ≥ -100000), true), (X.d == 0, true), (X.c == 0, true), (mayB Ey Y b2, false), (decide Y.ok, true), (mayB Ex X false, true), (decide X.ok, true)] := ⟨by kernel_rfl, by kernel_rfl, by kernel_rfl, by kernel_rfl⟩
theorem ye3 (nx ny : Bool) (X Y : W4) (Ex Ey m : Int) : Fits (reckonAt (tabH Tryd.prog extY conE0 hcE) hK 300 3 [vN nx Ex X false, vN ny Ey Y true, .int .i64 m] [cmp true, cmp false, cmp true, cmp true, cmp true, cmp true, cmp true, cmp true, cmp true, sam true]) (.bool true) [lZ0, l11, lN0, (Y.d == 0, true), (Y.c == 0, true), (decide (Ex ≤ 100000), true), (decide (Ex ≥ -100000), true), (X.d == 0, true), (X.c == 0, true), (mayB Ey Y true, false), (decide Y.ok, true), (mayB Ex X false, true), (decide X.ok, true)] := ⟨by kernel_rfl, by kernel_rfl, by kernel_rfl, by kernel_rfl⟩
theorem ye4 (nx ny : Bool) (X Y : W4) (Ex Ey m : Int) : Fits (reckonAt (tabH Tryd.prog extY conE0 hcE) hK 300 3 [vN nx Ex X false, vN ny Ey Y false, .int .i64 m] [cmp true, cmp false, cmp true, cmp true, cmp true, cmp true, cmp true, cmp true, cmp false, cmp true, sam true]) (.bool true) [lZ0, l11, lN0, (decide (Ey ≥ -100000), false), (Y.d == 0, true), (Y.c == 0, true), (decide (Ex ≤ 100000), true), (decide (Ex ≥ -100000), true), (X.d == 0, true), (X.c == 0, true), (mayB Ey Y false, false), (decide Y.ok, true), (mayB Ex X false, true), (decide X.ok, true)] := ⟨by kernel_rfl, by kernel_rfl, by kernel_rfl, by kernel_rfl⟩
theorem ye5 (nx ny : Bool) (X Y : W4) (Ex Ey m : Int) : Fits (reckonAt (tabH Tryd.prog extY conE0 hcE) hK 300 3 [vN nx Ex X false, vN ny Ey Y false, .int .i64 m] [cmp true, cmp false, cmp true, cmp true, cmp true, cmp true, cmp true, cmp true, cmp true, cmp false, cmp true, sam true]) (.bool true) [lZ0, l11, lN0, (decide (Ey ≤ 100000), false), (decide (Ey ≥ -100000), true), (Y.d == 0, true), (Y.c == 0, true), (decide (Ex ≤ 100000), true), (decide (Ex ≥ -100000), true), (X.d == 0, true), (X.c == 0, true), (mayB Ey Y false, false), (decide Y.ok, true), (mayB Ex X false, true), (decide X.ok, true)] := ⟨by kernel_rfl, by kernel_rfl, by kernel_rfl, by kernel_rfl⟩
theorem xf1 (nx ny : Bool) (X Y : W4) (Ex Ey m : Int) : Fits (reckonAt (tabH Tryd.prog extY conE1 hcE) hK 300 3 [vN nx Ex X false, vN ny Ey Y false, .int .i64 m] [cmp true, cmp true, cmp true, cmp true, cmp true, cmp true, cmp true, cmp true, cmp true]) (.bool true) [(decide (IntKind.i64.wrap (Ex - Ey) > 8000), true), (decide (Ey ≤ 100000), true), (decide (Ey ≥ -100000), true), (Y.d == 0, true), (Y.c == 0, true), (decide (Ex ≤ 100000), true), (decide (Ex ≥ -100000), true), (X.d == 0, true), (X.c == 0, true), (okEx Ex X false Ey Y false, true)] := ⟨by kernel_rfl, by kernel_rfl, by kernel_rfl, by kernel_rfl⟩
theorem xf2 (nx ny : Bool) (X Y : W4) (Ex Ey m : Int) : Fits (reckonAt (tabH Tryd.prog extY conE1 hcE) hK 300 3 [vN nx Ex X false, vN ny Ey Y false, .int .i64 m] [cmp true, cmp true, cmp true, cmp true, cmp true, cmp true, cmp true, cmp true, cmp false, cmp true]) (.bool true) [(decide (IntKind.i64.wrap (Ey - Ex) > 8000), true), (decide (IntKind.i64.wrap (Ex - Ey) > 8000), false), (decide (Ey ≤ 100000), true), (decide (Ey ≥ -100000), true), (Y.d == 0, true), (Y.c == 0, true), (decide (Ex ≤ 100000), true), (decide (Ex ≥ -100000), true), (X.d == 0, true), (X.c == 0, true), (okEx Ex X false Ey Y false, true)] := ⟨by kernel_rfl, by kernel_rfl, by kernel_rfl, by kernel_rfl⟩

theorem refT_f (X : W4) : refT X false = X.nat := rfl
theorem refE_f {E : Int} (h : -100000 ≤ E ∧ E ≤ 100000) : refE E false = E := by
  show cl5 E = E
  unfold cl5
  split <;> split <;> omega
theorem sv5_eq {h : Hp} {nx ny : Bool} {Ex Ey : Int} {X Y : W4} {b b' : Nat} (hx : h.blk? b = some (rw5 X)) (hy : h.blk? b' = some (rw5 Y)) (eX : -100000 ≤ Ex ∧ Ex ≤ 100000) (eY : -100000 ≤ Ey ∧ Ey ≤ 100000) : sv5 h nx Ex X ny Ey Y b b' = smI (lowS Ex Ey (ln5 X) (ln5 Y)) nx Ex X.nat ny Ey Y.nat := by
  unfold sv5 smH smS ln5
  rw [vO_ad hx, vO_ad hy, refE_f eX, refE_f eY]
  rfl
theorem ln5_le {X : W4} (h : X.nat < 2 ^ 128) : ln5 X ≤ 8 := by
  unfold ln5
  refine d16_len (k := 8) ?_
  exact h
theorem ok5_of {h : Hp} {Ex Ey : Int} {X Y : W4} {b b' : Nat} (hx : h.blk? b = some (rw5 X)) (hy : h.blk? b' = some (rw5 Y)) (eX : -100000 ≤ Ex ∧ Ex ≤ 100000) (eY : -100000 ≤ Ey ∧ Ey ≤ 100000) (lX : X.nat < 2 ^ 128) (lY : Y.nat < 2 ^ 128) : okSm h (ad b 0) (ad b' 0) (ln5 X) (ln5 X) (ln5 Y) (ln5 Y) (refE Ex false) (refE Ey false) = true := by
  have l1 := ln5_le lX
  have l2 := ln5_le lY
  unfold okSm ad
  unfold ln5 at *
  rw [rowP_d16 hx (by omega), rowOf_d16 hx, rowP_d16 hy (by omega), rowOf_d16 hy, show canB (d16 (refT X false)) = true from canB_mk (can_db (by omega) _), show canB (d16 (refT Y false)) = true from canB_mk (can_db (by omega) _), blt_iff.2 (by omega), blt_iff.2 (by omega), refE_f eX, refE_f eY, decide_eq_true ⟨⟨by omega, by omega⟩, by omega, by omega⟩]
  rfl
theorem cm5_ok (V : Nat) : (cm5 V).1 = (cm5 V).2 := List.all_eq_true.2 fun v hv => by
  unfold wU at hv
  obtain ⟨x, _, rfl⟩ := List.mem_map.1 hv
  rfl
theorem ck5_ok : ck5.1 = ck5.2 := by kernel_rfl
theorem rnF_bd6 (m : Int) (n : Bool) (T : Nat) (E : Int) : 0 ≤ rnF m n T E ∧ rnF m n T E ≤ 24 := by
  unfold rnF
  split
  · omega
  · split
    · omega
    · split
      · split <;> omega
      · omega
theorem tZ_ok {X Y : W4} {l : Log} (h : okLog l) : okLog (tZ5 X Y l) := okCons (cm5_ok _) (okCons (cm5_ok _) (okCons ck5_ok h))
theorem valid (nx ny : Bool) (X Y : W4) (Ex Ey m : Int) (hX : X.ok) (hY : Y.ok) (mX : mayB Ex X false = true) (mY : mayB Ey Y false = true) (w : World) (hk : known w) : Calls Tryd.prog 3 #[vN nx Ex X false, vN ny Ey Y false, .int .i64 m] w fun e w' => e = .returned (.bool true) ∧ Tidy w w' := by
  have T := tabH_ok conE1_ok hcE_ok
  obtain ⟨⟨xc, xd⟩, _, x1, x2⟩ := (may_cd hX Ex false).1 mX
  obtain ⟨⟨yc, yd⟩, _, y1, y2⟩ := (may_cd hY Ey false).1 mY
  have dX := (may_iff hX).1 mX
  have dY := (may_iff hY).1 mY
  have kx : decide X.ok = true := decide_eq_true hX
  have ky : decide Y.ok = true := decide_eq_true hY
  have kE : okEx Ex X false Ey Y false = true := decide_eq_true ⟨hX, hY, rfl, rfl, mX, mY⟩
  have w1 : IntKind.i64.wrap (Ex - Ey) = Ex - Ey := wrapI' ⟨by omega, by omega⟩
  have w2 : IntKind.i64.wrap (Ey - Ex) = Ey - Ex := wrapI' ⟨by omega, by omega⟩
  have l0 : okLog [(decide (Ey ≤ 100000), true), (decide (Ey ≥ -100000), true), (Y.d == 0, true), (Y.c == 0, true), (decide (Ex ≤ 100000), true), (decide (Ex ≥ -100000), true), (X.d == 0, true), (X.c == 0, true), (okEx Ex X false Ey Y false, true)] :=
    okCons (decide_eq_true y2) (okCons (decide_eq_true y1) (okCons (beq_t yd) (okCons (beq_t yc) (okCons (decide_eq_true x2) (okCons (decide_eq_true x1) (okCons (beq_t xd) (okCons (beq_t xc) (okL1 kE))))))))
  by_cases f1 : Ex - Ey > 8000
  · exact fitsAt_still T (xf1 nx ny X Y Ex Ey m) (okCons (by rw [w1]; exact decide_eq_true f1) l0) (by rfl) (by rfl) (startK hk)
  · by_cases f2 : Ey - Ex > 8000
    · exact fitsAt_still T (xf2 nx ny X Y Ex Ey m) (okCons (by rw [w2]; exact decide_eq_true f2) (okCons (by rw [w1]; exact decide_eq_false f1) l0)) (by rfl) (by rfl) (startK hk)
    · have lM : okLog (lM5 Ex X Ey Y) := okCons (by rw [w2]; exact decide_eq_false f2) (okCons (by rw [w1]; exact decide_eq_false f1) l0)
      have zX : ln5 X = 0 ↔ X.nat = 0 := len_zeroF _
      have zY : ln5 Y = 0 ↔ Y.nat = 0 := len_zeroF _
      obtain ⟨s, hs⟩ : ∃ s, s = smI (lowS Ex Ey (ln5 X) (ln5 Y)) nx Ex X.nat ny Ey Y.nat := ⟨_, rfl⟩
      have e1 : sv5 (hs1 m nx Ex X ny Ey Y) nx Ex X ny Ey Y 5 6 = s := by rw [hs]; exact sv5_eq rfl rfl ⟨x1, x2⟩ ⟨y1, y2⟩
      have e2 : sv5 (hs2 m nx Ex X ny Ey Y) nx Ex X ny Ey Y 4 6 = s := by rw [hs]; exact sv5_eq rfl rfl ⟨x1, x2⟩ ⟨y1, y2⟩
      have e3 : sv5 (hs3 m nx Ex X ny Ey Y) nx Ex X ny Ey Y 4 5 = s := by rw [hs]; exact sv5_eq rfl rfl ⟨x1, x2⟩ ⟨y1, y2⟩
      have e4 : sv5 (hs4 m nx Ex X ny Ey Y) nx Ex X ny Ey Y 4 5 = s := by rw [hs]; exact sv5_eq rfl rfl ⟨x1, x2⟩ ⟨y1, y2⟩
      have o1 : (ok5 (hs1 m nx Ex X ny Ey Y) Ex X Ey Y 5 6).1 = true := ok5_of rfl rfl ⟨x1, x2⟩ ⟨y1, y2⟩ dX.1 dY.1
      have o2 : (ok5 (hs2 m nx Ex X ny Ey Y) Ex X Ey Y 4 6).1 = true := ok5_of rfl rfl ⟨x1, x2⟩ ⟨y1, y2⟩ dX.1 dY.1
      have o3 : (ok5 (hs3 m nx Ex X ny Ey Y) Ex X Ey Y 4 5).1 = true := ok5_of rfl rfl ⟨x1, x2⟩ ⟨y1, y2⟩ dX.1 dY.1
      have o4 : (ok5 (hs4 m nx Ex X ny Ey Y) Ex X Ey Y 4 5).1 = true := ok5_of rfl rfl ⟨x1, x2⟩ ⟨y1, y2⟩ dX.1 dY.1
      have lS : ∀ d, decide (s ≠ 0) = d → okLog (lS5 m nx Ex X ny Ey Y d) := fun d hd => by
        refine okCons (by rw [e1]; exact hd) (okCons o1 (okCons ky (okCons kx (okCons (by rw [e2]; exact hd) (okCons o2 (okCons ky (okCons (by rw [e3]; exact hd) (okCons o3 (okCons (by rw [e4]; exact hd) (okCons o4 (okCons ky (okCons kx lM))))))))))))
      have eS : sS5 m nx Ex X ny Ey Y = s := e4
      have eL : low5 Ex X Ey Y = lowS Ex Ey (ln5 X) (ln5 Y) := by unfold low5; rw [refE_f ⟨x1, x2⟩, refE_f ⟨y1, y2⟩]
      have near := fun k => near_sum k m dX dY zX zY nx ny
      rw [← hs] at near
      have eg : sg5 m nx Ex X ny Ey Y = sgS m nx ny s := by unfold sg5; rw [eS]
      have hq : decide (ofN (xuQ nx Ex X.nat ny Ey Y.nat)).ok = true := decide_eq_true (ofN_ok _)
      have eP : ∀ k, P5 m nx Ex X ny Ey Y k = sS (sgS m nx ny s) (rnP k (sgS m nx ny s) s.natAbs (lowS Ex Ey (ln5 X) (ln5 Y))) := fun k => by
        obtain ⟨a1, a2, a3⟩ := near k
        unfold P5
        rw [a2, a1]
      have eF : ∀ k, IntKind.i64.wrap (F5 m nx Ex X ny Ey Y k) = rnF k (sgS m nx ny s) s.natAbs (lowS Ex Ey (ln5 X) (ln5 Y)) := fun k => by
        obtain ⟨a1, a2, a3⟩ := near k
        have hb := rnF_bd6 k (sgS m nx ny s) s.natAbs (lowS Ex Ey (ln5 X) (ln5 Y))
        unfold F5
        rw [a3, wrapI' ⟨by omega, by omega⟩]
      have kk : ∀ k : Int, k < 5 → (lk5 k).1 = (lk5 k).2 := fun k h => decide_eq_true h
      have h55 : decide ((5 : Int) < 5) = false := by decide
      by_cases h0 : s = 0
      · have rz : ∀ k l, k < 5 → okLog l → okLog (rz5 m nx Ex X ny Ey Y k l) := fun k l hk hl => by
          refine okCons (bne_f ?_) (okCons (bne_f ?_) (okCons hq (okCons (kk k hk) hl)))
          · rw [eF, h0]; simp [rnF]
          · rw [eP, eg, h0]; simp [rnP]
        exact fitsAt_still T (xn0 nx ny X Y Ex Ey m) (okCons h55 (rz 4 _ (by omega) (rz 3 _ (by omega) (rz 2 _ (by omega) (rz 1 _ (by omega) (rz 0 _ (by omega) (tZ_ok (tZ_ok (tZ_ok (lS false (decide_eq_false (fun h => h h0)))))))))))) (by rfl) (by rfl) (startK hk)
      · have h6 : (hL5 m nx Ex X ny Ey Y).blk? 6 = some (wU (d16 (sS5 m nx Ex X ny Ey Y).natAbs), tU) := rfl
        have eV : vS5 m nx Ex X ny Ey Y = s.natAbs := by unfold vS5; rw [vO_ad h6, eS]
        obtain ⟨q, hq6⟩ : ∃ q : Nat, q = 600 := ⟨_, rfl⟩
        have hlt : s.natAbs < 2 ^ (16 * q) := by
          have hn : lowS Ex Ey (ln5 X) (ln5 Y) = Ex ∨ lowS Ex Ey (ln5 X) (ln5 Y) = Ey := low_nearF _ _
          obtain ⟨j, hj⟩ : ∃ j : Nat, j = 8000 := ⟨_, rfl⟩
          have p1 := szF_ltF (F := lowS Ex Ey (ln5 X) (ln5 Y)) (E := Ex) (k := 128) (j := j) dX.1 (by omega)
          have p2 := szF_ltF (F := lowS Ex Ey (ln5 X) (ln5 Y)) (E := Ey) (k := 128) (j := j) dY.1 (by omega)
          have p3 : 2 * 2 ^ (128 + j) ≤ 2 ^ (16 * q) := by
            rw [Nat.mul_comm, ← Nat.pow_succ]
            exact Nat.pow_le_pow_right (by omega) (by omega)
          rw [hs]
          unfold smI
          generalize (2 : Nat) ^ (16 * q) = Z at *
          generalize (2 : Nat) ^ (128 + j) = W at *
          generalize szF (lowS Ex Ey (ln5 X) (ln5 Y)) Ex X.nat = A at *
          generalize szF (lowS Ex Ey (ln5 X) (ln5 Y)) Ey Y.nat = B at *
          cases nx <;> cases ny <;> simp only [sgI] <;> omega
        have hl : (d16 (sS5 m nx Ex X ny Ey Y).natAbs).length ≤ q := by rw [eS]; exact d16_len hlt
        have ko : okRo (hL5 m nx Ex X ny Ey Y) (ad 6 0) (d16 (sS5 m nx Ex X ny Ey Y).natAbs).length (d16 (sS5 m nx Ex X ny Ey Y).natAbs).length (low5 Ex X Ey Y) = true := by
          have hn : low5 Ex X Ey Y = Ex ∨ low5 Ex X Ey Y = Ey := by rw [eL]; exact low_nearF _ _
          unfold okRo ad
          rw [rowP_d16 h6 (by omega), rowOf_d16 h6, show canB (d16 (sS5 m nx Ex X ny Ey Y).natAbs) = true from canB_mk (can_db (by omega) _), blt_iff.2 (by omega), decide_eq_true (by omega)]
          rfl
        have rn : ∀ k l, k < 5 → okLog l → okLog (rn5 m nx Ex X ny Ey Y k l) := fun k l hk hl => by
          refine okCons (bne_f ?_) (okCons (bne_f ?_) (okCons ko (okCons hq (okCons (kk k hk) hl))))
          · rw [eF, eV, eg, eL]
          · rw [eP, eV, eg, eL]
        have tN : ∀ l, okLog l → okLog (tN5 m nx Ex X ny Ey Y l) := fun l hl => okCons (cm5_ok _) (tZ_ok hl)
        exact fitsAt_still T (xn1 nx ny X Y Ex Ey m) (okCons h55 (rn 4 _ (by omega) (rn 3 _ (by omega) (rn 2 _ (by omega) (rn 1 _ (by omega) (rn 0 _ (by omega) (tN _ (tN _ (tN _ (tN _ (tN _ (tN _ (lS true (decide_eq_true h0)))))))))))))) (by rfl) (by rfl) (startK hk)
theorem walk (nx ny b b2 : Bool) (X Y : W4) (Ex Ey m : Int) (hX : X.ok) (hY : Y.ok) (w : World) (hk : known w) : Calls Tryd.prog 3 #[vN nx Ex X b, vN ny Ey Y b2, .int .i64 m] w fun e w' => e = .returned (.bool true) ∧ Tidy w w' := by
  have T := tabH_ok conE0_ok hcE_ok
  have kx : decide X.ok = true := decide_eq_true hX
  have ky : decide Y.ok = true := decide_eq_true hY
  have i0 : lZ0.1 = lZ0.2 := by decide
  have i1 : l11.1 = l11.2 := by decide
  have i2 : lN0.1 = lN0.2 := by kernel_rfl
  have bad : ∀ {l : Log}, okLog l → okLog (lZ0 :: l11 :: lN0 :: l) := fun h => okCons i0 (okCons i1 (okCons i2 h))
  by_cases mX : mayB Ex X b = true
  · obtain ⟨⟨xc, xd⟩, rfl, x1, x2⟩ := (may_cd hX Ex b).1 mX
    by_cases mY : mayB Ey Y b2 = true
    · obtain ⟨_, rfl, _, _⟩ := (may_cd hY Ey b2).1 mY
      exact valid nx ny X Y Ex Ey m hX hY mX mY w hk
    · have mf : mayB Ey Y b2 = false := by simpa using mY
      have l0 : okLog [(decide (Ex ≤ 100000), true), (decide (Ex ≥ -100000), true), (X.d == 0, true), (X.c == 0, true), (mayB Ey Y b2, false), (decide Y.ok, true), (mayB Ex X false, true), (decide X.ok, true)] :=
        okCons (decide_eq_true x2) (okCons (decide_eq_true x1) (okCons (beq_t xd) (okCons (beq_t xc) (okCons mf (okCons ky (okCons mX (okL1 kx)))))))
      by_cases yc : Y.c = 0
      · by_cases yd : Y.d = 0
        · cases b2 with
          | true => exact fitsAt_still T (ye3 nx ny X Y Ex Ey m) (bad (okCons (beq_t yd) (okCons (beq_t yc) l0))) (by rfl) (by rfl) (startK hk)
          | false =>
            by_cases y1 : Ey ≥ -100000
            · have y2 : ¬ Ey ≤ 100000 := fun h => mY ((may_cd hY Ey false).2 ⟨⟨yc, yd⟩, rfl, y1, h⟩)
              exact fitsAt_still T (ye5 nx ny X Y Ex Ey m) (bad (okCons (decide_eq_false y2) (okCons (decide_eq_true y1) (okCons (beq_t yd) (okCons (beq_t yc) l0))))) (by rfl) (by rfl) (startK hk)
            · exact fitsAt_still T (ye4 nx ny X Y Ex Ey m) (bad (okCons (decide_eq_false y1) (okCons (beq_t yd) (okCons (beq_t yc) l0)))) (by rfl) (by rfl) (startK hk)
        · exact fitsAt_still T (ye2 nx ny b2 X Y Ex Ey m) (bad (okCons (beq_f yd) (okCons (beq_t yc) l0))) (by rfl) (by rfl) (startK hk)
      · exact fitsAt_still T (ye1 nx ny b2 X Y Ex Ey m) (bad (okCons (beq_f yc) l0)) (by rfl) (by rfl) (startK hk)
  · have mf : mayB Ex X b = false := by simpa using mX
    have l0 : okLog [(mayB Ex X b, false), (decide X.ok, true)] := okCons mf (okL1 kx)
    by_cases xc : X.c = 0
    · by_cases xd : X.d = 0
      · cases b with
        | true => exact fitsAt_still T (xe3 nx ny b2 X Y Ex Ey m) (bad (okCons (beq_t xd) (okCons (beq_t xc) l0))) (by rfl) (by rfl) (startK hk)
        | false =>
          by_cases x1 : Ex ≥ -100000
          · have x2 : ¬ Ex ≤ 100000 := fun h => mX ((may_cd hX Ex false).2 ⟨⟨xc, xd⟩, rfl, x1, h⟩)
            exact fitsAt_still T (xe5 nx ny b2 X Y Ex Ey m) (bad (okCons (decide_eq_false x2) (okCons (decide_eq_true x1) (okCons (beq_t xd) (okCons (beq_t xc) l0))))) (by rfl) (by rfl) (startK hk)
          · exact fitsAt_still T (xe4 nx ny b2 X Y Ex Ey m) (bad (okCons (decide_eq_false x1) (okCons (beq_t xd) (okCons (beq_t xc) l0)))) (by rfl) (by rfl) (startK hk)
      · exact fitsAt_still T (xe2 nx ny b b2 X Y Ex Ey m) (bad (okCons (beq_f xd) (okCons (beq_t xc) l0))) (by rfl) (by rfl) (startK hk)
    · exact fitsAt_still T (xe1 nx ny b b2 X Y Ex Ey m) (bad (okCons (beq_f xc) l0)) (by rfl) (by rfl) (startK hk)
theorem w4_ok5 {a b c d : Int} (ka : (Lit.int .u64 a).wf = true) (kb : (Lit.int .u64 b).wf = true) (kc : (Lit.int .u64 c).wf = true) (kd : (Lit.int .u64 d).wf = true) (h : ∀ {z : Int}, (Lit.int .u64 z).wf = true → U z) : (⟨a, b, c, d⟩ : W4).ok := ⟨h ka, h kb, h kc, h kd⟩
theorem cells0 {l : List Value} (h : okC [none, some .i64, some .u64, some .u64, some .u64, some .u64, none] l) : ∃ n0 e0 p0a p0b p0c p0d b0, l = [.bool n0, .int .i64 e0, .int .u64 p0a, .int .u64 p0b, .int .u64 p0c, .int .u64 p0d, .bool b0] ∧ (Lit.int .i64 e0).wf = true ∧ (Lit.int .u64 p0a).wf = true ∧ (Lit.int .u64 p0b).wf = true ∧ (Lit.int .u64 p0c).wf = true ∧ (Lit.int .u64 p0d).wf = true := by
  have hl := okC_length h
  obtain ⟨v0, v1, v2, v3, v4, v5, v6, rfl⟩ : ∃ v0 v1 v2 v3 v4 v5 v6, l = [v0, v1, v2, v3, v4, v5, v6] := by
    match l, hl with
    | [v0, v1, v2, v3, v4, v5, v6], _ => exact ⟨v0, v1, v2, v3, v4, v5, v6, rfl⟩
  obtain ⟨⟨n0, rfl⟩, ⟨e0, rfl, ke0⟩, ⟨p0a, rfl, kp0a⟩, ⟨p0b, rfl, kp0b⟩, ⟨p0c, rfl, kp0c⟩, ⟨p0d, rfl, kp0d⟩, ⟨b0, rfl⟩, _⟩ := h
  exact ⟨n0, e0, p0a, p0b, p0c, p0d, b0, rfl, ke0, kp0a, kp0b, kp0c, kp0d⟩
theorem cells1 {l : List Value} (h : okC [none, some .i64, some .u64, some .u64, some .u64, some .u64, none] l) : ∃ n1 e1 p1a p1b p1c p1d b1, l = [.bool n1, .int .i64 e1, .int .u64 p1a, .int .u64 p1b, .int .u64 p1c, .int .u64 p1d, .bool b1] ∧ (Lit.int .i64 e1).wf = true ∧ (Lit.int .u64 p1a).wf = true ∧ (Lit.int .u64 p1b).wf = true ∧ (Lit.int .u64 p1c).wf = true ∧ (Lit.int .u64 p1d).wf = true := by
  have hl := okC_length h
  obtain ⟨v0, v1, v2, v3, v4, v5, v6, rfl⟩ : ∃ v0 v1 v2 v3 v4 v5 v6, l = [v0, v1, v2, v3, v4, v5, v6] := by
    match l, hl with
    | [v0, v1, v2, v3, v4, v5, v6], _ => exact ⟨v0, v1, v2, v3, v4, v5, v6, rfl⟩
  obtain ⟨⟨n1, rfl⟩, ⟨e1, rfl, ke1⟩, ⟨p1a, rfl, kp1a⟩, ⟨p1b, rfl, kp1b⟩, ⟨p1c, rfl, kp1c⟩, ⟨p1d, rfl, kp1d⟩, ⟨b1, rfl⟩, _⟩ := h
  exact ⟨n1, e1, p1a, p1b, p1c, p1d, b1, rfl, ke1, kp1a, kp1b, kp1c, kp1d⟩
theorem own : ownKnob Tryd.prog.godebug = none := by kernel_rfl
theorem et : Tryd.prog.globalNamed "errors.errorType" = some 0 := by kernel_rfl
theorem rt : (Tryd.prog.cutTypes.find? (·.1 == "internal/reflectlite.rtype")).map (·.2) = some 113 := by kernel_rfl
theorem oneRow : ((List.range 159).filter fun t => Tryd.prog.rowNamed t [101, 114, 114, 111, 114]) = [30] := by kernel_rfl
theorem size : Tryd.prog.types.size = 159 := by kernel_rfl
/-- what the condition gives: the variable's one cell -/
theorem known_of {W : World} (h : laidMetH Tryd.prog Rows.sumsExactRow.laid W) : known W := by
  have h' : laidMet Tryd.prog [] W ∧ handlesMet Tryd.prog Rows.sumsExactRow.laid W := h
  obtain ⟨name, u, ty, e1, e2, e3, e4, e5⟩ := h'.2 _ (List.mem_singleton.2 rfl)
  have en : name = [101, 114, 114, 111, 114] := (Option.some.inj e1).symm
  subst en
  obtain rfl := Option.some.inj (rt.symm.trans e2)
  have hm : ty ∈ (List.range 159).filter fun t => Tryd.prog.rowNamed t [101, 114, 114, 111, 114] := List.mem_filter.2 ⟨List.mem_range.2 (by rw [← size]; exact e3), e4⟩
  rw [oneRow] at hm
  obtain rfl := List.mem_singleton.1 hm
  have hh : typeHandle Tryd.prog 30 = .pointer (some ⟨1, 30, none⟩) := by kernel_rfl
  rw [hh] at e5
  unfold known errT
  simpa using World.var?_cell et e5 0
/-- a world with the variable's cell laid -/
def laidIn (w : World) : World := { w with heap := w.heap.modify 0 fun
  | .cells _ t frozen => .cells #[errT] t frozen
  | o => o }
theorem laidIn_met (os : Os) (args : Array Value) : laidMetH Tryd.prog Rows.sumsExactRow.laid ((laidIn (World.holding Tryd.prog os ⟨#[], #[], []⟩)).forCall (fun _ _ => 0) ⟨#[], args, []⟩).memory :=
  laidMetH_of_parts (laidMet_nil _ _) (by kernel_rfl)
set_option maxRecDepth 100000 in
theorem lifted (os : Os) (started : os.Started) (H : Type) (enc : TypeId × Value → H) :
    ReturnsInHanded {} Tryd.checked os 3 .any (fun w args => (Rows.sumsExactSpec.pre enc Tryd.prog Tryd.f3 [] false w args ∧ laidMetH Tryd.prog Rows.sumsExactRow.laid w) ∧ sizedMet enc Tryd.prog Tryd.f3 (OpenSpec.ofChange Rows.sumsExactSpec) false w args)
      (Rows.sumsExactSpec.post enc Tryd.prog Tryd.f3 false true false false) := by
  refine returnsInHanded_of_change_and (C := Tryd.checked) (X := fun w _ => laidMetH Tryd.prog Rows.sumsExactRow.laid w) (fun _ _ _ hh h => h.of_heap hh) own started (by kernel_rfl) Tryd.func3
    (ChangeSpec.witness_at (enc := enc) (C := Tryd.checked) (os := os) (X := fun w _ => laidMetH Tryd.prog Rows.sumsExactRow.laid w) false (laidIn (World.holding Tryd.prog os ⟨#[], #[], []⟩)) #[.agg #[.bool false, .int .i64 0, .int .u64 0, .int .u64 0, .int .u64 0, .int .u64 0, .bool false], .agg #[.bool false, .int .i64 0, .int .u64 0, .int .u64 0, .int .u64 0, .int .u64 0, .bool false], .int .i64 0] 8 rfl (by kernel_rfl) (by kernel_rfl) (by kernel_rfl) (by kernel_rfl) (by kernel_rfl) (laidIn_met os _)) ?_
  intro W base args ds gs before hval0 hW _ _ hL _
  have hval : ∀ (j : Nat) t v, Tryd.f3.params[j]? = some t → args[j]? = some v → Value.okWide Tryd.prog W .any base t v := hval0
  have hW' := hW
  obtain ⟨p, q, hA0, hV, rfl, hfz, hnd⟩ := hW
  have hA : DataW.TrodAll enc Tryd.prog W 0 (fun _ => true) true Tryd.f3.params.toList args.toList ds p := hA0
  rw [Tryd.params3] at hA hval
  obtain ⟨v0, v1, v2, d0, d1, d2, p0, p1, p2, rfl, rfl, rfl, h0, h1, h2⟩ := trodAll_three hA
  obtain ⟨rfl, rfl⟩ := trodVars_none hV
  obtain ⟨c0, rfl, r0⟩ := flat_open (L := [none, some .i64, some .u64, some .u64, some .u64, some .u64, none]) (by kernel_rfl) h0
  obtain ⟨cs0, rfl⟩ := agg_struct Tryd.underlying25 (hval 0 25 v0 rfl rfl)
  obtain ⟨n0, e0, p0a, p0b, p0c, p0d, b0, hcs0, ke0, kp0a, kp0b, kp0c, kp0d⟩ := cells0 c0
  have hcs0' : cs0 = #[.bool n0, .int .i64 e0, .int .u64 p0a, .int .u64 p0b, .int .u64 p0c, .int .u64 p0d, .bool b0] := by
    have := congrArg List.toArray hcs0
    simpa [Value.cells] using this
  subst hcs0'
  obtain ⟨c1, rfl, r1⟩ := flat_open (L := [none, some .i64, some .u64, some .u64, some .u64, some .u64, none]) (by kernel_rfl) h1
  obtain ⟨cs1, rfl⟩ := agg_struct Tryd.underlying25 (hval 1 25 v1 rfl rfl)
  obtain ⟨n1, e1, p1a, p1b, p1c, p1d, b1, hcs1, ke1, kp1a, kp1b, kp1c, kp1d⟩ := cells1 c1
  have hcs1' : cs1 = #[.bool n1, .int .i64 e1, .int .u64 p1a, .int .u64 p1b, .int .u64 p1c, .int .u64 p1d, .bool b1] := by
    have := congrArg List.toArray hcs1
    simpa [Value.cells] using this
  subst hcs1'
  obtain ⟨x2, rfl, rfl, rfl, w2⟩ := open_int Tryd.underlying3 (hval 2 3 v2 rfl rfl) h2
  clear hA0 hval0
  simp only [List.append_nil] at hW'
  refine (walk n0 n1 b0 b1 ⟨p0a, p0b, p0c, p0d⟩ ⟨p1a, p1b, p1c, p1d⟩ e0 e1 x2 (w4_ok5 kp0a kp0b kp0c kp0d u64_bounds) (w4_ok5 kp1a kp1b kp1c kp1d u64_bounds) W (known_of hL)).mono fun e W' ⟨he, hg⟩ => ?_
  subst he
  exact ⟨_, rfl, post_of_same (pa := []) (pv := []) hW' (fun _ _ _ => trodAll_mk1 (shut_bool Tryd.underlying4 _))
    (fun sp _ => trodAll_mk3 (r0 _ _ _ _) (r1 _ _ _ _) (shut_int Tryd.underlying3 w2)) (fun _ _ => rfl) rfl
    (hg.1.frame _) (tidy_frozen hg) (ok_one (by kernel_rfl) rfl (okWide_bool_mk Tryd.underlying4 _))⟩

theorem row_holds : Rows.SumsExactSaid :=
  OpenClaim.holds_of_wide 3 Tryd.f3 rfl rfl rfl rfl rfl rfl rfl ⟨rfl, rfl, rfl, rfl, rfl⟩ rfl rfl rfl rfl rfl (by kernel_rfl) Tryd.func3 (by kernel_rfl)
    (of_decide_eq_true (by kernel_rfl)) (by unfold Func.isWrapper; first | (rw [if_pos (by decide +kernel)]; kernel_rfl) | (rw [if_neg (by decide +kernel)]; exact ⟨rfl, rfl⟩))
    (fun os started H enc _ => lifted os started H enc)

theorem proved : Rows.SumsExactCardSaid :=
  Claim7.holds_tied_plain_at .later [] [.handle] true (true, "fe0584397bd4fd685834e475b3908e3cb1e399660d2af367cf77939f4d10dd6e") true
    row_holds (fun _ h => by cases h) (by kernel_rfl) (fun _ h => by cases h) sumsExact_row_tie rfl ⟨rfl, rfl⟩ (by kernel_rfl) rfl
    (fun f fn hf hfn => by
      obtain rfl : f = 3 := Option.some.inj ((show Tryd.prog.funcNamed "tiller/tillerlaw05.SumsExact" = some 3 by kernel_rfl).symm.trans hf) |>.symm
      obtain rfl : fn = Tryd.f3 := (Option.some.inj (Tryd.func3.symm.trans hfn)).symm
      exact ⟨by kernel_rfl, fun j t ht => by
        rw [Tryd.params3] at ht
        have hm : t ∈ [25, 25, 3] := by simpa using Array.mem_of_getElem? ht
        have hall : ([25, 25, 3].all fun u => !Tryd.prog.wantsStandIn u) = true := by kernel_rfl
        exact (show Tryd.prog.wantsStandIn t = false by simpa using List.all_eq_true.1 hall t hm)⟩)
    (by kernel_rfl)
end Go.Proofs.YtgmfnecdpfdncaaDoor.sumsExact
