/-
  RdZ, RdK, NumRh, RdL, RdM, NumWh, NumSc, ScA, ScP, InO, InP, NumRi
-/
import Derived.Test.YtjlponbdflkbjaaGreatDoorG22
import Derived.Test.YtjlponbdflkbjaaGreatDoorG19
import Derived.Test.YtjlponbdflkbjaaGreatDoorG07
import Derived.Test.YtjlponbdflkbjaaGreatDoorG17
import Derived.Test.YtjlponbdflkbjaaGreatDoorG16
import Derived.Test.YtjlponbdflkbjaaGreatDoorG20
namespace Go.Proofs.YtjlponbdflkbjaaGreatDoor
open Go.KRun Go.Nt Go.Rd Go.Wd Go.Rn
set_option maxRecDepth 100000
def conPs : Con := alt 15 gTkS (alt 28 gCutP (alt 31 gTdR (alt 32 gWnR (alt 18 gNoR (alt 19 gRd conN)))))
theorem conPs_ok : ConOk conPs := alt_ok Tryz.func15 rfl gTkS_ok (alt_ok Tryz.func28 rfl gCutP_ok (alt_ok Tryz.func31 rfl gTdR_ok (alt_ok Tryz.func32 rfl gWnR_ok (alt_ok Tryz.func18 rfl gNoR_ok (alt_ok Tryz.func19 rfl gRd_ok conN_ok)))))
def paW (p f : Int) (e : Value) : Value := .tuple #[.int .u64 p, .int .u8 f, e]
def erZ (k : Int) : Value := .iface 42 (.int .i64 k)
def tInf : List UInt8 := [105, 110, 102]
def tNan : List UInt8 := [110, 97, 110]
def lB0 (l : List UInt8) (mn : Bool) : Log := [lEqB (sgT l).2 tNan false, lEqB (sgT l).2 tInf false, ((sgT l).1, mn), (decide (((l.length : Nat) : Int) > 65536), false)]
def lTd (b : Int) (v : List UInt8) (d : Bool) (l : Log) : Log := (decide ((sc1 b false v).1 ≠ []), d) :: (decide ((b = 10 ∨ b = 16) ∧ v.length ≤ 100000), true) :: l
def lWn (r : List UInt8) (d : Bool) (l : Log) : Log := (wnK r, d) :: (decide (r.length ≤ 100000), true) :: l
/-- a numeral's digits, and where its point is -/
def nuDs (b : Int) (v : List UInt8) : List UInt8 := nuD (sc1 b false v).1
def nuK (b : Int) (v : List UInt8) : Int := ((trZ (sc1 b false v).1).length : Nat) - ((sc1 b false v).2.1 : Nat)
def rst (b : Int) (v : List UInt8) : List UInt8 := (sc1 b false v).2.2
def lNo (b : Int) (v : List UInt8) (P : Int) (l : Log) : Log := (decide (ofN (noS b (nuDs b v) (nuK b v) P)).ok, true) :: (decide (nuDs b v = []), false) :: (okNo b (nuDs b v) (nuK b v) P, true) :: l
def lNz (b : Int) (v : List UInt8) (l : Log) : Log := (decide (⟨0, 0, 0, 0⟩ : W4).ok, true) :: (decide (nuDs b v = []), true) :: l
def pzV (m : Int) (mn : Bool) : Value := paW (sS mn (rnP m mn (tw ⟨0, 0, 0, 0⟩ false) (clp 0 - 1))) (rnF m mn (tw ⟨0, 0, 0, 0⟩ false) (clp 0 - 1)) .nilIface
def pnV (m : Int) (mn : Bool) (b : Int) (D : List UInt8) (k P : Int) : Value := paW (sS mn (rnP m mn (tw (ofN (noS b D k P)) (noM b D k P)) (clp (noE b D k P) - 1))) (rnF m mn (tw (ofN (noS b D k P)) (noM b D k P)) (clp (noE b D k P) - 1)) .nilIface
theorem paz_long (l : List UInt8) (m : Int) : Fits (reckon (tabOf Tryz.prog extY conPs true) 300 9 [bR l, .int .i64 m] [cmp true]) (paW 0 0 (erZ 2)) ([(decide (((l.length : Nat) : Int) > 65536), true)]) := ⟨by kernel_rfl, by kernel_rfl, by kernel_rfl, by kernel_rfl⟩
theorem paz_inft (l : List UInt8) (m : Int) : Fits (reckon (tabOf Tryz.prog extY conPs true) 300 9 [bR l, .int .i64 m] [cmp false, cmp true, sam true]) (paW 18442240474082181120 0 .nilIface) ([lEqB (sgT l).2 tInf true, ((sgT l).1, true), (decide (((l.length : Nat) : Int) > 65536), false)]) := ⟨by kernel_rfl, by kernel_rfl, by kernel_rfl, by kernel_rfl⟩
theorem paz_inff (l : List UInt8) (m : Int) : Fits (reckon (tabOf Tryz.prog extY conPs true) 300 9 [bR l, .int .i64 m] [cmp false, cmp false, sam true]) (paW 9218868437227405312 0 .nilIface) ([lEqB (sgT l).2 tInf true, ((sgT l).1, false), (decide (((l.length : Nat) : Int) > 65536), false)]) := ⟨by kernel_rfl, by kernel_rfl, by kernel_rfl, by kernel_rfl⟩
theorem paz_nan (l : List UInt8) (m : Int) (mn : Bool) : Fits (reckon (tabOf Tryz.prog extY conPs true) 300 9 [bR l, .int .i64 m] [cmp false, cmp mn, sam false, sam true]) (paW 9221120237041090560 0 .nilIface) ([lEqB (sgT l).2 tNan true, lEqB (sgT l).2 tInf false, ((sgT l).1, mn), (decide (((l.length : Nat) : Int) > 65536), false)]) := ⟨by kernel_rfl, by kernel_rfl, by kernel_rfl, by kernel_rfl⟩
theorem paz_a1 (l : List UInt8) (m : Int) (mn : Bool) : Fits (reckon (tabOf Tryz.prog extY conPs true) 300 9 [bR l, .int .i64 m] [cmp false, cmp mn, sam false, sam false, cmp false, cmp false]) (paW 0 0 (erZ 3)) (lTd 10 (sgT l).2 false ((hasP [48, 120] (sgT l).2, false) :: lB0 l mn)) := ⟨by kernel_rfl, by kernel_rfl, by kernel_rfl, by kernel_rfl⟩
theorem paz_a3 (l : List UInt8) (m : Int) (mn : Bool) : Fits (reckon (tabOf Tryz.prog extY conPs true) 300 9 [bR l, .int .i64 m] [cmp false, cmp mn, sam false, sam false, cmp false, cmp true, sam false, cmp false]) (paW 0 0 (erZ 3)) ((hasP [101] (rst 10 (sgT l).2), false) :: lEqB (rst 10 (sgT l).2) [] false :: lTd 10 (sgT l).2 true ((hasP [48, 120] (sgT l).2, false) :: lB0 l mn)) := ⟨by kernel_rfl, by kernel_rfl, by kernel_rfl, by kernel_rfl⟩
theorem paz_a4 (l : List UInt8) (m : Int) (mn : Bool) : Fits (reckon (tabOf Tryz.prog extY conPs true) 300 9 [bR l, .int .i64 m] [cmp false, cmp mn, sam false, sam false, cmp false, cmp true, sam false, cmp true, cmp false]) (paW 0 0 (erZ 3)) (lWn ((rst 10 (sgT l).2).drop 1) false ((hasP [101] (rst 10 (sgT l).2), true) :: lEqB (rst 10 (sgT l).2) [] false :: lTd 10 (sgT l).2 true ((hasP [48, 120] (sgT l).2, false) :: lB0 l mn))) := ⟨by kernel_rfl, by kernel_rfl, by kernel_rfl, by kernel_rfl⟩
theorem paz_a5z (l : List UInt8) (m : Int) (mn : Bool) : Fits (reckon (tabOf Tryz.prog extY conPs true) 300 9 [bR l, .int .i64 m] [cmp false, cmp mn, sam false, sam false, cmp false, cmp true, sam true, cmp true]) (pzV m mn) (lNz 10 (sgT l).2 (lEqB (rst 10 (sgT l).2) [] true :: lTd 10 (sgT l).2 true ((hasP [48, 120] (sgT l).2, false) :: lB0 l mn))) := ⟨by kernel_rfl, by kernel_rfl, by kernel_rfl, by kernel_rfl⟩
theorem paz_a5 (l : List UInt8) (m : Int) (mn : Bool) : Fits (reckon (tabOf Tryz.prog extY conPs true) 300 9 [bR l, .int .i64 m] [cmp false, cmp mn, sam false, sam false, cmp false, cmp true, sam true, cmp false]) (pnV m mn 10 (nuDs 10 (sgT l).2) (nuK 10 (sgT l).2) 0) (lNo 10 (sgT l).2 0 (lEqB (rst 10 (sgT l).2) [] true :: lTd 10 (sgT l).2 true ((hasP [48, 120] (sgT l).2, false) :: lB0 l mn))) := ⟨by kernel_rfl, by kernel_rfl, by kernel_rfl, by kernel_rfl⟩
theorem paz_a6z (l : List UInt8) (m : Int) (mn : Bool) : Fits (reckon (tabOf Tryz.prog extY conPs true) 300 9 [bR l, .int .i64 m] [cmp false, cmp mn, sam false, sam false, cmp false, cmp true, sam false, cmp true, cmp true, cmp true]) (pzV m mn) (lNz 10 (sgT l).2 (lWn ((rst 10 (sgT l).2).drop 1) true ((hasP [101] (rst 10 (sgT l).2), true) :: lEqB (rst 10 (sgT l).2) [] false :: lTd 10 (sgT l).2 true ((hasP [48, 120] (sgT l).2, false) :: lB0 l mn)))) := ⟨by kernel_rfl, by kernel_rfl, by kernel_rfl, by kernel_rfl⟩
theorem paz_a6 (l : List UInt8) (m : Int) (mn : Bool) : Fits (reckon (tabOf Tryz.prog extY conPs true) 300 9 [bR l, .int .i64 m] [cmp false, cmp mn, sam false, sam false, cmp false, cmp true, sam false, cmp true, cmp true, cmp false]) (pnV m mn 10 (nuDs 10 (sgT l).2) (nuK 10 (sgT l).2) (wnP ((rst 10 (sgT l).2).drop 1))) (lNo 10 (sgT l).2 (wnP ((rst 10 (sgT l).2).drop 1)) (lWn ((rst 10 (sgT l).2).drop 1) true ((hasP [101] (rst 10 (sgT l).2), true) :: lEqB (rst 10 (sgT l).2) [] false :: lTd 10 (sgT l).2 true ((hasP [48, 120] (sgT l).2, false) :: lB0 l mn)))) := ⟨by kernel_rfl, by kernel_rfl, by kernel_rfl, by kernel_rfl⟩
theorem paz_h1 (l : List UInt8) (m : Int) (mn : Bool) : Fits (reckon (tabOf Tryz.prog extY conPs true) 300 9 [bR l, .int .i64 m] [cmp false, cmp mn, sam false, sam false, cmp true, cmp false]) (paW 0 0 (erZ 3)) (lTd 16 ((sgT l).2.drop 2) false ((hasP [48, 120] (sgT l).2, true) :: lB0 l mn)) := ⟨by kernel_rfl, by kernel_rfl, by kernel_rfl, by kernel_rfl⟩
theorem paz_h2 (l : List UInt8) (m : Int) (mn : Bool) : Fits (reckon (tabOf Tryz.prog extY conPs true) 300 9 [bR l, .int .i64 m] [cmp false, cmp mn, sam false, sam false, cmp true, cmp true, sam true]) (paW 0 0 (erZ 3)) (lEqB (rst 16 ((sgT l).2.drop 2)) [] true :: lTd 16 ((sgT l).2.drop 2) true ((hasP [48, 120] (sgT l).2, true) :: lB0 l mn)) := ⟨by kernel_rfl, by kernel_rfl, by kernel_rfl, by kernel_rfl⟩
theorem paz_h3 (l : List UInt8) (m : Int) (mn : Bool) : Fits (reckon (tabOf Tryz.prog extY conPs true) 300 9 [bR l, .int .i64 m] [cmp false, cmp mn, sam false, sam false, cmp true, cmp true, sam false, cmp false]) (paW 0 0 (erZ 3)) ((hasP [112] (rst 16 ((sgT l).2.drop 2)), false) :: lEqB (rst 16 ((sgT l).2.drop 2)) [] false :: lTd 16 ((sgT l).2.drop 2) true ((hasP [48, 120] (sgT l).2, true) :: lB0 l mn)) := ⟨by kernel_rfl, by kernel_rfl, by kernel_rfl, by kernel_rfl⟩
theorem paz_h4 (l : List UInt8) (m : Int) (mn : Bool) : Fits (reckon (tabOf Tryz.prog extY conPs true) 300 9 [bR l, .int .i64 m] [cmp false, cmp mn, sam false, sam false, cmp true, cmp true, sam false, cmp true, cmp false]) (paW 0 0 (erZ 3)) (lWn ((rst 16 ((sgT l).2.drop 2)).drop 1) false ((hasP [112] (rst 16 ((sgT l).2.drop 2)), true) :: lEqB (rst 16 ((sgT l).2.drop 2)) [] false :: lTd 16 ((sgT l).2.drop 2) true ((hasP [48, 120] (sgT l).2, true) :: lB0 l mn))) := ⟨by kernel_rfl, by kernel_rfl, by kernel_rfl, by kernel_rfl⟩
theorem paz_h6z (l : List UInt8) (m : Int) (mn : Bool) : Fits (reckon (tabOf Tryz.prog extY conPs true) 300 9 [bR l, .int .i64 m] [cmp false, cmp mn, sam false, sam false, cmp true, cmp true, sam false, cmp true, cmp true, cmp true]) (pzV m mn) (lNz 16 ((sgT l).2.drop 2) (lWn ((rst 16 ((sgT l).2.drop 2)).drop 1) true ((hasP [112] (rst 16 ((sgT l).2.drop 2)), true) :: lEqB (rst 16 ((sgT l).2.drop 2)) [] false :: lTd 16 ((sgT l).2.drop 2) true ((hasP [48, 120] (sgT l).2, true) :: lB0 l mn)))) := ⟨by kernel_rfl, by kernel_rfl, by kernel_rfl, by kernel_rfl⟩
theorem paz_h6 (l : List UInt8) (m : Int) (mn : Bool) : Fits (reckon (tabOf Tryz.prog extY conPs true) 300 9 [bR l, .int .i64 m] [cmp false, cmp mn, sam false, sam false, cmp true, cmp true, sam false, cmp true, cmp true, cmp false]) (pnV m mn 16 (nuDs 16 ((sgT l).2.drop 2)) (nuK 16 ((sgT l).2.drop 2)) (wnP ((rst 16 ((sgT l).2.drop 2)).drop 1))) (lNo 16 ((sgT l).2.drop 2) (wnP ((rst 16 ((sgT l).2.drop 2)).drop 1)) (lWn ((rst 16 ((sgT l).2.drop 2)).drop 1) true ((hasP [112] (rst 16 ((sgT l).2.drop 2)), true) :: lEqB (rst 16 ((sgT l).2.drop 2)) [] false :: lTd 16 ((sgT l).2.drop 2) true ((hasP [48, 120] (sgT l).2, true) :: lB0 l mn)))) := ⟨by kernel_rfl, by kernel_rfl, by kernel_rfl, by kernel_rfl⟩
def okTx (l : List UInt8) : Bool := decide (l.length ≤ 10000 ∨ 65536 < l.length)
/-- the program's rounding in plain terms -/
theorem rd_bt (m : Int) (n : Bool) {S : Nat} (hS : S < 2 ^ 256) (b : Bool) (E : Int) : rnP m n (tw (ofN S) b) (clp E - 1) = rnP m n (2 * S + bt b) (E - 1) ∧ rnF m n (tw (ofN S) b) (clp E - 1) = rnF m n (2 * S + bt b) (E - 1) := by
  obtain ⟨p, f⟩ := same_round (m := m) (neg := n) (ofN_ok S) b (C := clp E) (D := E) (by unfold clp; split <;> split <;> omega)
  obtain ⟨p', f'⟩ := same_round (m := m) (neg := n) (ofN_ok S) b (C := E) (D := E) (.inl rfl)
  have e : tw (ofN S) b = 2 * S + bt b := by unfold tw; rw [ofN_nat hS]; rfl
  rw [e] at p f p' f'
  rw [e]
  exact ⟨p.trans p'.symm, f.trans f'.symm⟩
theorem nuD_nil {b : Int} {l : List UInt8} (ha : allB b l = true) : nuD l = [] ↔ trZ l = [] := by
  unfold nuD
  constructor
  · intro h
    cases hT : trZ l with
    | nil => rfl
    | cons c r =>
      obtain ⟨r', hr'⟩ := trR_head (b := b) (r := r) (trZ_head ha hT)
      rw [hT, hr'] at h
      cases h
  · intro h
    rw [h]
    rfl
theorem nuD_pos {l : List UInt8} (ha : allB 10 l = true) (hz : trZ l ≠ []) : nmB 10 (shR 800 (nuD l)) ≠ 0 := by
  cases hT : trZ l with
  | nil => exact absurd hT hz
  | cons c r =>
    have hc := trZ_head ha hT
    obtain ⟨r', hr'⟩ := trR_head (b := 10) (r := r) hc
    obtain ⟨r2, hr2⟩ : ∃ r2, shR 800 (nuD l) = c :: r2 := by
      unfold nuD shR
      rw [hT, hr']
      split
      · exact ⟨_, rfl⟩
      · exact ⟨_, rfl⟩
    have := nmB_pos (b := 10) (.inl rfl) (r := r2) hc
    rw [hr2]; omega
/-- what Parse answers -/
def paV (x : Int × Int × Int) : Value := if x.2.2 = 0 then paW x.1 x.2.1 .nilIface else paW 0 0 (erZ x.2.2)
theorem pz_eq (m : Int) (mn : Bool) : pzV m mn = paW (if mn = true then 9223372036854775808 else 0) 0 .nilIface := by
  cases mn <;> rfl
theorem rst_len (b : Int) (p : Bool) (v : List UInt8) : (sc1 b p v).2.2.length ≤ v.length := by
  induction v generalizing p with
  | nil => exact Nat.le_refl _
  | cons c l ih =>
    unfold sc1
    split
    · have := ih true; rw [List.length_cons]; omega
    · split
      · have := ih p; rw [List.length_cons]; dsimp only; omega
      · exact Nat.le_refl _
/-- the facts of a text's digits -/
theorem digs_ok {b : Int} (hb : b = 10 ∨ b = 16) {v : List UInt8} (hv : v.length ≤ 10000) (hz : trZ (sc1 b false v).1 ≠ []) {P : Int} (hP : -10000000 ≤ P ∧ P ≤ 10000000) : okNo b (nuDs b v) (nuK b v) P = true := by
  obtain ⟨h1, h2, h3⟩ := sc1_bd b false v
  have lT := trZ_len (sc1 b false v).1
  have lD : (nuD (sc1 b false v).1).length ≤ (trZ (sc1 b false v).1).length := trR_len _
  have ha : allB b (nuDs b v) = true := trR_all (allB_trZ h3)
  unfold okNo
  rw [ha, Bool.true_and]
  unfold nuK nuDs
  exact decide_eq_true ⟨hb, fun h10 => by subst h10; exact nuD_pos h3 hz, by omega, by omega, by omega, hP.1, hP.2⟩
theorem num_ok {m : Int} {n : Bool} {b : Int} (hb : b = 10 ∨ b = 16) {v : List UInt8} (hv : v.length ≤ 10000) (hz : trZ (sc1 b false v).1 ≠ []) {P Q : Int} (hP : alike Q P) : pnV m n b (nuDs b v) (nuK b v) Q = paW (if n = true then 9223372036854775808 + rnP m n (dnA b (trZ (sc1 b false v).1) ((sc1 b false v).2.1 : Nat) P).1 (dnA b (trZ (sc1 b false v).1) ((sc1 b false v).2.1 : Nat) P).2 else rnP m n (dnA b (trZ (sc1 b false v).1) ((sc1 b false v).2.1 : Nat) P).1 (dnA b (trZ (sc1 b false v).1) ((sc1 b false v).2.1 : Nat) P).2) (rnF m n (dnA b (trZ (sc1 b false v).1) ((sc1 b false v).2.1 : Nat) P).1 (dnA b (trZ (sc1 b false v).1) ((sc1 b false v).2.1 : Nat) P).2) .nilIface := by
  obtain ⟨h1, h2, h3⟩ := sc1_bd b false v
  obtain ⟨r1, r2⟩ := rd_bt m n (noS_lt b (nuDs b v) (nuK b v) Q) (noM b (nuDs b v) (nuK b v) Q) (noE b (nuDs b v) (nuK b v) Q)
  obtain ⟨q1, q2⟩ := no_round (m := m) (n := n) hb (l := (sc1 b false v).1) (by omega) h3 hz (k := (sc1 b false v).2.1) h2 hP
  unfold pnV
  rw [r1, r2]
  unfold nuDs nuK
  rw [q1, q2]
  rfl
theorem paw_a (l : List UInt8) (m : Int) (h65 : l.length ≤ 10000) (h0 : ¬ (sgT l).2 = tInf) (h1 : ¬ (sgT l).2 = tNan) (h16 : hasP [48, 120] (sgT l).2 = false) (w : World) : Calls Tryz.prog 9 #[bR l, .int .i64 m] w fun e w' => e = .returned (paV (rdQ m (sgT l).1 10 (sgT l).2)) ∧ Tidy w w' := by
  have hT := tabY_ok conPs_ok
  have lb : okLog (lB0 l (sgT l).1) := okCons (ok_lEqB (decide_eq_false h1)) (okCons (ok_lEqB (decide_eq_false h0)) (okCons rfl (okL1 (decide_eq_false (by omega)))))
  have l0 := okCons h16 lb
  have hs := sgT_len l
  obtain ⟨v, hv⟩ : ∃ v, v = (sgT l).2 := ⟨_, rfl⟩
  have vl : v.length ≤ 10000 := by rw [hv]; omega
  have f1 := paz_a1 l m (sgT l).1
  have f5 := paz_a5 l m (sgT l).1
  have f5z := paz_a5z l m (sgT l).1
  have f3 := paz_a3 l m (sgT l).1
  have f4 := paz_a4 l m (sgT l).1
  have f6 := paz_a6 l m (sgT l).1
  have f6z := paz_a6z l m (sgT l).1
  obtain ⟨mn, hmn⟩ : ∃ mn, mn = (sgT l).1 := ⟨_, rfl⟩
  rw [← hv] at f1 f3 f4 f6 f6z f5 f5z
  rw [← hmn] at f1 f3 f4 f6 f6z l0 f5 f5z
  rw [← hv] at l0
  rw [← hv, ← hmn]
  have hB : decide (((10 : Int) = 10 ∨ (10 : Int) = 16) ∧ v.length ≤ 100000) = true := decide_eq_true ⟨(.inl rfl), by omega⟩
  obtain ⟨sb1, sb2, sb3⟩ := sc1_bd 10 false v
  have rl : (rst 10 v).length ≤ v.length := rst_len 10 false v
  have dl : decide (((rst 10 v).drop 1).length ≤ 100000) = true := decide_eq_true (by rw [List.length_drop]; omega)
  by_cases hD : (sc1 10 false v).1 = []
  · have e : rdQ m mn 10 v = (0, 0, 3) := by unfold rdQ scA; rw [if_pos hD, if_pos rfl]
    rw [e]
    exact fits_calls hT f1 (okCons (decide_eq_false (fun h => h hD)) (okCons hB l0)) (by rfl) (by rfl) w
  have l1 := okCons (show decide ((sc1 10 false v).1 ≠ []) = true from decide_eq_true hD) (okCons hB l0)
  have eS : scA 10 v = scE 10 (rst 10 v) := by unfold scA; rw [if_neg hD]; rfl
  obtain ⟨k1, k2⟩ := pw_alike (b := 10) (.inl rfl) (rst 10 v)
  rw [← eS] at k1 k2
  have eQz : (scA 10 v).2 = true → trZ (sc1 10 false v).1 = [] → rdQ m mn 10 v = (if mn = true then 9223372036854775808 else 0, 0, 0) := fun h2 h3 => by unfold rdQ; rw [if_neg (by rw [h2]; decide), if_pos h3]
  have eQn : (scA 10 v).2 = true → ¬ trZ (sc1 10 false v).1 = [] → rdQ m mn 10 v = (if mn = true then 9223372036854775808 + rnP m mn (dnA 10 (trZ (sc1 10 false v).1) ((sc1 10 false v).2.1 : Nat) (scA 10 v).1).1 (dnA 10 (trZ (sc1 10 false v).1) ((sc1 10 false v).2.1 : Nat) (scA 10 v).1).2 else rnP m mn (dnA 10 (trZ (sc1 10 false v).1) ((sc1 10 false v).2.1 : Nat) (scA 10 v).1).1 (dnA 10 (trZ (sc1 10 false v).1) ((sc1 10 false v).2.1 : Nat) (scA 10 v).1).2, rnF m mn (dnA 10 (trZ (sc1 10 false v).1) ((sc1 10 false v).2.1 : Nat) (scA 10 v).1).1 (dnA 10 (trZ (sc1 10 false v).1) ((sc1 10 false v).2.1 : Nat) (scA 10 v).1).2, 0) := fun h2 h3 => by unfold rdQ; rw [if_neg (by rw [h2]; decide), if_neg h3]
  have eQe : (scA 10 v).2 = false → rdQ m mn 10 v = (0, 0, 3) := fun h2 => by unfold rdQ; rw [if_pos h2]
  have nz := nuD_nil sb3
  by_cases hr : rst 10 v = []
  · have l2 := okCons (show (lEqB (rst 10 v) [] true).1 = true from ok_lEqB (decide_eq_true hr)) l1
    have ek : pwK 10 (rst 10 v) = true := by unfold pwK; rw [if_pos hr]; rfl
    have al := k2 ek
    have ep : Go.Rd.pwP (rst 10 v) = 0 := by unfold Go.Rd.pwP; rw [if_pos hr]
    rw [ep] at al
    rw [ek] at k1
    by_cases hz : trZ (sc1 10 false v).1 = []
    · rw [eQz k1.symm hz]
      have f := f5z
      rw [pz_eq] at f
      exact fits_calls hT f (okCons (decide_eq_true (by decide)) (okCons (decide_eq_true (nz.2 hz)) l2)) (by rfl) (by rfl) w
    · rw [eQn k1.symm hz]
      have f := f5
      rw [num_ok (.inl rfl) vl hz al] at f
      exact fits_calls hT f (okCons (decide_eq_true (ofN_ok _)) (okCons (decide_eq_false (fun h => hz (nz.1 h))) (okCons (digs_ok (.inl rfl) vl hz ⟨by decide, by decide⟩) l2))) (by rfl) (by rfl) w
  · have l2 := okCons (show (lEqB (rst 10 v) [] false).1 = false from ok_lEqB (decide_eq_false hr)) l1
    have ek : pwK 10 (rst 10 v) = (hasP [101] (rst 10 v) && wnK ((rst 10 v).drop 1)) := by unfold pwK; rw [if_neg hr]; rfl
    cases hm : hasP [101] (rst 10 v) with
    | false =>
      rw [hm, Bool.false_and] at ek
      rw [ek] at k1
      rw [eQe k1.symm]
      exact fits_calls hT f3 (okCons hm l2) (by rfl) (by rfl) w
    | true =>
      have l3 := okCons hm l2
      rw [hm, Bool.true_and] at ek
      cases hw : wnK ((rst 10 v).drop 1) with
      | false =>
        rw [hw] at ek
        rw [ek] at k1
        rw [eQe k1.symm]
        exact fits_calls hT f4 (okCons hw (okCons dl l3)) (by rfl) (by rfl) w
      | true =>
        have l4 := okCons hw (okCons dl l3)
        rw [hw] at ek
        have al := k2 ek
        have ep : Go.Rd.pwP (rst 10 v) = wnP ((rst 10 v).drop 1) := by unfold Go.Rd.pwP; rw [if_neg hr]
        rw [ep] at al
        rw [ek] at k1
        by_cases hz : trZ (sc1 10 false v).1 = []
        · rw [eQz k1.symm hz]
          have f := f6z
          rw [pz_eq] at f
          exact fits_calls hT f (okCons (decide_eq_true (by decide)) (okCons (decide_eq_true (nz.2 hz)) l4)) (by rfl) (by rfl) w
        · rw [eQn k1.symm hz]
          have f := f6
          rw [num_ok (.inl rfl) vl hz al] at f
          exact fits_calls hT f (okCons (decide_eq_true (ofN_ok _)) (okCons (decide_eq_false (fun h => hz (nz.1 h))) (okCons (digs_ok (.inl rfl) vl hz (wnP_bd _)) l4))) (by rfl) (by rfl) w
theorem paw_h (l : List UInt8) (m : Int) (h65 : l.length ≤ 10000) (h0 : ¬ (sgT l).2 = tInf) (h1 : ¬ (sgT l).2 = tNan) (h16 : hasP [48, 120] (sgT l).2 = true) (w : World) : Calls Tryz.prog 9 #[bR l, .int .i64 m] w fun e w' => e = .returned (paV (rdQ m (sgT l).1 16 ((sgT l).2.drop 2))) ∧ Tidy w w' := by
  have hT := tabY_ok conPs_ok
  have lb : okLog (lB0 l (sgT l).1) := okCons (ok_lEqB (decide_eq_false h1)) (okCons (ok_lEqB (decide_eq_false h0)) (okCons rfl (okL1 (decide_eq_false (by omega)))))
  have l0 := okCons h16 lb
  have hs := sgT_len l
  obtain ⟨v, hv⟩ : ∃ v, v = ((sgT l).2.drop 2) := ⟨_, rfl⟩
  have vl : v.length ≤ 10000 := by rw [hv]; rw [List.length_drop]; omega
  have f1 := paz_h1 l m (sgT l).1
  have f2 := paz_h2 l m (sgT l).1
  have f3 := paz_h3 l m (sgT l).1
  have f4 := paz_h4 l m (sgT l).1
  have f6 := paz_h6 l m (sgT l).1
  have f6z := paz_h6z l m (sgT l).1
  obtain ⟨mn, hmn⟩ : ∃ mn, mn = (sgT l).1 := ⟨_, rfl⟩
  rw [← hv] at f1 f3 f4 f6 f6z f2
  rw [← hmn] at f1 f3 f4 f6 f6z l0 f2
  rw [← hv, ← hmn]
  have hB : decide (((16 : Int) = 10 ∨ (16 : Int) = 16) ∧ v.length ≤ 100000) = true := decide_eq_true ⟨(.inr rfl), by omega⟩
  obtain ⟨sb1, sb2, sb3⟩ := sc1_bd 16 false v
  have rl : (rst 16 v).length ≤ v.length := rst_len 16 false v
  have dl : decide (((rst 16 v).drop 1).length ≤ 100000) = true := decide_eq_true (by rw [List.length_drop]; omega)
  by_cases hD : (sc1 16 false v).1 = []
  · have e : rdQ m mn 16 v = (0, 0, 3) := by unfold rdQ scA; rw [if_pos hD, if_pos rfl]
    rw [e]
    exact fits_calls hT f1 (okCons (decide_eq_false (fun h => h hD)) (okCons hB l0)) (by rfl) (by rfl) w
  have l1 := okCons (show decide ((sc1 16 false v).1 ≠ []) = true from decide_eq_true hD) (okCons hB l0)
  have eS : scA 16 v = scE 16 (rst 16 v) := by unfold scA; rw [if_neg hD]; rfl
  obtain ⟨k1, k2⟩ := pw_alike (b := 16) (.inr rfl) (rst 16 v)
  rw [← eS] at k1 k2
  have eQz : (scA 16 v).2 = true → trZ (sc1 16 false v).1 = [] → rdQ m mn 16 v = (if mn = true then 9223372036854775808 else 0, 0, 0) := fun h2 h3 => by unfold rdQ; rw [if_neg (by rw [h2]; decide), if_pos h3]
  have eQn : (scA 16 v).2 = true → ¬ trZ (sc1 16 false v).1 = [] → rdQ m mn 16 v = (if mn = true then 9223372036854775808 + rnP m mn (dnA 16 (trZ (sc1 16 false v).1) ((sc1 16 false v).2.1 : Nat) (scA 16 v).1).1 (dnA 16 (trZ (sc1 16 false v).1) ((sc1 16 false v).2.1 : Nat) (scA 16 v).1).2 else rnP m mn (dnA 16 (trZ (sc1 16 false v).1) ((sc1 16 false v).2.1 : Nat) (scA 16 v).1).1 (dnA 16 (trZ (sc1 16 false v).1) ((sc1 16 false v).2.1 : Nat) (scA 16 v).1).2, rnF m mn (dnA 16 (trZ (sc1 16 false v).1) ((sc1 16 false v).2.1 : Nat) (scA 16 v).1).1 (dnA 16 (trZ (sc1 16 false v).1) ((sc1 16 false v).2.1 : Nat) (scA 16 v).1).2, 0) := fun h2 h3 => by unfold rdQ; rw [if_neg (by rw [h2]; decide), if_neg h3]
  have eQe : (scA 16 v).2 = false → rdQ m mn 16 v = (0, 0, 3) := fun h2 => by unfold rdQ; rw [if_pos h2]
  have nz := nuD_nil sb3
  by_cases hr : rst 16 v = []
  · have l2 := okCons (show (lEqB (rst 16 v) [] true).1 = true from ok_lEqB (decide_eq_true hr)) l1
    have ek : pwK 16 (rst 16 v) = false := by unfold pwK; rw [if_pos hr]; rfl
    rw [ek] at k1
    rw [eQe k1.symm]
    exact fits_calls hT f2 l2 (by rfl) (by rfl) w
  · have l2 := okCons (show (lEqB (rst 16 v) [] false).1 = false from ok_lEqB (decide_eq_false hr)) l1
    have ek : pwK 16 (rst 16 v) = (hasP [112] (rst 16 v) && wnK ((rst 16 v).drop 1)) := by unfold pwK; rw [if_neg hr]; rfl
    cases hm : hasP [112] (rst 16 v) with
    | false =>
      rw [hm, Bool.false_and] at ek
      rw [ek] at k1
      rw [eQe k1.symm]
      exact fits_calls hT f3 (okCons hm l2) (by rfl) (by rfl) w
    | true =>
      have l3 := okCons hm l2
      rw [hm, Bool.true_and] at ek
      cases hw : wnK ((rst 16 v).drop 1) with
      | false =>
        rw [hw] at ek
        rw [ek] at k1
        rw [eQe k1.symm]
        exact fits_calls hT f4 (okCons hw (okCons dl l3)) (by rfl) (by rfl) w
      | true =>
        have l4 := okCons hw (okCons dl l3)
        rw [hw] at ek
        have al := k2 ek
        have ep : Go.Rd.pwP (rst 16 v) = wnP ((rst 16 v).drop 1) := by unfold Go.Rd.pwP; rw [if_neg hr]
        rw [ep] at al
        rw [ek] at k1
        by_cases hz : trZ (sc1 16 false v).1 = []
        · rw [eQz k1.symm hz]
          have f := f6z
          rw [pz_eq] at f
          exact fits_calls hT f (okCons (decide_eq_true (by decide)) (okCons (decide_eq_true (nz.2 hz)) l4)) (by rfl) (by rfl) w
        · rw [eQn k1.symm hz]
          have f := f6
          rw [num_ok (.inr rfl) vl hz al] at f
          exact fits_calls hT f (okCons (decide_eq_true (ofN_ok _)) (okCons (decide_eq_false (fun h => hz (nz.1 h))) (okCons (digs_ok (.inr rfl) vl hz (wnP_bd _)) l4))) (by rfl) (by rfl) w
theorem pa_calls (l : List UInt8) (m : Int) (ho : okTx l = true) (w : World) : Calls Tryz.prog 9 #[bR l, .int .i64 m] w fun e w' => e = .returned (paV (rdP m l)) ∧ Tidy w w' := by
  have hT := tabY_ok conPs_ok
  have ho := of_decide_eq_true ho
  unfold rdP
  by_cases h65 : 65536 < l.length
  · rw [if_pos h65]
    exact fits_calls hT (paz_long l m) (okL1 (decide_eq_true (by omega))) (by rfl) (by rfl) w
  have h6 : decide (((l.length : Nat) : Int) > 65536) = false := decide_eq_false (by omega)
  rw [if_neg h65]
  by_cases h1 : (sgT l).2 = [110, 97, 110]
  · rw [if_pos h1]
    exact fits_calls hT (paz_nan l m (sgT l).1) (okCons (ok_lEqB (decide_eq_true h1)) (okCons (ok_lEqB (decide_eq_false (by rw [h1]; decide))) (okCons rfl (okL1 h6)))) (by rfl) (by rfl) w
  rw [if_neg h1]
  by_cases h2 : (sgT l).2 = [105, 110, 102]
  · rw [if_pos h2]
    cases hn : (sgT l).1 with
    | true => exact fits_calls hT (paz_inft l m) (okCons (ok_lEqB (decide_eq_true h2)) (okCons hn (okL1 h6))) (by rfl) (by rfl) w
    | false => exact fits_calls hT (paz_inff l m) (okCons (ok_lEqB (decide_eq_true h2)) (okCons hn (okL1 h6))) (by rfl) (by rfl) w
  rw [if_neg h2, rdB_has]
  cases h16 : hasP [48, 120] (sgT l).2 with
  | true =>
    rw [if_pos rfl]
    exact paw_h l m (by omega) h2 h1 h16 w
  | false =>
    rw [if_neg (by decide)]
    exact paw_a l m (by omega) h2 h1 h16 w
/-- the program's Parse; told ahead whether a text is one -/
def gPR : Ans := fun vals s =>
  match vals, s with
  | [.string a, .int .i64 m], .inr (.inr (.inr (.inl true))) :: s' => some (paW (rdP m a.data.toList).1 (rdP m a.data.toList).2.1 .nilIface, s', [(decide ((rdP m a.data.toList).2.2 = 0), true), (okTx a.data.toList, true)])
  | [.string a, .int .i64 m], .inr (.inr (.inr (.inl false))) :: s' => some (paW 0 0 (erZ (rdP m a.data.toList).2.2), s', [(decide ((rdP m a.data.toList).2.2 = 0), false), (okTx a.data.toList, true)])
  | _, _ => none
theorem gPR_ok : AnsOk 9 gPR := by
  intro vals s v s' lg h hl w
  unfold gPR at h
  split at h
  · rename_i a m s2
    cases h
    have h1 := of_decide_eq_true (hl _ List.mem_cons_self)
    have h2 : okTx a.data.toList = true := hl _ (List.mem_cons_of_mem _ (List.mem_singleton.2 rfl))
    have := pa_calls a.data.toList m h2 w
    unfold paV at this
    rw [if_pos h1] at this
    exact this
  · rename_i a m s2
    cases h
    have h1 := of_decide_eq_false (hl _ List.mem_cons_self)
    have h2 : okTx a.data.toList = true := hl _ (List.mem_cons_of_mem _ (List.mem_singleton.2 rfl))
    have := pa_calls a.data.toList m h2 w
    unfold paV at this
    rw [if_neg h1] at this
    exact this
  · cases h
end Go.Proofs.YtjlponbdflkbjaaGreatDoor
namespace Go.Proofs.YtjlponbdflkbjaaGreatDoor
open Go.KRun Go.Nt Go.Rd
set_option maxRecDepth 100000
def dlL (F : Func) : Code := cIn (cIn (sP F 2))
def dlF (n : Int) (s : List UInt8) : List Value := [.int .u64 n, undef, bR [], bR s]
theorem dig_body : Tryz.f12.body = some (seqs [sP Tryz.f12 0, sP Tryz.f12 1] (.seq (.block 0 (.loop (dlL Tryz.f12))) (sK Tryz.f12 3))) := by kernel_rfl
theorem dgl_pre (n : Int) : GoesT (evL (tabOf Tryz.prog extY conN true) 100 [sP Tryz.f12 0, sP Tryz.f12 1] ([.int .u64 n] ++ List.replicate 20 undef, ⟨0, []⟩, []) ⟨[], [], []⟩) 4 17 none (dlF n []) ⟨0, []⟩ [] := ⟨by kernel_rfl, by kernel_rfl, by kernel_rfl⟩
theorem dgl_1 (n : Int) (s : List UInt8) (g : Nat → Value) : GoesT (evC (tabOf Tryz.prog extY conN true) 100 false (dlL Tryz.f12) (dlF n s ++ tl 17 g, ⟨0, []⟩, [cmp true, cmp false, cmp false, sam true, sam true]) ⟨[], [], []⟩) 4 17 none (dlF (IntKind.u64.wrap (n.tdiv 10)) ((((([48, 49, 50, 51, 52, 53, 54, 55, 56, 57] : List UInt8).drop (n.tmod 10).toNat).take ((IntKind.u64.wrap (n.tmod 10 + 1)).toNat - (n.tmod 10).toNat))) ++ s)) ⟨0, []⟩ [(decide ((((([48, 49, 50, 51, 52, 53, 54, 55, 56, 57] : List UInt8).drop (n.tmod 10).toNat).take ((IntKind.u64.wrap (n.tmod 10 + 1)).toNat - (n.tmod 10).toNat))).length + s.length ≤ 9223372036854775807), true), (decide (0 ≤ n.tmod 10 ∧ n.tmod 10 ≤ IntKind.u64.wrap (n.tmod 10 + 1) ∧ IntKind.u64.wrap (n.tmod 10 + 1) ≤ ((10 : Nat) : Int)), true), (decide ((10 : Int) = 0), false), (decide ((10 : Int) = 0), false), (decide (n > 0), true)] := ⟨by kernel_rfl, by kernel_rfl, by kernel_rfl⟩
theorem dgl_0 (n : Int) (s : List UInt8) (g : Nat → Value) : GoesT (evC (tabOf Tryz.prog extY conN true) 100 false (dlL Tryz.f12) (dlF n s ++ tl 17 g, ⟨0, []⟩, [cmp false, sam true, cmp false, cmp false, sam true, sam true]) ⟨[], [], []⟩) 4 17 none (dlF (IntKind.u64.wrap (n.tdiv 10)) ((((([48, 49, 50, 51, 52, 53, 54, 55, 56, 57] : List UInt8).drop (n.tmod 10).toNat).take ((IntKind.u64.wrap (n.tmod 10 + 1)).toNat - (n.tmod 10).toNat))) ++ s)) ⟨0, []⟩ [(decide ((((([48, 49, 50, 51, 52, 53, 54, 55, 56, 57] : List UInt8).drop (n.tmod 10).toNat).take ((IntKind.u64.wrap (n.tmod 10 + 1)).toNat - (n.tmod 10).toNat))).length + s.length ≤ 9223372036854775807), true), (decide (0 ≤ n.tmod 10 ∧ n.tmod 10 ≤ IntKind.u64.wrap (n.tmod 10 + 1) ∧ IntKind.u64.wrap (n.tmod 10 + 1) ≤ ((10 : Nat) : Int)), true), (decide ((10 : Int) = 0), false), (decide ((10 : Int) = 0), false), ((⟨⟨s⟩⟩ : ByteArray) == ⟨⟨[]⟩⟩, true), (decide (n > 0), false)] := ⟨by kernel_rfl, by kernel_rfl, by kernel_rfl⟩
theorem dgl_x (n : Int) (s : List UInt8) (g : Nat → Value) : GoesT (evC (tabOf Tryz.prog extY conN true) 100 false (dlL Tryz.f12) (dlF n s ++ tl 17 g, ⟨0, []⟩, [cmp false, sam false]) ⟨[], [], []⟩) 4 17 (some (some 0)) (dlF n s) ⟨0, []⟩ [((⟨⟨s⟩⟩ : ByteArray) == ⟨⟨[]⟩⟩, false), (decide (n > 0), false)] := ⟨by kernel_rfl, by kernel_rfl, by kernel_rfl⟩
theorem dgl_e (n : Int) (s : List UInt8) (g : Nat → Value) : GoesT (evC (tabOf Tryz.prog extY conN true) 100 false (sK Tryz.f12 3) (dlF n s ++ tl 17 g, ⟨0, []⟩, []) ⟨[], [], []⟩) 3 18 (some none) [.int .u64 n, undef, bR s] ⟨0, []⟩ [] := ⟨by kernel_rfl, by kernel_rfl, by kernel_rfl⟩
/-- behind some letters: c is left -/
def dlS (N : Nat) (c : Nat) (s : List UInt8) (y : Lf) : Prop := ∃ (f : Nat) (g : Nat → Value), c < 10 ^ f ∧ c < 18446744073709551616 ∧ s.length + f ≤ 20 ∧ 1 ≤ f + s.length ∧ (s = [] → 1 ≤ f) ∧ decF 20 N = (if c = 0 ∧ s ≠ [] then [] else decF f c) ++ s ∧ y.1 = dlF c s ++ tl 17 g ∧ y.2.1 = ⟨0, []⟩
theorem dl_round {N : Nat} (r : Nat) (y : Lf) (h : ∃ c s, r = 2 * c + (if s = [] then 1 else 0) ∧ dlS N c s y) :
    Runs (tabOf Tryz.prog extY conN true) (dlL Tryz.f12) y fun e z => match e with | none => ∃ r', r' < r ∧ ∃ c s, r' = 2 * c + (if s = [] then 1 else 0) ∧ dlS N c s z | some none => False | some (some id') => id' = 0 ∧ dlS N 0 (decF 20 N) z ∧ decF 20 N ≠ [] := by
  have hT := tabY_ok conN_ok
  obtain ⟨c, s, hr, f, g, hc, hu, hf, hf1, hf2, hS, ht, hh⟩ := h
  obtain ⟨t, h', sc⟩ := y
  simp only at ht hh
  subst ht hh
  by_cases hx : c = 0 ∧ s ≠ []
  · have es : decF 20 N = s := by rw [hS, if_pos hx]; rfl
    refine (goesT_runs (s0 := sc) hT (dgl_x (c : Nat) s g) (okCons (by rw [bs_eqR]; exact decide_eq_false hx.2) (okL1 (decide_eq_false (by omega))))).mono fun e z he => ?_
    obtain ⟨rfl, ⟨g', z1⟩, z2⟩ := he
    rw [hx.1] at z1
    refine ⟨rfl, ⟨f, g', Nat.pow_pos (by omega), by omega, by rw [es]; exact hf, by rw [es]; exact hf1, by rw [es]; exact hf2, ?_, by rw [es]; exact z1, z2⟩, by rw [es]; exact hx.2⟩
    rw [es, if_pos ⟨rfl, hx.2⟩]
    rfl
  · rw [if_neg hx] at hS
    have et : ((c : Nat) : Int).tmod 10 = ((c % 10 : Nat) : Int) := by rw [Int.tmod_eq_emod_of_nonneg (by omega)]; omega
    have ed : IntKind.u64.wrap (((c : Nat) : Int).tdiv 10) = ((c / 10 : Nat) : Int) := by
      rw [Int.tdiv_eq_ediv_of_nonneg (by omega)]
      simp [IntKind.wrap, IntKind.bits, IntKind.signed]
      omega
    have ew : IntKind.u64.wrap (((c % 10 : Nat) : Int) + 1) = ((c % 10 + 1 : Nat) : Int) := by
      simp [IntKind.wrap, IntKind.bits, IntKind.signed]
      omega
    have hm : c % 10 < 10 := Nat.mod_lt _ (by omega)
    have ep : ((([48, 49, 50, 51, 52, 53, 54, 55, 56, 57] : List UInt8).drop ((c % 10 : Nat) : Int).toNat).take (((c % 10 + 1 : Nat) : Int).toNat - ((c % 10 : Nat) : Int).toNat)) = [chD (c % 10)] := by
      rw [Int.toNat_natCast, Int.toNat_natCast, show c % 10 + 1 - c % 10 = 1 by omega]
      exact dec_part hm
    obtain ⟨f', rfl⟩ : ∃ f', f = f' + 1 := by
      cases f with
      | zero =>
        exfalso
        have h0 : c = 0 := by simpa using hc
        exact hx ⟨h0, fun h => by have := hf2 h; omega⟩
      | succ f => exact ⟨f, rfl⟩
    have fin : ∀ z : Lf, ((none : Ex) = none ∧ (∃ g', z.1 = dlF ((c / 10 : Nat) : Int) ([chD (c % 10)] ++ s) ++ tl 17 g') ∧ z.2.1 = ⟨0, []⟩) → ∃ r', r' < r ∧ ∃ c s, r' = 2 * c + (if s = [] then 1 else 0) ∧ dlS N c s z := fun z hz => by
      obtain ⟨_, ⟨g', z1⟩, z2⟩ := hz
      refine ⟨2 * (c / 10), ?_, c / 10, chD (c % 10) :: s, by rw [if_neg (by simp), Nat.add_zero], f', g', by rw [Nat.pow_succ] at hc; omega, by omega, by rw [List.length_cons]; omega, by rw [List.length_cons]; omega, fun h => by simp at h, ?_, z1, z2⟩
      · rw [hr]
        by_cases h0 : c = 0
        · have : s = [] := Decidable.of_not_not fun h => hx ⟨h0, h⟩
          rw [if_pos this]
          omega
        · omega
      · rw [hS, decF]
        by_cases h1 : c < 10
        · rw [if_pos h1, if_pos ⟨by omega, by simp⟩, Nat.mod_eq_of_lt h1]
          rfl
        · rw [if_neg h1, if_neg (fun h => by have := h.1; omega)]
          simp
    have hs19 : s.length ≤ 20 := by omega
    by_cases h0 : 0 < c
    · have hg := dgl_1 (c : Nat) s g
      rw [et, ed, ew, ep] at hg
      refine (goesT_runs (s0 := sc) hT hg (okCons (decide_eq_true (by rw [List.length_singleton]; omega)) (okCons (decide_eq_true ⟨by omega, by omega, by omega⟩) (okCons (by decide) (okCons (by decide) (okL1 (decide_eq_true (by omega)))))))).mono fun e z he => ?_
      obtain ⟨rfl, he⟩ := he
      exact fin z ⟨rfl, he⟩
    · have hs0 : s = [] := Decidable.of_not_not fun h => hx ⟨by omega, h⟩
      have hg := dgl_0 (c : Nat) s g
      rw [et, ed, ew, ep] at hg
      refine (goesT_runs (s0 := sc) hT hg (okCons (decide_eq_true (by rw [List.length_singleton]; omega)) (okCons (decide_eq_true ⟨by omega, by omega, by omega⟩) (okCons (by decide) (okCons (by decide) (okCons (by rw [bs_eqR]; exact decide_eq_true hs0) (okL1 (decide_eq_false (by omega))))))))).mono fun e z he => ?_
      obtain ⟨rfl, he⟩ := he
      exact fin z ⟨rfl, he⟩
theorem digl_calls (n : Int) (hn : 0 ≤ n ∧ n < 18446744073709551616) (w : World) : Calls Tryz.prog 12 #[.int .u64 n] w fun r w' => r = .returned (bR (dcL n.toNat)) ∧ Tidy w w' := by
  have hT := tabY_ok conN_ok
  refine calls_of_runs (T := (tabOf Tryz.prog extY conN true)) Tryz.func12 dig_body (by rfl) (by rfl) ?_ w
  obtain ⟨N, rfl⟩ : ∃ N : Nat, n = (N : Int) := ⟨n.toNat, by omega⟩
  rw [Int.toNat_natCast]
  refine goesT_list hT (dgl_pre (N : Nat)) okN9R fun g => ?_
  refine Runs.seq (P1 := fun e y => match e with | none => dlS N 0 (decF 20 N) y ∧ decF 20 N ≠ [] | some none => False | some (some _) => False) (Runs.forLoop (R := fun _ => False) (P := fun y => dlS N 0 (decF 20 N) y ∧ decF 20 N ≠ []) (fun r y => ∃ c s, r = 2 * c + (if s = [] then 1 else 0) ∧ dlS N c s y) dl_round (n := 2 * N + 1) ⟨N, [], rfl, 20, g, dcL_lt (by omega), by omega, by simp, by omega, by omega, by rw [if_neg (by simp), List.append_nil], rfl, rfl⟩) ?_ (fun e y he => by match e, he with | none, he => exact he.elim | some _, he => exact he.elim)
  rintro ⟨t, hh, sc⟩ ⟨⟨f, g', _, _, _, _, _, _, e1, e2⟩, _⟩
  simp only at e1 e2
  subst e1 e2
  refine (goesT_runs (s0 := sc) hT (dgl_e ((0 : Nat) : Int) (decF 20 N) g') okN9R).mono fun e z he => ?_
  obtain ⟨rfl, ⟨g2, z1⟩, z2⟩ := he
  exact ⟨.inr rfl, by rw [z1, z2]; rfl⟩
def gDgL : Ans := fun vals s =>
  match vals with
  | [.int .u64 n] => some (bR (dcL n.toNat), s, [(decide (0 ≤ n ∧ n < 18446744073709551616), true)])
  | _ => none
theorem gDgL_ok : AnsOk 12 gDgL := by
  intro vals s v s' lg h hl w
  unfold gDgL at h
  split at h
  · cases h
    exact digl_calls _ (of_decide_eq_true (hl _ (List.mem_singleton.2 rfl))) w
  · cases h
end Go.Proofs.YtjlponbdflkbjaaGreatDoor
namespace Go.Rd
open Go.Rn
/-! ### letters that are no x -/
theorem no_all {A : List UInt8} (h : allB 10 A = true) : ∀ d ∈ A, d ≠ 120 := by
  intro d hd h0
  unfold allB at h
  rw [List.all_eq_true] at h
  have := digit_letter (of_decide_eq_true (h d hd))
  rw [h0] at this
  exact absurd this.2 (by decide)
theorem no_app {A B : List UInt8} (hA : ∀ d ∈ A, d ≠ 120) (hB : ∀ d ∈ B, d ≠ 120) : ∀ d ∈ A ++ B, d ≠ 120 := fun d hd => (List.mem_append.1 hd).elim (hA d) (hB d)
/-! ### the four shapes -/
theorem scA_of {b : Int} {v D : List UInt8} {k : Nat} {r : List UInt8} (h : sc1 b false v = (D, k, r)) (hD : D ≠ []) : scA b v = scE b r := by
  unfold scA
  rw [h]
  dsimp only
  rw [if_neg hD]
theorem rdx_w (m : Int) (n : Bool) {A : List UInt8} (hA : allB 10 A = true) (h0 : A ≠ []) : rdQ m n 10 A = rdN m n (nmB 10 A) 0 := by
  have e : sc1 10 false A = (A, 0, []) := by
    have := sc1_app hA false []
    rw [List.append_nil, sc1_nil] at this
    rw [this]
    simp
  have ea := scA_of e h0
  have er : scE 10 [] = (0, true) := rfl
  rw [er] at ea
  rw [rdQ_dec (by rw [ea]), ea, e]
  rfl
/-- a text whose first letter is a digit, with and without a minus -/
theorem rdP_digits (m : Int) {A t : List UInt8} (hA : allB 10 A = true) (h0 : A ≠ []) (ht : ∀ d ∈ t, d ≠ 120) (hl : (A ++ t).length ≤ 65000) : rdP m (A ++ t) = rdQ m false 10 (A ++ t) ∧ rdP m (45 :: (A ++ t)) = rdQ m true 10 (A ++ t) := by
  cases A with
  | nil => exact absurd rfl h0
  | cons c A =>
    have hn := no_all hA
    unfold allB at hA
    rw [List.all_cons, Bool.and_eq_true] at hA
    have hc := digit_letter (of_decide_eq_true hA.1)
    have hr : ∀ d ∈ A ++ t, d ≠ 120 := no_app (fun d hd => hn d (List.mem_cons_of_mem _ hd)) ht
    rw [List.cons_append] at hl ⊢
    exact ⟨rdP_lead (by omega) (sgT_digit hc) hc hr, rdP_lead (by rw [List.length_cons]; omega) (sgT_minus _) hc hr⟩
/-! ### the laws -/
theorem dcL_num {n : Nat} (h : n < 18446744073709551616) : nmB 10 (dcL n) = n := decF_num (dcL_lt h)
theorem dcL_all (n : Nat) : allB 10 (dcL n) = true := decF_all 20 n 10
theorem dcL_len (n : Nat) : (dcL n).length ≤ 20 := decF_len 20 n
theorem expL_len (x : Int) : (expL x).length ≤ 21 := by
  unfold expL
  split
  · rw [List.length_cons]; have := dcL_len x.natAbs; omega
  · have := dcL_len x.natAbs; omega
/-- ReadWholes -/
theorem wholes_ok (m : Int) {n : Nat} (hn : n < 18446744073709551616) : rdP m (dcL n) = (rnP m false n 0, rnF m false n 0, 0) := by
  have h := rdP_digits m (dcL_all n) (dcL_ne n) (t := []) (fun d hd => by cases hd) (by rw [List.append_nil]; have := dcL_len n; omega)
  rw [List.append_nil] at h
  rw [h.1, rdx_w m false (dcL_all n) (dcL_ne n), dcL_num hn]
  unfold rdN
  by_cases h0 : n = 0
  · rw [if_pos h0, h0]
    unfold rnP rnF
    rfl
  · rw [if_neg h0, (de_zero m false n).1, (de_zero m false n).2]
    rfl
/-! ### with the other sign -/
end Go.Rd
namespace Go.Proofs.YtjlponbdflkbjaaGreatDoor
open Go.KRun Go.Nt Go.Rd Go.Rn
set_option maxRecDepth 100000
def conRL : Con := alt 9 gPR (alt 12 gDgL conN)
theorem conRL_ok : ConOk conRL := alt_ok Tryz.func9 rfl gPR_ok (alt_ok Tryz.func12 rfl gDgL_ok conN_ok)
def tx01 : List UInt8 := [48, 46, 49]
def tx16 : List UInt8 := [48, 120, 49, 112, 45, 49, 48, 55, 52]
theorem sure13 : Fits (reckon (tabOf Tryz.prog extY conRL true) 300 8 [] [cmp true, cmp true, cmp true, cmp true, cmp true, cmp true]) (.bool true) [((rdP 4 tx16).2.1 == 0, true), ((rdP 4 tx16).1 == 1, true), ((rdP 0 tx01).2.1 == 16, true), ((rdP 0 tx01).1 == 4591870180066957722, true), (decide ((rdP 4 tx16).2.2 = 0), true), (okTx tx16, true), (decide ((rdP 0 tx01).2.2 = 0), true), (okTx tx01, true)] := ⟨by kernel_rfl, by kernel_rfl, by kernel_rfl, by kernel_rfl⟩
theorem tx01_read : rdP 0 tx01 = (4591870180066957722, 16, 0) := by kernel_rfl
theorem tx16_read : rdP 4 tx16 = (1, 0, 0) := by kernel_rfl
def gSure13 : Ans := fun vals s => match vals with | [] => some (.bool true, s, []) | _ => none
theorem gSure13_ok : AnsOk 8 gSure13 := by
  intro vals s v s' lg h hl w
  unfold gSure13 at h
  split at h
  · cases h
    exact fits_calls (tabY_ok conRL_ok) sure13 (okCons (by rw [tx16_read]; rfl) (okCons (by rw [tx16_read]; rfl) (okCons (by rw [tx01_read]; rfl) (okCons (by rw [tx01_read]; rfl) (okCons (by rw [tx16_read]; rfl) (okCons (by rfl) (okCons (by rw [tx01_read]; rfl) (okL1 (by rfl)))))))) ) (by rfl) (by rfl) w
  · cases h
def conRM : Con := alt 8 gSure13 conRL
theorem conRM_ok : ConOk conRM := alt_ok Tryz.func8 rfl gSure13_ok conRL_ok
theorem wrapU9 {n : Int} (h : 0 ≤ n) (h1 : n < 18446744073709551616) : IntKind.u64.wrap n = n := by
  simp [IntKind.wrap, IntKind.bits, IntKind.signed]
  omega
end Go.Proofs.YtjlponbdflkbjaaGreatDoor
namespace Go.Rn
open Go.Nt Go.Wd Go.Pt
/-! ### patterns and their numbers, in one order -/
theorem mag_self {p : Int} (h0 : 0 ≤ p) (h1 : p < 9223372036854775808) : mag p = p := by unfold mag; omega
theorem fin_small {p : Int} (h0 : 0 ≤ p) (h1 : p < 9218868437227405312) : ex p ≠ 2047 := by unfold ex; omega
theorem uV_lt {p q : Int} (hp : 0 ≤ p) (hpq : p < q) (hq : q < 9218868437227405312) : uV p < uV q := by
  rcases Nat.lt_or_ge (uV p) (uV q) with h | h
  · exact h
  · exfalso
    obtain ⟨a1, _⟩ := own_uV (m := 0) (n := false) (fin_small (p := p) hp (by omega))
    obtain ⟨b1, _⟩ := own_uV (m := 0) (n := false) (fin_small (p := q) (by omega) hq)
    have := rnP_mono (m := 0) (neg := false) (E := -1074) h
    rw [a1, b1, mag_self hp (by omega), mag_self (by omega) (by omega)] at this
    omega
theorem uV_le {p q : Int} (hq0 : 0 ≤ q) (hp : p < 9218868437227405312) (h : uV p ≤ uV q) : p ≤ q := by
  rcases Int.lt_or_le q p with hc | hc
  · have := uV_lt hq0 hc hp; omega
  · exact hc
theorem mag_lt2 (p : Int) : 0 ≤ mag p ∧ mag p < 9223372036854775808 := by unfold mag; omega
/-- few bits, at a unit that patterns have: nothing is rounded -/
theorem few_exact {D : Nat} {E : Int} (hE : -1074 ≤ E) (hD : D < 9007199254740992) {b : Int} (hb : ex b ≠ 2047) (hle : D * 2 ^ (E + 1074).toNat ≤ uV b) (m : Int) (n : Bool) :
    rnF m n D E = 0 ∧ rnP m n D E = rnP 0 false (D * 2 ^ (E + 1074).toNat) (-1074) ∧ 0 ≤ rnP m n D E ∧ rnP m n D E ≤ mag b ∧ uV (rnP m n D E) = D * 2 ^ (E + 1074).toNat := by
  have sp := rnP_scale m n D (E + 1074).toNat E
  have sf := rnF_scale m n D (E + 1074).toNat E
  rw [show E - ((E + 1074).toNat : Int) = -1074 by omega] at sp sf
  obtain ⟨N, hN⟩ : ∃ N, N = D * 2 ^ (E + 1074).toNat := ⟨_, rfl⟩
  rw [← hN] at sp sf hle ⊢
  have ob := own_uV (m := 0) (n := false) hb
  have mb := mag_lt2 b
  by_cases hz : D = 0
  · have hN0 : N = 0 := by rw [hN, hz, Nat.zero_mul]
    have p0' : rnP m n D E = 0 := by unfold rnP; rw [if_pos hz]
    have f0' : rnF m n D E = 0 := by unfold rnF; rw [if_pos hz]
    have q0 : rnP 0 false N (-1074) = 0 := by unfold rnP; rw [if_pos hN0]
    rw [p0', f0', q0, hN0]
    exact ⟨rfl, rfl, by omega, by omega, by decide⟩
  · have hU : uV b ≠ 0 := by
      have : 0 < 2 ^ (E + 1074).toNat := Nat.pow_pos (by omega)
      have : 0 < N := by rw [hN]; exact Nat.mul_pos (by omega) this
      omega
    have hpb : p0 0 false (uV b) (-1074) < 9218868437227405312 := (rn_num hU (.inl ob.2)).1
    have hF : ∀ m n, rnF m n D E = 0 := fun m n => by
      have hD2 : D ≤ N := by rw [hN]; exact Nat.le_mul_of_pos_right _ (Nat.pow_pos (by omega))
      have hk : p0 0 false (D) E < 9218868437227405312 := by
        have e := p0_scale (T := D) hz 0 false (E + 1074).toNat E
        rw [show E - ((E + 1074).toNat : Int) = -1074 by omega, ← hN] at e
        rw [← e]
        have := p0_mono (m := 0) (neg := false) (E := -1074) (T := N) (U := uV b) (by rw [hN]; exact Nat.mul_ne_zero hz (Nat.ne_of_gt (Nat.pow_pos (by omega)))) hle
        omega
      exact few_bits (k := 0) (s := false) (A := D) hE hD (Nat.le_refl _) hk
    have f1 := hF m n
    have f2 : rnF m n N (-1074) = 0 := by rw [sf]; exact f1
    have f3 : rnF 0 false N (-1074) = 0 := by
      have := rnF_scale 0 false D (E + 1074).toNat E
      rw [show E - ((E + 1074).toNat : Int) = -1074 by omega, ← hN] at this
      rw [this]
      exact hF 0 false
    obtain ⟨b1, b2⟩ := back_uV f2
    obtain ⟨c1, c2⟩ := back_uV f3
    have n0 := (rnP_bd m n N (-1074)).1
    have n1 := (rnP_bd 0 false N (-1074)).1
    have same : rnP m n N (-1074) = rnP 0 false N (-1074) := by
      have h1 := uV_le n1 b1 (Nat.le_of_eq (b2.trans c2.symm))
      have h2 := uV_le n0 c1 (Nat.le_of_eq (c2.trans b2.symm))
      omega
    have mono := rnP_mono (m := 0) (neg := false) (E := -1074) hle
    rw [ob.1] at mono
    rw [← sp]
    exact ⟨f1, same, n0, by rw [same]; exact mono, b2⟩
/-! ### rests -/
/-! ### rounded to a whole number -/
/-- times a power of two: rounded -/
def scP (m a n : Int) : Int := rnP m (sgn a) (sg a).toNat (xp a + n)
def scF (m a n : Int) : Int := rnF m (sgn a) (sg a).toNat (xp a + n)
end Go.Rn
namespace Go.Proofs.YtjlponbdflkbjaaGreatDoor
open Go.KRun Go.Wd Go.Pt Go.Rn
set_option maxRecDepth 100000
def conK0 : Con := alt 82 (g1 lenV4) conG0
theorem conK0_ok : ConOk conK0 := alt_ok Tryz.func82 rfl (g1_ok wlen_calls) conG0_ok
def sE9 (a n : Int) : Int := IntKind.i64.wrap (xp a + if 4096 < (if -4096 > n then -4096 else n) then 4096 else (if -4096 > n then -4096 else n))
theorem sc_n1 (a n m : Int) : Fits (reckon (tabOf Tryz.prog extY conK0 true) 300 14 [.int .u64 a, .int .i64 n, .int .i64 m] [cmp true, cmp false]) (rdT 9221120237041090560 0) [(cl a == 5, false), lU a, (cl a == 4, true), lU a] := ⟨by kernel_rfl, by kernel_rfl, by kernel_rfl, by kernel_rfl⟩
theorem sc_n2 (a n m : Int) : Fits (reckon (tabOf Tryz.prog extY conK0 true) 300 14 [.int .u64 a, .int .i64 n, .int .i64 m] [cmp false, cmp true, cmp true]) (rdT 9221120237041090560 1) [(cl a == 5, true), lU a, (cl a == 5, true), (cl a == 4, false), lU a] := ⟨by kernel_rfl, by kernel_rfl, by kernel_rfl, by kernel_rfl⟩
theorem sc_z (a n m : Int) : Fits (reckon (tabOf Tryz.prog extY conK0 true) 300 14 [.int .u64 a, .int .i64 n, .int .i64 m] [cmp false, cmp false, cmp true]) (rdT a 0) [(cl a == 0, true), (cl a == 5, false), (cl a == 4, false), lU a] := ⟨by kernel_rfl, by kernel_rfl, by kernel_rfl, by kernel_rfl⟩
theorem sc_e (a n m : Int) : Fits (reckon (tabOf Tryz.prog extY conK0 true) 300 14 [.int .u64 a, .int .i64 n, .int .i64 m] [cmp false, cmp false, cmp false, cmp true]) (rdT a 0) [(cl a == 3, true), (cl a == 0, false), (cl a == 5, false), (cl a == 4, false), lU a] := ⟨by kernel_rfl, by kernel_rfl, by kernel_rfl, by kernel_rfl⟩
theorem sc_f (a n m : Int) : Fits (reckon (tabOf Tryz.prog extY conK0 true) 300 14 [.int .u64 a, .int .i64 n, .int .i64 m] [cmp false, cmp false, cmp false, cmp false, cmp true]) (rdV m (sgn a) (tw (wSg a) false) (clp (sE9 a n) - 1)) [(decide (wSg a).ok, true), lU a, (decide (cl a ≤ 2), true), lU a, (cl a == 3, false), (cl a == 0, false), (cl a == 5, false), (cl a == 4, false), lU a] := ⟨by kernel_rfl, by kernel_rfl, by kernel_rfl, by kernel_rfl⟩
/-- a power of two, within bounds -/
def kN9 (n : Int) : Int := if 9000 < (if -9000 > n then -9000 else n) then 9000 else (if -9000 > n then -9000 else n)
def nanF (a : Int) : Int := if cl a = 5 then 1 else 0
/-- what Scale answers -/
def scaP (m a n : Int) : Int := if 3 < cl a then 9221120237041090560 else if cl a = 0 ∨ cl a = 3 then a else sS (sgn a) (scP m a (kN9 n))
def scaF (m a n : Int) : Int := if 3 < cl a then nanF a else if cl a = 0 ∨ cl a = 3 then 0 else scF m a (kN9 n)
theorem scale_calls (a n m : Int) (ha : U a) (w : World) : Calls Tryz.prog 14 #[.int .u64 a, .int .i64 n, .int .i64 m] w fun r w' => r = .returned (rdT (scaP m a n) (scaF m a n)) ∧ Tidy w w' := by
  have hv : ([.int .u64 a, .int .i64 n, .int .i64 m].all (lt 0)) = true := rfl
  have T := tabY_ok conK0_ok
  have ka : decide (U a) = true := decide_eq_true ha
  have ba := cl_bd a
  have xa := xp_bd a
  unfold scaP scaF nanF
  by_cases ha3 : 3 < cl a
  · rw [if_pos ha3, if_pos ha3]
    by_cases a5 : cl a = 5
    · rw [if_pos a5]
      exact fits_calls T (sc_n2 a n m) (okCons (beq_t (by omega)) (okCons ka (okCons (beq_t (by omega)) (okCons (beq_f (by omega)) (okL1 ka))))) hv (by rfl) w
    · rw [if_neg a5]
      exact fits_calls T (sc_n1 a n m) (okCons (beq_f (by omega)) (okCons ka (okCons (beq_t (by omega)) (okL1 ka)))) hv (by rfl) w
  rw [if_neg ha3, if_neg ha3]
  by_cases a0 : cl a = 0
  · rw [if_pos (.inl a0), if_pos (.inl a0)]
    exact fits_calls T (sc_z a n m) (okCons (beq_t (by omega)) (okCons (beq_f (by omega)) (okCons (beq_f (by omega)) (okL1 ka)))) hv (by rfl) w
  by_cases a3 : cl a = 3
  · rw [if_pos (.inr a3), if_pos (.inr a3)]
    exact fits_calls T (sc_e a n m) (okCons (beq_t (by omega)) (okCons (beq_f (by omega)) (okCons (beq_f (by omega)) (okCons (beq_f (by omega)) (okL1 ka))))) hv (by rfl) w
  rw [if_neg (by omega), if_neg (by omega)]
  have hf := sc_f a n m
  have hw : sE9 a n = xp a + if 4096 < (if -4096 > n then -4096 else n) then 4096 else (if -4096 > n then -4096 else n) := by
    unfold sE9
    apply wrapI'
    constructor <;> split <;> split <;> omega
  have hr := rd_w9 m (sgn a) (wSg_ok a) (C := sE9 a n) (D := xp a + kN9 n) (by
    rw [hw]
    unfold kN9
    split <;> split <;> split <;> split <;> omega)
  rw [hr, wSg_nat] at hf
  exact fits_calls T hf (okCons (decide_eq_true (wSg_ok a)) (okCons ka (okCons (decide_eq_true (by omega)) (okCons ka (okCons (beq_f (by omega)) (okCons (beq_f (by omega)) (okCons (beq_f (by omega)) (okCons (beq_f (by omega)) (okL1 ka))))))))) hv (by rfl) w
def gKS : Ans := fun vals s =>
  match vals with
  | [.int .u64 a, .int .i64 n, .int .i64 m] => some (rdT (scaP m a n) (scaF m a n), s, [(decide (U a), true)])
  | _ => none
theorem gKS_ok : AnsOk 14 gKS := by
  intro vals s v s' lg h hl w
  unfold gKS at h
  split at h
  · cases h
    exact scale_calls _ _ _ (of_decide_eq_true (hl _ (List.mem_singleton.2 rfl))) w
  · cases h
def wOne (s : Int) : W4 := ⟨s, 0, 0, 0⟩
def opP (m k : Int) : Int := sS false (rnP m false k.toNat 0)
def opF (m k : Int) : Int := rnF m false k.toNat 0
theorem op_1 (k m : Int) : Fits (reckon (tabOf Tryz.prog extY conG0 true) 300 13 [.int .u64 k, .int .i64 m] []) (rdV m false (tw (wOne k) false) (clp 0 - 1)) [(decide (wOne k).ok, true)] := ⟨by kernel_rfl, by kernel_rfl, by kernel_rfl, by kernel_rfl⟩
theorem one_ok {k : Int} (h : U k) : (wOne k).ok := (w1_nat h.1 h.2).1
theorem one_rd {k : Int} (h : U k) (m : Int) (n : Bool) : rdV m n (tw (wOne k) false) (clp 0 - 1) = rdT (sS n (rnP m n k.toNat 0)) (rnF m n k.toNat 0) := by
  have e : (wOne k).nat = k.toNat := (w1_nat h.1 h.2).2
  rw [rd_w9 m n (one_ok h) (C := 0) (D := 0) (.inl rfl), e]
theorem op_calls (k m : Int) (hk : U k) (w : World) : Calls Tryz.prog 13 #[.int .u64 k, .int .i64 m] w fun r w' => r = .returned (rdT (opP m k) (opF m k)) ∧ Tidy w w' := by
  have T := tabY_ok conG0_ok
  have hv : ([.int .u64 k, .int .i64 m].all (lt 0)) = true := rfl
  have o := one_ok hk
  have hf := op_1 k m
  rw [one_rd hk] at hf
  exact fits_calls T hf (okL1 (decide_eq_true o)) hv (by rfl) w
def gOp : Ans := fun vals s =>
  match vals with
  | [.int .u64 k, .int .i64 m] => some (rdT (opP m k) (opF m k), s, [(decide (U k), true)])
  | _ => none
theorem gOp_ok : AnsOk 13 gOp := by
  intro vals s v s' lg h hl w
  unfold gOp at h
  split at h
  · cases h
    exact op_calls _ _ (of_decide_eq_true (hl _ (List.mem_singleton.2 rfl))) w
  · cases h
end Go.Proofs.YtjlponbdflkbjaaGreatDoor
namespace Go.Rd
open Go.Rn Go.Pt
def chH (d : Nat) : UInt8 := UInt8.ofNat (if d < 10 then 48 + d else 87 + d)
def hxF : Nat → Nat → List UInt8
  | 0, _ => []
  | f + 1, n => if n < 16 then [chH n] else hxF f (n / 16) ++ [chH (n % 16)]
theorem chH_dg {d : Nat} (h : d < 16) : dgvR (lq8 (chH d)) 16 = (d : Int) := by
  have key : ∀ x : Fin 16, dgvR (lq8 (chH x.1)) 16 = (x.1 : Int) := by decide
  exact key ⟨d, h⟩
theorem hx_part {d : Nat} (h : d < 16) : (([48, 49, 50, 51, 52, 53, 54, 55, 56, 57, 97, 98, 99, 100, 101, 102] : List UInt8).drop d).take 1 = [chH d] := by
  have key : ∀ x : Fin 16, (([48, 49, 50, 51, 52, 53, 54, 55, 56, 57, 97, 98, 99, 100, 101, 102] : List UInt8).drop x.1).take 1 = [chH x.1] := by decide
  exact key ⟨d, h⟩
theorem hxF_all (f n : Nat) : allB 16 (hxF f n) = true := by
  induction f generalizing n with
  | zero => rfl
  | succ f ih =>
    unfold hxF
    split
    · rename_i h
      unfold allB
      rw [List.all_cons, chH_dg h, decide_eq_true (by omega)]
      rfl
    · unfold allB
      rw [List.all_append]
      have := ih (n / 16)
      unfold allB at this
      rw [this, List.all_cons, chH_dg (show n % 16 < 16 by omega), decide_eq_true (by omega)]
      rfl
theorem hxF_num {f n : Nat} (h : n < 16 ^ f) : nmB 16 (hxF f n) = n := by
  induction f generalizing n with
  | zero =>
    have : n = 0 := by simpa using h
    rw [this]
    rfl
  | succ f ih =>
    unfold hxF
    split
    · rename_i h1
      show (0 * (16 : Int).toNat + (dgvR (lq8 (chH n)) 16).toNat) = n
      rw [chH_dg h1]
      omega
    · rw [nmB_snoc, ih (by rw [Nat.pow_succ] at h; omega), chH_dg (show n % 16 < 16 by omega), show (16 : Int).toNat = 16 from rfl]
      omega
theorem hxF_len (f n : Nat) : (hxF f n).length ≤ f := by
  induction f generalizing n with
  | zero => exact Nat.le_refl _
  | succ f ih =>
    unfold hxF
    split
    · rw [List.length_singleton]; omega
    · rw [List.length_append, List.length_singleton]
      have := ih (n / 16)
      omega
theorem hxF_ne (f n : Nat) : hxF (f + 1) n ≠ [] := by
  unfold hxF
  split <;> simp
/-- digits of base 16, with a power of two -/
theorem hexrd_ok (m : Int) {f n : Nat} (hn : n < 16 ^ (f + 1)) (hf : f ≤ 1000) {k : Int} (hk : k.natAbs ≤ 2000000) : rdP m (48 :: 120 :: (hxF (f + 1) n ++ 112 :: expL k)) = (rnP m false n k, rnF m false n k, 0) := by
  have ha := hxF_all (f + 1) n
  have h0 := hxF_ne f n
  have hl := hxF_len (f + 1) n
  have hx := expL_len k
  have es : sc1 16 false (112 :: expL k) = ([], 0, 112 :: expL k) := sc1_stop (by decide) (by decide)
  have e : sc1 16 false (hxF (f + 1) n ++ 112 :: expL k) = (hxF (f + 1) n, 0, 112 :: expL k) := by
    rw [sc1_app ha, es]
    simp
  have ea := scA_of e h0
  rw [scE_exp (.inr rfl) ⟨fun h => absurd h (by decide), fun _ => rfl⟩ hk] at ea
  have eq : rdP m (48 :: 120 :: (hxF (f + 1) n ++ 112 :: expL k)) = rdQ m false 16 (hxF (f + 1) n ++ 112 :: expL k) := by
    unfold rdP
    rw [if_neg (by simp only [List.length_cons, List.length_append]; omega), sgT_digit (by decide)]
    dsimp only
    rw [if_neg (fun h => by cases h), if_neg (fun h => by cases h)]
    have eb : rdB (48 :: 120 :: (hxF (f + 1) n ++ 112 :: expL k)) = (16, hxF (f + 1) n ++ 112 :: expL k) := by
      unfold rdB
      rw [if_pos ⟨by simp, by rfl⟩]
      rfl
    rw [eb]
  rw [eq]
  unfold rdQ
  rw [ea, e]
  dsimp only
  rw [if_neg (by decide)]
  by_cases hz : trZ (hxF (f + 1) n) = []
  · have n0 : n = 0 := by rw [← hxF_num hn]; exact (trZ_nil (.inr rfl) ha).1 hz
    rw [if_pos hz, n0]
    unfold rnP rnF
    rfl
  · rw [if_neg hz]
    unfold dnA
    rw [if_pos rfl]
    dsimp only
    rw [nmB_trZ, hxF_num hn, if_neg (by decide)]
    congr 2 <;> simp
/-- a whole number of 53 bits, as a pattern, times a power of two -/
theorem small_pat (m : Int) {n : Nat} (h : n < 9007199254740992) : rnF m false n 0 = 0 ∧ 0 ≤ rnP m false n 0 ∧ rnP m false n 0 ≤ 4845873199050653696 ∧ (∀ k : Int, rnP m false (sg (rnP m false n 0)).toNat (xp (rnP m false n 0) + k) = rnP m false n k ∧ rnF m false (sg (rnP m false n 0)).toNat (xp (rnP m false n 0) + k) = rnF m false n k) ∧ (rnP m false n 0 = 0 ↔ n = 0) := by
  obtain ⟨J, hJ⟩ : ∃ J : Nat, J = 1074 := ⟨_, rfl⟩
  have e1 : xp 4845873199050653696 = 1 := by decide
  have e2 : (sg 4845873199050653696).toNat = 4503599627370496 := by decide
  have hle : n * 2 ^ (0 + 1074 : Int).toNat ≤ uV 4845873199050653696 := by
    unfold uV szF
    rw [e1, e2, show (0 + 1074 : Int).toNat = J by omega, show (1 - -1074 : Int).toNat = J + 1 by omega, Nat.pow_succ]
    have := Nat.mul_le_mul_right (2 ^ J) (show n ≤ 9007199254740992 by omega)
    omega
  obtain ⟨a1, a2, a3, a4, a5⟩ := few_exact (D := n) (E := 0) (by omega) h (b := 4845873199050653696) (by decide) hle m false
  have e3 : mag 4845873199050653696 = 4845873199050653696 := by decide
  rw [e3] at a4
  rw [show (0 + 1074 : Int).toNat = J by omega] at a5
  obtain ⟨p, hp⟩ : ∃ p, p = rnP m false n 0 := ⟨_, rfl⟩
  rw [← hp] at a3 a4 a5 ⊢
  have xb := xp_bd p
  refine ⟨a1, a3, a4, fun k => ?_, ?_⟩
  · have s1 := rnP_scale m false (sg p).toNat (xp p - -1074).toNat (xp p + k)
    have s2 := rnF_scale m false (sg p).toNat (xp p - -1074).toNat (xp p + k)
    have t1 := rnP_scale m false n J k
    have t2 := rnF_scale m false n J k
    unfold uV szF at a5
    rw [a5, show xp p + k - (((xp p - -1074).toNat : Nat) : Int) = k - (J : Int) by omega] at s1 s2
    exact ⟨s1.symm.trans t1, s2.symm.trans t2⟩
  · constructor
    · intro h0
      have hu : uV p = 0 := by rw [h0]; decide
      rw [hu] at a5
      rcases Nat.mul_eq_zero.1 a5.symm with h1 | h1
      · exact h1
      · exact absurd h1 (Nat.ne_of_gt (Nat.pow_pos (by omega)))
    · intro h0
      rw [hp, h0]
      unfold rnP
      rfl
end Go.Rd
