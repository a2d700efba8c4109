/-
  SuB, PatA, GnW, NumH, GnA, SuC, Con4
-/
import Derived.Test.YtjkgnbdeklploaaGreatDoorG12
namespace Go.Proofs.YtjkgnbdeklploaaGreatDoor
open Go.KRun Go.Wd Go.Pt Go.Rn
set_option maxRecDepth 100000
def uE (Ex : Int) (X : W4) (Ey : Int) (Y : W4) : Int := IntKind.i64.wrap ((if topN Ey Y.nat > topN Ex X.nat then topN Ey Y.nat else topN Ex X.nat) - 254)
def eX (Ex : Int) (X : W4) (Ey : Int) (Y : W4) : W4 := ofN (iuQ Ex (uE Ex X Ey Y) X.nat)
def eY (Ex : Int) (X : W4) (Ey : Int) (Y : W4) : W4 := ofN (iuQ Ey (uE Ex X Ey Y) Y.nat)
def xbX (Ex : Int) (X : W4) (Ey : Int) (Y : W4) : Bool := iuB Ex (uE Ex X Ey Y) X.nat
def xbY (Ex : Int) (X : W4) (Ey : Int) (Y : W4) : Bool := iuB Ey (uE Ex X Ey Y) Y.nat
def lIu (X : W4) (Ex u : Int) : Bool × Bool := (okIu X Ex u, true)
def lEx (X Y : W4) (Ex Ey : Int) : Log := [lIu Y Ey (uE Ex X Ey Y), lIu X Ex (uE Ex X Ey Y), lIu Y Ey (uE Ex X Ey Y), lIu Y Ey (uE Ex X Ey Y), lIu X Ex (uE Ex X Ey Y), lIu Y Ey (uE Ex X Ey Y), lIu X Ex (uE Ex X Ey Y), lIu Y Ey (uE Ex X Ey Y), lIu Y Ey (uE Ex X Ey Y), lIu X Ex (uE Ex X Ey Y), lIu Y Ey (uE Ex X Ey Y), lIu Y Ey (uE Ex X Ey Y), lIu Y Ey (uE Ex X Ey Y), lIu Y Ey (uE Ex X Ey Y), lIu Y Ey (uE Ex X Ey Y), lIu X Ex (uE Ex X Ey Y), (okTp Y Ey, true), (okTp X Ex, true), (mayB Ey Y false, true), (decide Y.ok, true), (mayB Ex X false, true), (decide X.ok, true)]
theorem ex_sff (X Y : W4) (Ex Ey m : Int) : Fits (reckon (tabOf Tryz.prog extY conSu true) 300 103 [vN false Ex X false, vN false Ey Y false, .int .i64 m] [cmp true, cmp true]) (.tuple #[vN false (uE Ex X Ey Y) (ofN ((eX Ex X Ey Y).nat + (eY Ex X Ey Y).nat)) ((xbX Ex X Ey Y) || (xbY Ex X Ey Y)), .nilIface]) ((decide ((eX Ex X Ey Y).ok ∧ (eY Ex X Ey Y).ok), true) :: lEx X Y Ex Ey) := ⟨by kernel_rfl, by kernel_rfl, by kernel_rfl, by kernel_rfl⟩
theorem ex_gft (X Y : W4) (Ex Ey m : Int) : Fits (reckon (tabOf Tryz.prog extY conSu true) 300 103 [vN false Ex X false, vN true Ey Y false, .int .i64 m] [cmp true, cmp true, num 1]) (.tuple #[vN false (uE Ex X Ey Y) (ofN (apQ (eX Ex X Ey Y).nat (eY Ex X Ey Y).nat (xbY Ex X Ey Y))) ((xbX Ex X Ey Y) || (xbY Ex X Ey Y)), .nilIface]) ((decide ((eX Ex X Ey Y).ok ∧ (eY Ex X Ey Y).ok ∧ (eY Ex X Ey Y).nat < (eX Ex X Ey Y).nat), true) :: (decide ((eX Ex X Ey Y).ok ∧ (eY Ex X Ey Y).ok), true) :: (decide (cmpI (eX Ex X Ey Y) (eY Ex X Ey Y) = 1), true) :: lEx X Y Ex Ey) := ⟨by kernel_rfl, by kernel_rfl, by kernel_rfl, by kernel_rfl⟩
theorem ex_lft (X Y : W4) (Ex Ey m : Int) : Fits (reckon (tabOf Tryz.prog extY conSu true) 300 103 [vN false Ex X false, vN true Ey Y false, .int .i64 m] [cmp true, cmp true, num (-1)]) (.tuple #[vN true (uE Ex X Ey Y) (ofN (apQ (eY Ex X Ey Y).nat (eX Ex X Ey Y).nat (xbX Ex X Ey Y))) ((xbY Ex X Ey Y) || (xbX Ex X Ey Y)), .nilIface]) ((decide ((eY Ex X Ey Y).ok ∧ (eX Ex X Ey Y).ok ∧ (eX Ex X Ey Y).nat < (eY Ex X Ey Y).nat), true) :: (decide ((eX Ex X Ey Y).ok ∧ (eY Ex X Ey Y).ok), true) :: (decide (cmpI (eX Ex X Ey Y) (eY Ex X Ey Y) = -1), true) :: lEx X Y Ex Ey) := ⟨by kernel_rfl, by kernel_rfl, by kernel_rfl, by kernel_rfl⟩
theorem ex_zft (X Y : W4) (Ex Ey m : Int) : Fits (reckon (tabOf Tryz.prog extY conSu true) 300 103 [vN false Ex X false, vN true Ey Y false, .int .i64 m] [cmp true, cmp true, num 0]) (.tuple #[vN (m == 4) (uE Ex X Ey Y) ⟨0, 0, 0, 0⟩ false, .nilIface]) ((decide ((eX Ex X Ey Y).ok ∧ (eY Ex X Ey Y).ok), true) :: (decide (cmpI (eX Ex X Ey Y) (eY Ex X Ey Y) = 0), true) :: lEx X Y Ex Ey) := ⟨by kernel_rfl, by kernel_rfl, by kernel_rfl, by kernel_rfl⟩
theorem ex_gtf (X Y : W4) (Ex Ey m : Int) : Fits (reckon (tabOf Tryz.prog extY conSu true) 300 103 [vN true Ex X false, vN false Ey Y false, .int .i64 m] [cmp true, cmp true, num 1]) (.tuple #[vN true (uE Ex X Ey Y) (ofN (apQ (eX Ex X Ey Y).nat (eY Ex X Ey Y).nat (xbY Ex X Ey Y))) ((xbX Ex X Ey Y) || (xbY Ex X Ey Y)), .nilIface]) ((decide ((eX Ex X Ey Y).ok ∧ (eY Ex X Ey Y).ok ∧ (eY Ex X Ey Y).nat < (eX Ex X Ey Y).nat), true) :: (decide ((eX Ex X Ey Y).ok ∧ (eY Ex X Ey Y).ok), true) :: (decide (cmpI (eX Ex X Ey Y) (eY Ex X Ey Y) = 1), true) :: lEx X Y Ex Ey) := ⟨by kernel_rfl, by kernel_rfl, by kernel_rfl, by kernel_rfl⟩
theorem ex_ltf (X Y : W4) (Ex Ey m : Int) : Fits (reckon (tabOf Tryz.prog extY conSu true) 300 103 [vN true Ex X false, vN false Ey Y false, .int .i64 m] [cmp true, cmp true, num (-1)]) (.tuple #[vN false (uE Ex X Ey Y) (ofN (apQ (eY Ex X Ey Y).nat (eX Ex X Ey Y).nat (xbX Ex X Ey Y))) ((xbY Ex X Ey Y) || (xbX Ex X Ey Y)), .nilIface]) ((decide ((eY Ex X Ey Y).ok ∧ (eX Ex X Ey Y).ok ∧ (eX Ex X Ey Y).nat < (eY Ex X Ey Y).nat), true) :: (decide ((eX Ex X Ey Y).ok ∧ (eY Ex X Ey Y).ok), true) :: (decide (cmpI (eX Ex X Ey Y) (eY Ex X Ey Y) = -1), true) :: lEx X Y Ex Ey) := ⟨by kernel_rfl, by kernel_rfl, by kernel_rfl, by kernel_rfl⟩
theorem ex_ztf (X Y : W4) (Ex Ey m : Int) : Fits (reckon (tabOf Tryz.prog extY conSu true) 300 103 [vN true Ex X false, vN false Ey Y false, .int .i64 m] [cmp true, cmp true, num 0]) (.tuple #[vN (m == 4) (uE Ex X Ey Y) ⟨0, 0, 0, 0⟩ false, .nilIface]) ((decide ((eX Ex X Ey Y).ok ∧ (eY Ex X Ey Y).ok), true) :: (decide (cmpI (eX Ex X Ey Y) (eY Ex X Ey Y) = 0), true) :: lEx X Y Ex Ey) := ⟨by kernel_rfl, by kernel_rfl, by kernel_rfl, by kernel_rfl⟩
theorem ex_stt (X Y : W4) (Ex Ey m : Int) : Fits (reckon (tabOf Tryz.prog extY conSu true) 300 103 [vN true Ex X false, vN true Ey Y false, .int .i64 m] [cmp true, cmp true]) (.tuple #[vN true (uE Ex X Ey Y) (ofN ((eX Ex X Ey Y).nat + (eY Ex X Ey Y).nat)) ((xbX Ex X Ey Y) || (xbY Ex X Ey Y)), .nilIface]) ((decide ((eX Ex X Ey Y).ok ∧ (eY Ex X Ey Y).ok), true) :: lEx X Y Ex Ey) := ⟨by kernel_rfl, by kernel_rfl, by kernel_rfl, by kernel_rfl⟩
/-! ### its numbers -/
theorem may_iff {E : Int} {X : W4} (_h : X.ok) : mayB E X false = true ↔ May E X.nat := by
  have hl : lenI X ≤ 128 ↔ X.nat < 2 ^ 128 := by
    rw [lenI_nat]
    constructor
    · intro h1
      exact Nat.lt_of_lt_of_le (bitLen_spec X.nat).1 (Nat.pow_le_pow_right (by omega) (by omega))
    · intro h1
      have := len_le h1
      omega
  unfold mayB May
  simp only [Bool.and_eq_true, decide_eq_true_eq, Bool.not_false, and_true, hl]
  exact ⟨fun ⟨⟨a, b⟩, c⟩ => ⟨a, b, c⟩, fun ⟨a, b, c⟩ => ⟨⟨a, b⟩, c⟩⟩
theorem top_bd {E : Int} {X : Nat} (h : May E X) : -100000 ≤ topN E X ∧ topN E X ≤ 100128 := by
  obtain ⟨a, b, c⟩ := h
  have := len_le a
  unfold topN
  split <;> omega
theorem un_bd {Ex Ey : Int} {X Y : Nat} (hX : May Ex X) (hY : May Ey Y) : -100254 ≤ unN Ex X Ey Y ∧ unN Ex X Ey Y ≤ 100128 := by
  have h1 := top_bd hX
  have h2 := top_bd hY
  unfold unN
  omega
theorem uE_eq {Ex Ey : Int} {X Y : W4} (hX : May Ex X.nat) (hY : May Ey Y.nat) : uE Ex X Ey Y = unN Ex X.nat Ey Y.nat := by
  have h1 := top_bd hX
  have h2 := top_bd hY
  have e : (if topN Ey Y.nat > topN Ex X.nat then topN Ey Y.nat else topN Ex X.nat) = max (topN Ex X.nat) (topN Ey Y.nat) := by split <;> omega
  unfold uE unN
  rw [e, wrapI' ⟨by omega, by omega⟩]
theorem cmpI_of {x y : W4} (hx : x.ok) (hy : y.ok) : (y.nat < x.nat → cmpI x y = 1) ∧ (x.nat < y.nat → cmpI x y = -1) ∧ (x.nat = y.nat → cmpI x y = 0) := by
  have e1 := W4.nat_val hx
  have e2 := W4.nat_val hy
  unfold cmpI
  refine ⟨fun h => ?_, fun h => ?_, fun h => ?_⟩
  · rw [if_neg (by omega), if_neg (by omega)]
  · rw [if_pos (by omega)]
  · rw [if_neg (by omega), if_pos (by omega)]
def xuV (m : Int) (nx : Bool) (Ex : Int) (X : W4) (ny : Bool) (Ey : Int) (Y : W4) : Value := vN (xuN m nx Ex X.nat ny Ey Y.nat) (unN Ex X.nat Ey Y.nat) (ofN (xuQ nx Ex X.nat ny Ey Y.nat)) (xuB nx Ex X.nat ny Ey Y.nat)
theorem exact_calls (nx ny : Bool) (X Y : W4) (Ex Ey m : Int) (hX : X.ok) (hY : Y.ok) (mX : mayB Ex X false = true) (mY : mayB Ey Y false = true) (w : World) : Calls Tryz.prog 103 #[vN nx Ex X false, vN ny Ey Y false, .int .i64 m] w fun r w' => r = .returned (.tuple #[xuV m nx Ex X ny Ey Y, .nilIface]) ∧ Tidy w w' := by
  have dX := (may_iff hX).1 mX
  have dY := (may_iff hY).1 mY
  have eu := uE_eq dX dY
  have hu := un_bd dX dY
  have kx : decide X.ok = true := decide_eq_true hX
  have ky : decide Y.ok = true := decide_eq_true hY
  have tx : okTp X Ex = true := decide_eq_true ⟨hX, by have := dX.2; omega, by have := dX.2; omega⟩
  have ty : okTp Y Ey = true := decide_eq_true ⟨hY, by have := dY.2; omega, by have := dY.2; omega⟩
  have ix : okIu X Ex (uE Ex X Ey Y) = true := decide_eq_true ⟨hX, by have := dX.2; omega, by have := dX.2; omega, by omega, by omega⟩
  have iy : okIu Y Ey (uE Ex X Ey Y) = true := decide_eq_true ⟨hY, by have := dY.2; omega, by have := dY.2; omega, by omega, by omega⟩
  have hlog : okLog (lEx X Y Ex Ey) := by simp only [lEx, lIu, okCs, okNl, kx, ky, tx, ty, ix, iy, mX, mY, and_self]
  have lx := iuQ_lt (Ex := Ex) (Ey := Ey) (X := X.nat) (Y := Y.nat)
  have ly := iuQ_lt (Ex := Ey) (Ey := Ex) (X := Y.nat) (Y := X.nat)
  rw [un_comm] at ly
  have e256 : (2 : Nat) ^ 256 = 4 * 2 ^ 254 := rfl
  have ox : (eX Ex X Ey Y).ok := ofN_ok _
  have oy : (eY Ex X Ey Y).ok := ofN_ok _
  have nX : (eX Ex X Ey Y).nat = iuQ Ex (unN Ex X.nat Ey Y.nat) X.nat := by unfold eX; rw [eu]; exact ofN_nat (by omega)
  have nY : (eY Ex X Ey Y).nat = iuQ Ey (unN Ex X.nat Ey Y.nat) Y.nat := by unfold eY; rw [eu]; exact ofN_nat (by omega)
  have k2 : decide ((eX Ex X Ey Y).ok ∧ (eY Ex X Ey Y).ok) = true := decide_eq_true ⟨ox, oy⟩
  have cbX : xbX Ex X Ey Y = iuB Ex (unN Ex X.nat Ey Y.nat) X.nat := by unfold xbX; rw [eu]
  have cbY : xbY Ex X Ey Y = iuB Ey (unN Ex X.nat Ey Y.nat) Y.nat := by unfold xbY; rw [eu]
  obtain ⟨cg, cl', cz⟩ := cmpI_of ox oy
  have hv : ∀ a b : Bool, ([vN a Ex X false, vN b Ey Y false, .int .i64 m].all (lt 0)) = true := fun a b => rfl
  by_cases hn : nx = ny
  · have ev : xuV m nx Ex X ny Ey Y = vN nx (uE Ex X Ey Y) (ofN ((eX Ex X Ey Y).nat + (eY Ex X Ey Y).nat)) ((xbX Ex X Ey Y) || (xbY Ex X Ey Y)) := by
      unfold xuV xuN xuQ xuB exN exQ exB
      rw [if_pos hn, if_pos hn, if_pos hn, eu, nX, nY, cbX, cbY]
    rw [ev]
    subst hn
    cases nx
    · exact fits_calls (tabY_ok conSu_ok) (ex_sff X Y Ex Ey m) (okCons k2 hlog) (hv _ _) (by rfl) w
    · exact fits_calls (tabY_ok conSu_ok) (ex_stt X Y Ex Ey m) (okCons k2 hlog) (hv _ _) (by rfl) w
  · rcases Nat.lt_trichotomy (eX Ex X Ey Y).nat (eY Ex X Ey Y).nat with h | h | h
    · have ev : xuV m nx Ex X ny Ey Y = vN ny (uE Ex X Ey Y) (ofN (apQ (eY Ex X Ey Y).nat (eX Ex X Ey Y).nat (xbX Ex X Ey Y))) ((xbY Ex X Ey Y) || (xbX Ex X Ey Y)) := by
        rw [nX, nY] at h
        unfold xuV xuN xuQ xuB exN exQ exB apQ
        rw [if_neg hn, if_neg hn, if_neg hn, if_neg (Nat.lt_asymm h), if_pos h, if_neg (Nat.lt_asymm h), if_pos h, if_neg (Nat.lt_asymm h), if_pos h, eu, nX, nY, cbX, cbY]
      have k3 : decide ((eY Ex X Ey Y).ok ∧ (eX Ex X Ey Y).ok ∧ (eX Ex X Ey Y).nat < (eY Ex X Ey Y).nat) = true := decide_eq_true ⟨oy, ox, h⟩
      have k4 : decide (cmpI (eX Ex X Ey Y) (eY Ex X Ey Y) = -1) = true := decide_eq_true (cl' h)
      rw [ev]
      cases nx <;> cases ny
      · exact absurd rfl hn
      · exact fits_calls (tabY_ok conSu_ok) (ex_lft X Y Ex Ey m) (okCons k3 (okCons k2 (okCons k4 hlog))) (hv _ _) (by rfl) w
      · exact fits_calls (tabY_ok conSu_ok) (ex_ltf X Y Ex Ey m) (okCons k3 (okCons k2 (okCons k4 hlog))) (hv _ _) (by rfl) w
      · exact absurd rfl hn
    · have ev : xuV m nx Ex X ny Ey Y = vN (m == 4) (uE Ex X Ey Y) ⟨0, 0, 0, 0⟩ false := by
        rw [nX, nY] at h
        unfold xuV xuN xuQ xuB exN exQ exB
        rw [if_neg hn, if_neg hn, if_neg hn, h, if_neg (Nat.lt_irrefl _), if_neg (Nat.lt_irrefl _), if_neg (Nat.lt_irrefl _), if_neg (Nat.lt_irrefl _), if_neg (Nat.lt_irrefl _), if_neg (Nat.lt_irrefl _), eu, ofN_zero]
        rfl
      have k4 : decide (cmpI (eX Ex X Ey Y) (eY Ex X Ey Y) = 0) = true := decide_eq_true (cz h)
      rw [ev]
      cases nx <;> cases ny
      · exact absurd rfl hn
      · exact fits_calls (tabY_ok conSu_ok) (ex_zft X Y Ex Ey m) (okCons k2 (okCons k4 hlog)) (hv _ _) (by rfl) w
      · exact fits_calls (tabY_ok conSu_ok) (ex_ztf X Y Ex Ey m) (okCons k2 (okCons k4 hlog)) (hv _ _) (by rfl) w
      · exact absurd rfl hn
    · have ev : xuV m nx Ex X ny Ey Y = vN nx (uE Ex X Ey Y) (ofN (apQ (eX Ex X Ey Y).nat (eY Ex X Ey Y).nat (xbY Ex X Ey Y))) ((xbX Ex X Ey Y) || (xbY Ex X Ey Y)) := by
        rw [nX, nY] at h
        unfold xuV xuN xuQ xuB exN exQ exB apQ
        rw [if_neg hn, if_neg hn, if_neg hn, if_pos h, if_pos h, if_pos h, eu, nX, nY, cbX, cbY]
      have k3 : decide ((eX Ex X Ey Y).ok ∧ (eY Ex X Ey Y).ok ∧ (eY Ex X Ey Y).nat < (eX Ex X Ey Y).nat) = true := decide_eq_true ⟨ox, oy, h⟩
      have k4 : decide (cmpI (eX Ex X Ey Y) (eY Ex X Ey Y) = 1) = true := decide_eq_true (cg h)
      rw [ev]
      cases nx <;> cases ny
      · exact absurd rfl hn
      · exact fits_calls (tabY_ok conSu_ok) (ex_gft X Y Ex Ey m) (okCons k3 (okCons k2 (okCons k4 hlog))) (hv _ _) (by rfl) w
      · exact fits_calls (tabY_ok conSu_ok) (ex_gtf X Y Ex Ey m) (okCons k3 (okCons k2 (okCons k4 hlog))) (hv _ _) (by rfl) w
      · exact absurd rfl hn
/-- a sum's condition -/
def okEx (Ex : Int) (X : W4) (b : Bool) (Ey : Int) (Y : W4) (c : Bool) : Bool := decide (X.ok ∧ Y.ok ∧ b = false ∧ c = false ∧ mayB Ex X false = true ∧ mayB Ey Y false = true)
def gEx : Ans := fun vals s =>
  match vals with
  | [v, t, .int .i64 m] =>
    match n7 v with
    | some (nx, Ex, X, b) =>
      match n7 t with
      | some (ny, Ey, Y, c) => some (.tuple #[xuV m nx Ex X ny Ey Y, .nilIface], s, [(okEx Ex X b Ey Y c, true)])
      | none => none
    | none => none
  | _ => none
theorem gEx_ok : AnsOk 103 gEx := by
  intro vals s v s' lg h hl w
  unfold gEx at h
  split at h
  · split at h
    · rename_i nx Ex X b hn
      split at h
      · rename_i ny Ey Y c hp
        cases h
        rw [n7_spec hn, n7_spec hp]
        obtain ⟨h1, h2, rfl, rfl, h5, h6⟩ := of_decide_eq_true (hl _ (List.mem_singleton.2 rfl))
        exact exact_calls nx ny X Y Ex Ey _ h1 h2 h5 h6 w
      · cases h
    · cases h
  · cases h
end Go.Proofs.YtjkgnbdeklploaaGreatDoor
namespace Go.Proofs.YtjkgnbdeklploaaGreatDoor
open Go.KRun Go.Pt
set_option maxRecDepth 100000
/-- a call with one word of 64 bits -/
def gU (k : Int → Value) : Ans := fun vals s =>
  match vals with
  | [.int .u64 p] => some (k p, s, [(decide (U p), true)])
  | _ => none
theorem gU_ok {f : Nat} {k : Int → Value} (hk : ∀ p : Int, U p → ∀ w, Calls Tryz.prog f #[.int .u64 p] w fun e w' => e = .returned (k p) ∧ Tidy w w') : AnsOk f (gU k) := by
  intro vals s v s' lg h hl w
  unfold gU at h
  split at h
  · cases h
    exact hk _ (of_decide_eq_true (hl _ (List.mem_singleton.2 rfl))) w
  · cases h
theorem abs_fits (p : Int) : Fits (reckon (tabOf Tryz.prog extY conN true) 300 154 [.int .u64 p] []) (.int .u64 (bNot p 9223372036854775808)) [] := ⟨by kernel_rfl, by kernel_rfl, by kernel_rfl, by kernel_rfl⟩
theorem abs_ok : AnsOk 154 (gU fun p => .int .u64 (mag p)) := gU_ok fun p hp w => by
  have := fits_calls (tabY_ok conN_ok) (abs_fits p) (fun x hx => by cases hx) (by rfl) (by rfl) w
  rw [bNot_sign hp] at this
  exact this
def conA : Con := alt 154 (gU fun p => .int .u64 (mag p)) conN
theorem conA_ok : ConOk conA := alt_ok Tryz.func154 rfl abs_ok conN_ok
/-- the exponent as the code reckons it -/
def exM (p : Int) : Int := IntKind.i64.wrap ((mag p).fdiv (2 ^ min (52 : Int).toNat 64))
theorem exM_eq (p : Int) : exM p = ex p := by
  have e : ((2 : Int) ^ min (52 : Int).toNat 64) = 4503599627370496 := by rfl
  unfold exM
  rw [e, Int.fdiv_eq_ediv_of_nonneg _ (by omega), ex_mag]
  have := ex_lt p
  exact wrapI' ⟨by omega, by omega⟩
def frM (p : Int) : Int := bAnd p 4503599627370495
def lX (p : Int) (l : Log) : Log := (decide ((52 : Int) < 0), false) :: (decide (U p), true) :: l
theorem lX_ok {p : Int} (hp : U p) : okLog (lX p []) := okCons rfl (okL1 (decide_eq_true hp))
def lQ (p : Int) : Bool := bAnd (frM p) 2251799813685248 != 0
theorem cls_small (p : Int) (d : Bool) : Fits (reckon (tabOf Tryz.prog extY conA true) 300 111 [.int .u64 p] [cmp true, cmp d]) (.int .i64 (match d with | true => 0 | false => 1)) ((frM p == 0, d) :: (exM p == 0, true) :: lX p []) := by
  cases d <;> exact ⟨by kernel_rfl, by kernel_rfl, by kernel_rfl, by kernel_rfl⟩
theorem cls_endless (p : Int) : Fits (reckon (tabOf Tryz.prog extY conA true) 300 111 [.int .u64 p] [cmp false, cmp true, cmp true]) (.int .i64 3) ((frM p == 0, true) :: (exM p == 2047, true) :: (exM p == 0, false) :: lX p []) := ⟨by kernel_rfl, by kernel_rfl, by kernel_rfl, by kernel_rfl⟩
theorem cls_great (p : Int) (d : Bool) : Fits (reckon (tabOf Tryz.prog extY conA true) 300 111 [.int .u64 p] [cmp false, cmp true, cmp false, cmp d]) (.int .i64 (match d with | true => 4 | false => 5)) ((lQ p, d) :: (frM p == 0, false) :: (exM p == 2047, true) :: (exM p == 0, false) :: lX p []) := by
  cases d <;> exact ⟨by kernel_rfl, by kernel_rfl, by kernel_rfl, by kernel_rfl⟩
theorem cls_plain (p : Int) : Fits (reckon (tabOf Tryz.prog extY conA true) 300 111 [.int .u64 p] [cmp false, cmp false]) (.int .i64 2) ((exM p == 2047, false) :: (exM p == 0, false) :: lX p []) := ⟨by kernel_rfl, by kernel_rfl, by kernel_rfl, by kernel_rfl⟩
theorem frM_eq {p : Int} (hp : U p) : frM p = fr p := bAnd_frac hp
theorem lQ_eq {p : Int} (hp : U p) : lQ p = decide (2251799813685248 ≤ fr p) := by
  have := fr_lt p
  unfold lQ
  rw [frM_eq hp, bAnd_quiet ⟨by omega, by omega⟩]
  by_cases h : 2251799813685248 ≤ fr p
  · rw [decide_eq_true h, show fr p / 2251799813685248 = 1 from by omega]; rfl
  · rw [decide_eq_false h, show fr p / 2251799813685248 = 0 from by omega]; rfl
theorem cls_ok : AnsOk 111 (gU fun p => .int .i64 (cl p)) := gU_ok fun p hp w => by
  have hl := lX_ok hp
  have ee := exM_eq p
  have ef := frM_eq hp
  unfold cl
  by_cases h0 : ex p = 0
  · rw [if_pos h0]
    have := fits_calls (tabY_ok conA_ok) (cls_small p (frM p == 0)) (okCons rfl (okCons (by rw [ee]; simp [h0]) hl)) (by rfl) (by cases (frM p == 0) <;> rfl) w
    rw [ef] at this
    by_cases h1 : fr p = 0
    · rw [if_pos h1]; rw [show (fr p == 0) = true from by simp [h1]] at this; exact this
    · rw [if_neg h1]; rw [show (fr p == 0) = false from by simp [h1]] at this; exact this
  · rw [if_neg h0]
    by_cases h2 : ex p = 2047
    · rw [if_pos h2]
      by_cases h1 : fr p = 0
      · rw [if_pos h1]
        exact fits_calls (tabY_ok conA_ok) (cls_endless p) (okCons (by rw [ef]; simp [h1]) (okCons (by rw [ee]; simp [h2]) (okCons (by rw [ee]; simp [h0]) hl))) (by rfl) (by rfl) w
      · rw [if_neg h1]
        have := fits_calls (tabY_ok conA_ok) (cls_great p (lQ p)) (okCons rfl (okCons (by rw [ef]; simp [h1]) (okCons (by rw [ee]; simp [h2]) (okCons (by rw [ee]; simp [h0]) hl)))) (by rfl) (by cases (lQ p) <;> rfl) w
        rw [lQ_eq hp] at this
        by_cases h3 : 2251799813685248 ≤ fr p
        · rw [if_pos h3]; rw [decide_eq_true h3] at this; exact this
        · rw [if_neg h3]; rw [decide_eq_false h3] at this; exact this
    · rw [if_neg h2]
      exact fits_calls (tabY_ok conA_ok) (cls_plain p) (okCons (by rw [ee]; simp [h2]) (okCons (by rw [ee]; simp [h0]) hl)) (by rfl) (by rfl) w
def conB : Con := alt 111 (gU fun p => .int .i64 (cl p)) conA
theorem conB_ok : ConOk conB := alt_ok Tryz.func111 rfl cls_ok conA_ok
/-! ### Take -/
def vP (m : Bool) (c e s : Int) : Value := .agg #[.bool m, .int .i64 c, .int .i64 e, .int .u64 s]
def vT (p : Int) : Value := vP (sgn p) (cl p) (xp p) (sg p)
def lS (p : Int) (d : Bool) : Bool × Bool := (bAnd p 9223372036854775808 != 0, d)
def lU (p : Int) : Bool × Bool := (decide (U p), true)
theorem take_nought (p : Int) (d : Bool) : Fits (reckon (tabOf Tryz.prog extY conB true) 300 113 [.int .u64 p] [cmp d, cmp true]) (vP d (cl p) (-1074) (frM p)) [(cl p == 0, true), lU p, lS p d] := ⟨by kernel_rfl, by kernel_rfl, by kernel_rfl, by kernel_rfl⟩
theorem take_tiny (p : Int) (d : Bool) : Fits (reckon (tabOf Tryz.prog extY conB true) 300 113 [.int .u64 p] [cmp d, cmp false, cmp true]) (vP d (cl p) (-1074) (frM p)) [(cl p == 1, true), (cl p == 0, false), lU p, lS p d] := ⟨by kernel_rfl, by kernel_rfl, by kernel_rfl, by kernel_rfl⟩
theorem take_plain (p : Int) (d : Bool) : Fits (reckon (tabOf Tryz.prog extY conB true) 300 113 [.int .u64 p] [cmp d, cmp false, cmp false, cmp true]) (vP d (cl p) (IntKind.i64.wrap (exM p - 1075)) (bOr (frM p) 4503599627370496)) [(decide ((52 : Int) < 0), false), lU p, (cl p == 2, true), (cl p == 1, false), (cl p == 0, false), lU p, lS p d] := ⟨by kernel_rfl, by kernel_rfl, by kernel_rfl, by kernel_rfl⟩
theorem take_great (p : Int) (d : Bool) : Fits (reckon (tabOf Tryz.prog extY conB true) 300 113 [.int .u64 p] [cmp d, cmp false, cmp false, cmp false]) (vP d (cl p) 0 (frM p)) [(cl p == 2, false), (cl p == 1, false), (cl p == 0, false), lU p, lS p d] := ⟨by kernel_rfl, by kernel_rfl, by kernel_rfl, by kernel_rfl⟩
theorem sign_eq {p : Int} (hp : U p) : (bAnd p 9223372036854775808 != 0) = sgn p := by
  rw [bAnd_sign hp]
  unfold sgn
  unfold U at hp
  by_cases h : 9223372036854775808 ≤ p
  · rw [decide_eq_true h, show p / 9223372036854775808 = 1 from by omega]; rfl
  · rw [decide_eq_false h, show p / 9223372036854775808 = 0 from by omega]; rfl
theorem cl_cases (p : Int) : (ex p = 0 ∧ (cl p = 0 ∨ cl p = 1)) ∨ (ex p = 2047 ∧ 3 ≤ cl p) ∨ (ex p ≠ 0 ∧ ex p ≠ 2047 ∧ cl p = 2) := by
  unfold cl
  split
  · split <;> omega
  · split
    · split
      · omega
      · split <;> omega
    · omega
theorem lead_or {p : Int} : bOr (fr p) 4503599627370496 = fr p + 4503599627370496 := by
  have := fr_lt p
  rw [or_low 52 (z := 1) (by omega) (by rfl) this.1 (show fr p < 2 ^ 52 from this.2) (by omega)]
  omega
theorem take_calls (p : Int) (hp : U p) (w : World) : Calls Tryz.prog 113 #[.int .u64 p] w fun e w' => e = .returned (vT p) ∧ Tidy w w' := by
  have hu : decide (U p) = true := decide_eq_true hp
  have hs := sign_eq hp
  have hf := frM_eq hp
  have he := exM_eq p
  have hx := ex_lt p
  unfold vT xp sg
  rcases cl_cases p with ⟨h1, h2⟩ | ⟨h1, h2⟩ | ⟨h1, h2, h3⟩
  · rw [if_pos h1, if_pos h1]
    rcases h2 with h2 | h2
    · have := fits_calls (tabY_ok conB_ok) (take_nought p (sgn p)) (okCons (by simp [h2]) (okCons hu (okL1 hs))) (by rfl) (by rfl) w
      rw [hf] at this
      exact this
    · have := fits_calls (tabY_ok conB_ok) (take_tiny p (sgn p)) (okCons (by simp [h2]) (okCons (by simp [h2]) (okCons hu (okL1 hs)))) (by rfl) (by rfl) w
      rw [hf] at this
      exact this
  · have h0 : ¬ ex p = 0 := by omega
    simp only [if_neg h0, if_pos h1]
    have h3 : ¬ cl p = 0 := by omega
    have h4 : ¬ cl p = 1 := by omega
    have h5 : ¬ cl p = 2 := by omega
    have := fits_calls (tabY_ok conB_ok) (take_great p (sgn p)) (okCons (by simp [h5]) (okCons (by simp [h4]) (okCons (by simp [h3]) (okCons hu (okL1 hs))))) (by rfl) (by rfl) w
    rw [hf] at this
    exact this
  · rw [if_neg h1, if_neg h1, if_neg h2, if_neg h2]
    have := fits_calls (tabY_ok conB_ok) (take_plain p (sgn p)) (okCons rfl (okCons hu (okCons (by simp [h3]) (okCons (by simp [h3]) (okCons (by simp [h3]) (okCons hu (okL1 hs))))))) (by rfl) (by rfl) w
    rw [hf, he, wrapI' ⟨by omega, by omega⟩, lead_or] at this
    exact this
theorem take_ok : AnsOk 113 (gU vT) := gU_ok take_calls
/-! ### the document's Take -/
def exR (p : Int) : Int := (IntKind.u64.wrap (p.tdiv 4503599627370496)).tmod 2048
def frR (p : Int) : Int := p.tmod 4503599627370496
def lR (p : Int) (d : Bool) : Log := [(decide (p ≥ 9223372036854775808), d), (decide ((4503599627370496 : Int) = 0), false), (decide ((2048 : Int) = 0), false)]
theorem ref_plain (p : Int) (d : Bool) : Fits (reckon (tabOf Tryz.prog extY conN true) 300 76 [.int .u64 p] [cmp true, cmp true, cmp d, cmp false, cmp false]) (vP d 2 (IntKind.i64.wrap (IntKind.i64.wrap (exR p) - 1075)) (IntKind.u64.wrap (frR p + 4503599627370496))) ((exR p == 0, false) :: (exR p == 2047, false) :: lR p d) := ⟨by kernel_rfl, by kernel_rfl, by kernel_rfl, by kernel_rfl⟩
theorem ref_quiet (p : Int) (d : Bool) : Fits (reckon (tabOf Tryz.prog extY conN true) 300 76 [.int .u64 p] [cmp true, cmp true, cmp d, cmp true, cmp true]) (vP d 4 0 (frR p)) ((decide (frR p ≥ 2251799813685248), true) :: (exR p == 2047, true) :: lR p d) := ⟨by kernel_rfl, by kernel_rfl, by kernel_rfl, by kernel_rfl⟩
theorem ref_great (p : Int) (d b : Bool) : Fits (reckon (tabOf Tryz.prog extY conN true) 300 76 [.int .u64 p] [cmp true, cmp true, cmp d, cmp true, cmp false, cmp b]) (vP d (match b with | true => 5 | false => 3) 0 (frR p)) ((decide (frR p > 0), b) :: (decide (frR p ≥ 2251799813685248), false) :: (exR p == 2047, true) :: lR p d) := by
  cases b <;> exact ⟨by kernel_rfl, by kernel_rfl, by kernel_rfl, by kernel_rfl⟩
theorem ref_small (p : Int) (d b : Bool) : Fits (reckon (tabOf Tryz.prog extY conN true) 300 76 [.int .u64 p] [cmp true, cmp true, cmp d, cmp false, cmp true, cmp b]) (vP d (match b with | true => 1 | false => 0) (-1074) (frR p)) ((decide (frR p > 0), b) :: (exR p == 0, true) :: (exR p == 2047, false) :: lR p d) := by
  cases b <;> exact ⟨by kernel_rfl, by kernel_rfl, by kernel_rfl, by kernel_rfl⟩
theorem exR_eq {p : Int} (hp : U p) : exR p = ex p := by
  unfold exR ex U at *
  rw [Int.tdiv_eq_ediv_of_nonneg hp.1, wrapU' ⟨by omega, by omega⟩, Int.tmod_eq_emod_of_nonneg (by omega)]
theorem frR_eq {p : Int} (hp : U p) : frR p = fr p := by unfold frR fr U at *; rw [Int.tmod_eq_emod_of_nonneg hp.1]
theorem ref_calls (p : Int) (hp : U p) (w : World) : Calls Tryz.prog 76 #[.int .u64 p] w fun e w' => e = .returned (vT p) ∧ Tidy w w' := by
  have hl : okLog (lR p (sgn p)) := okCons rfl (okCons rfl (okL1 rfl))
  have hf := frR_eq hp
  have he := exR_eq hp
  have hx := ex_lt p
  have hy := fr_lt p
  unfold vT xp sg cl
  by_cases h0 : ex p = 0
  · simp only [if_pos h0]
    by_cases h1 : fr p = 0
    · simp only [if_pos h1]
      have := fits_calls (tabY_ok conN_ok) (ref_small p (sgn p) false) (okCons (by rw [hf]; simp [h1]) (okCons (by rw [he]; simp [h0]) (okCons (by rw [he]; simp [h0]) hl))) (by rfl) (by rfl) w
      rw [hf] at this
      exact this
    · simp only [if_neg h1]
      have := fits_calls (tabY_ok conN_ok) (ref_small p (sgn p) true) (okCons (by rw [hf]; exact decide_eq_true (by omega)) (okCons (by rw [he]; simp [h0]) (okCons (by rw [he]; simp [h0]) hl))) (by rfl) (by rfl) w
      rw [hf] at this
      exact this
  · simp only [if_neg h0]
    by_cases h2 : ex p = 2047
    · simp only [if_pos h2]
      by_cases h3 : 2251799813685248 ≤ fr p
      · simp only [if_pos h3, if_neg (show ¬ fr p = 0 by omega)]
        have := fits_calls (tabY_ok conN_ok) (ref_quiet p (sgn p)) (okCons (by rw [hf]; exact decide_eq_true h3) (okCons (by rw [he]; simp [h2]) hl)) (by rfl) (by rfl) w
        rw [hf] at this
        exact this
      · by_cases h1 : fr p = 0
        · simp only [if_pos h1]
          have := fits_calls (tabY_ok conN_ok) (ref_great p (sgn p) false) (okCons (by rw [hf]; simp [h1]) (okCons (by rw [hf]; exact decide_eq_false h3) (okCons (by rw [he]; simp [h2]) hl))) (by rfl) (by rfl) w
          rw [hf] at this
          exact this
        · simp only [if_neg h1, if_neg h3]
          have := fits_calls (tabY_ok conN_ok) (ref_great p (sgn p) true) (okCons (by rw [hf]; exact decide_eq_true (by omega)) (okCons (by rw [hf]; exact decide_eq_false h3) (okCons (by rw [he]; simp [h2]) hl))) (by rfl) (by rfl) w
          rw [hf] at this
          exact this
    · simp only [if_neg h2]
      have := fits_calls (tabY_ok conN_ok) (ref_plain p (sgn p)) (okCons (by rw [he]; simp [h0]) (okCons (by rw [he]; simp [h2]) hl)) (by rfl) (by rfl) w
      rw [hf, he, wrapI' (n := ex p) ⟨by omega, by omega⟩, wrapI' ⟨by omega, by omega⟩, wrapU' ⟨by omega, by omega⟩] at this
      exact this
theorem ref_ok : AnsOk 76 (gU vT) := gU_ok ref_calls
/-- a truth of two words, told ahead -/
def gUUb (k : Int → Int → Bool) : Ans := fun vals s =>
  match vals, s with
  | [.int .u64 a, .int .u64 b], .inr (.inr (.inr (.inl d))) :: s' => some (.bool d, s', [(k a b, d), (decide (U a ∧ U b), true)])
  | _, _ => none
theorem gUUb_ok {f : Nat} {k : Int → Int → Bool} (hk : ∀ a b : Int, U a → U b → ∀ w, Calls Tryz.prog f #[.int .u64 a, .int .u64 b] w fun e w' => e = .returned (.bool (k a b)) ∧ Tidy w w') : AnsOk f (gUUb k) := by
  intro vals s v s' lg h hl w
  unfold gUUb at h
  split at h
  · cases h
    have e := hl _ (List.mem_cons_self)
    obtain ⟨h1, h2⟩ := of_decide_eq_true (hl _ (List.mem_cons_of_mem _ (List.mem_singleton.2 rfl)))
    simp only at e
    rw [← e]
    exact hk _ _ h1 h2 w
  · cases h
/-- a value of two words -/
def gUU (k : Int → Int → Value) (c : Int → Int → Bool) : Ans := fun vals s =>
  match vals with
  | [.int .u64 a, .int .u64 b] => some (k a b, s, [(c a b, true), (decide (U a ∧ U b), true)])
  | _ => none
theorem gUU_ok {f : Nat} {k : Int → Int → Value} {c : Int → Int → Bool} (hk : ∀ a b : Int, U a → U b → c a b = true → ∀ w, Calls Tryz.prog f #[.int .u64 a, .int .u64 b] w fun e w' => e = .returned (k a b) ∧ Tidy w w') : AnsOk f (gUU k c) := by
  intro vals s v s' lg h hl w
  unfold gUU at h
  split at h
  · cases h
    have e := hl _ (List.mem_cons_self)
    obtain ⟨h1, h2⟩ := of_decide_eq_true (hl _ (List.mem_cons_of_mem _ (List.mem_singleton.2 rfl)))
    exact hk _ _ h1 h2 e w
  · cases h
theorem beq_t {x y : Int} (h : x = y) : (x == y) = true := by simpa using h
theorem beq_f {x y : Int} (h : x ≠ y) : (x == y) = false := by simpa using h
theorem bne_t {x y : Int} (h : x ≠ y) : (x != y) = true := by simpa using h
theorem bne_f {x y : Int} (h : x = y) : (x != y) = false := by simpa using h
theorem cl_bd (p : Int) : 0 ≤ cl p ∧ cl p ≤ 5 := by
  unfold cl
  split
  · split <;> omega
  · split
    · split
      · omega
      · split <;> omega
    · omega
theorem mag_eq (p : Int) : mag p = 4503599627370496 * ex p + fr p := by unfold mag ex fr; omega
theorem mag_cl (p : Int) : (3 < cl p ↔ 9218868437227405312 < mag p) ∧ (cl p = 3 ↔ mag p = 9218868437227405312) ∧ (cl p ≤ 2 ↔ mag p < 9218868437227405312) := by
  have h1 := mag_eq p
  have h2 := ex_lt p
  have h3 := fr_lt p
  rw [h1]
  unfold cl
  split
  · split <;> omega
  · split
    · split
      · omega
      · split <;> omega
    · omega
theorem bNot_mag {p : Int} (hp : U p) : bNot p 9223372036854775808 = mag p := bNot_sign hp
end Go.Proofs.YtjkgnbdeklploaaGreatDoor
namespace Go.Rn
open Go.Nt Go.Wd Go.Pt
theorem szF_low {F G E : Int} (h1 : F ≤ G) (h2 : G ≤ E) (X : Nat) : szF F E X = szF G E X * 2 ^ (G - F).toNat := by
  unfold szF
  rw [Nat.mul_assoc, ← Nat.pow_add]
  congr 2
  omega
theorem sgI_mul (n : Bool) (A K : Nat) : sgI n (A * K) = sgI n A * (K : Int) := by
  cases n
  · simp [sgI]
  · simp only [sgI, Int.natCast_mul]; rw [Int.neg_mul]
theorem smI_low {F G Ex Ey : Int} (h1 : F ≤ G) (h2 : G ≤ Ex) (h3 : G ≤ Ey) (nx ny : Bool) (X Y : Nat) : smI F nx Ex X ny Ey Y = smI G nx Ex X ny Ey Y * ((2 ^ (G - F).toNat : Nat) : Int) := by
  unfold smI
  rw [szF_low h1 h2, szF_low h1 h3, sgI_mul, sgI_mul, Int.add_mul]
theorem sgS_mul (m : Int) (nx ny : Bool) (S : Int) {K : Nat} (hK : 0 < K) : sgS m nx ny (S * (K : Int)) = sgS m nx ny S := by
  have hk : (0 : Int) < (K : Int) := by omega
  have e0 : S * (K : Int) = 0 ↔ S = 0 := by rw [Int.mul_eq_zero]; omega
  have e1 : S * (K : Int) < 0 ↔ S < 0 := by
    constructor
    · intro h
      rcases Int.lt_or_le S 0 with h1 | h1
      · exact h1
      · have := Int.mul_nonneg h1 (Int.le_of_lt hk); omega
    · intro h; exact Int.mul_neg_of_neg_of_pos h hk
  unfold sgS
  simp only [e0, e1]
/-- what was told in units is rounded as the sum itself -/
theorem xu_round {G Ex Ey : Int} {X Y : Nat} (hX : May Ex X) (hY : May Ey Y) (hx : G ≤ Ex) (hy : G ≤ Ey) (k m : Int) (n nx ny : Bool) :
    rnP k n (2 * xuQ nx Ex X ny Ey Y + bN (xuB nx Ex X ny Ey Y)) (unN Ex X Ey Y - 1) = rnP k n (smI G nx Ex X ny Ey Y).natAbs G
    ∧ rnF k n (2 * xuQ nx Ex X ny Ey Y + bN (xuB nx Ex X ny Ey Y)) (unN Ex X Ey Y - 1) = rnF k n (smI G nx Ex X ny Ey Y).natAbs G
    ∧ xuN m nx Ex X ny Ey Y = sgS m nx ny (smI G nx Ex X ny Ey Y) := by
  obtain ⟨F, hF⟩ : ∃ F, F = min (unN Ex X Ey Y) G := ⟨_, rfl⟩
  have h1 : F ≤ unN Ex X Ey Y := by omega
  have h2 : F ≤ G := by omega
  obtain ⟨a, b, c⟩ := xu_sum hX hY h1 (by omega) (by omega) m nx ny
  have hK : 0 < 2 ^ (G - F).toNat := Nat.pow_pos (by omega)
  have es := smI_low (X := X) (Y := Y) h2 hx hy nx ny
  have ea : (smI F nx Ex X ny Ey Y).natAbs = (smI G nx Ex X ny Ey Y).natAbs * 2 ^ (G - F).toNat := by rw [es, Int.natAbs_mul, Int.natAbs_natCast]
  obtain ⟨p, q⟩ := stk_round (m := k) (neg := n) (F := F) b
  have eu : F + ((unN Ex X Ey Y - F).toNat : Int) - 1 = unN Ex X Ey Y - 1 := by omega
  have eG : G - ((G - F).toNat : Int) = F := by omega
  have sp := rnP_scale k n (smI G nx Ex X ny Ey Y).natAbs (G - F).toNat G
  have sf := rnF_scale k n (smI G nx Ex X ny Ey Y).natAbs (G - F).toNat G
  rw [eG, ← ea] at sp sf
  rw [eu] at p q
  refine ⟨by rw [a, p, sp], by rw [a, q, sf], ?_⟩
  rw [c, es, sgS_mul m nx ny _ hK]
/-! ### patterns -/
/-- a finite pattern's size, in units of 2^-1074 -/
def uV (p : Int) : Nat := szF (-1074) (xp p) (sg p).toNat
def pvI (p : Int) : Int := sgI (sgn p) (uV p)
def psI (a b : Int) : Int := pvI a + pvI b
theorem psI_eq (a b : Int) : psI a b = smI (-1074) (sgn a) (xp a) (sg a).toNat (sgn b) (xp b) (sg b).toNat := rfl
theorem xp_bd (p : Int) : -1074 ≤ xp p ∧ xp p ≤ 972 := by
  have := ex_lt p
  unfold xp
  split
  · omega
  · split <;> omega
theorem sg_lt (p : Int) : 0 ≤ sg p ∧ sg p < 9007199254740992 := by
  have := fr_lt p
  unfold sg
  split
  · omega
  · split <;> omega
theorem may_pat (p : Int) : May (xp p) (sg p).toNat := by
  have h1 := xp_bd p
  have h2 := sg_lt p
  refine ⟨?_, by omega, by omega⟩
  have : (2 : Nat) ^ 128 = 340282366920938463463374607431768211456 := rfl
  omega
def adN (m a b : Int) : Bool := sgS m (sgn a) (sgn b) (psI a b)
def adP (m a b : Int) : Int := rnP m (adN m a b) (psI a b).natAbs (-1074)
def adF (m a b : Int) : Int := rnF m (adN m a b) (psI a b).natAbs (-1074)
theorem psI_comm (a b : Int) : psI a b = psI b a := by unfold psI; omega
theorem sgS_comm (m : Int) (nx ny : Bool) (S : Int) : sgS m nx ny S = sgS m ny nx S := by
  have e : (if nx = ny then nx else decide (m = 4)) = (if ny = nx then ny else decide (m = 4)) := by cases nx <;> cases ny <;> rfl
  unfold sgS
  rw [e]
theorem adN_comm (m a b : Int) : adN m a b = adN m b a := by unfold adN; rw [psI_comm, sgS_comm]
theorem ad_comm (m a b : Int) : adP m a b = adP m b a ∧ adF m a b = adF m b a := by unfold adP adF; rw [adN_comm, psI_comm]; exact ⟨rfl, rfl⟩
theorem uV_zero {p : Int} (h : ex p ≠ 2047) : uV p = 0 ↔ mag p = 0 := by
  have h1 := ex_lt p
  have h2 := fr_lt p
  have h4 : mag p = 4503599627370496 * ex p + fr p := by unfold mag ex fr; omega
  have hp : 0 < 2 ^ (xp p - -1074).toNat := Nat.pow_pos (by omega)
  have e : uV p = 0 ↔ sg p = 0 := by
    have := sg_lt p
    unfold uV szF
    rw [Nat.mul_eq_zero]
    omega
  rw [e, h4]
  unfold sg
  split
  · omega
  · omega
/-- the other sign -/
def ng (p : Int) : Int := (p + 9223372036854775808) % 18446744073709551616
theorem ng_parts {p : Int} (hp : U p) : U (ng p) ∧ sgn (ng p) = !sgn p ∧ ex (ng p) = ex p ∧ fr (ng p) = fr p ∧ mag (ng p) = mag p := by
  unfold U at hp
  unfold ng U sgn ex fr mag
  refine ⟨by omega, ?_, by omega, by omega, by omega⟩
  by_cases h : 9223372036854775808 ≤ p
  · rw [decide_eq_true h, decide_eq_false (by omega)]; rfl
  · rw [decide_eq_false h, decide_eq_true (by omega)]; rfl
theorem ng_num {p : Int} (hp : U p) : xp (ng p) = xp p ∧ sg (ng p) = sg p ∧ cl (ng p) = cl p ∧ uV (ng p) = uV p ∧ pvI (ng p) = - pvI p := by
  obtain ⟨_, h1, h2, h3, _⟩ := ng_parts hp
  have e1 : xp (ng p) = xp p := by unfold xp; rw [h2]
  have e2 : sg (ng p) = sg p := by unfold sg; rw [h2, h3]
  have e4 : uV (ng p) = uV p := by unfold uV; rw [e1, e2]
  refine ⟨e1, e2, by unfold cl; rw [h2, h3], e4, ?_⟩
  unfold pvI
  rw [h1, e4]
  cases sgn p <;> simp [sgI]
theorem sgI_abs (n : Bool) (A : Nat) : (sgI n A).natAbs = A := by cases n <;> simp [sgI]
theorem sgI_neg {n : Bool} {A : Nat} (h : A ≠ 0) : decide (sgI n A < 0) = n ∧ sgI n A ≠ 0 := by
  cases n
  · exact ⟨decide_eq_false (by simp only [sgI]; omega), by simp only [sgI]; omega⟩
  · exact ⟨decide_eq_true (by simp only [sgI]; omega), by simp only [sgI]; omega⟩
theorem ad_bd (m a b : Int) : 0 ≤ adP m a b ∧ adP m a b ≤ 9218868437227405312 := rnP_bd _ _ _ _
end Go.Rn
namespace Go.Proofs.YtjkgnbdeklploaaGreatDoor
open Go.KRun Go.Wd Go.Pt Go.Rn
set_option maxRecDepth 100000
/-- what is known of calls: rounding, a pattern's parts, its class -/
def conG0 : Con := alt 104 gRd (alt 113 (gU vT) (alt 111 (gU fun p => .int .i64 (cl p)) conN))
theorem conG0_ok : ConOk conG0 := alt_ok Tryz.func104 rfl gRd_ok (alt_ok Tryz.func113 rfl take_ok (alt_ok Tryz.func111 rfl cls_ok conN_ok))
def wSg (p : Int) : W4 := ⟨sg p, 0, 0, 0⟩
def lp0 : Bool × Bool := (decide ((0 : Int) < ((2 : Nat) : Int)), true)
def lp1 : Bool × Bool := (decide (IntKind.i64.wrap (0 + 1) < ((2 : Nat) : Int)), true)
def lp2 : Bool × Bool := (decide (IntKind.i64.wrap (IntKind.i64.wrap (0 + 1) + 1) < ((2 : Nat) : Int)), false)
/-! ### its numbers -/
theorem wSg_ok (p : Int) : (wSg p).ok := by
  have h := sg_lt p
  exact ⟨⟨h.1, by unfold wSg; dsimp only; omega⟩, ⟨by unfold wSg; dsimp only; omega, by unfold wSg; dsimp only; omega⟩, ⟨by unfold wSg; dsimp only; omega, by unfold wSg; dsimp only; omega⟩, ⟨by unfold wSg; dsimp only; omega, by unfold wSg; dsimp only; omega⟩⟩
theorem wSg_nat (p : Int) : (wSg p).nat = (sg p).toNat := by
  unfold W4.nat W4.val wSg
  simp only [Int.mul_zero, Int.add_zero]
theorem fin_ex {p : Int} (h : cl p ≤ 2) : ex p ≠ 2047 := by
  rcases cl_cases p with ⟨h1, _⟩ | ⟨_, h2⟩ | ⟨_, h2, _⟩ <;> omega
theorem tw_of {q : Nat} (h : q < 2 ^ 256) (b : Bool) : tw (ofN q) b = 2 * q + bN b := by
  unfold tw
  rw [ofN_nat h]
  cases b <;> rfl
/-- the unit may be far away -/
theorem clp_round (k : Int) (n : Bool) {x : W4} (hx : x.ok) (b : Bool) (u : Int) : rnP k n (tw x b) (clp u - 1) = rnP k n (tw x b) (u - 1) ∧ rnF k n (tw x b) (clp u - 1) = rnF k n (tw x b) (u - 1) := by
  have h1 := same_round (m := k) (neg := n) hx b (C := clp u) (D := u) (by unfold clp; split <;> (try split) <;> omega)
  have h2 := same_round (m := k) (neg := n) hx b (C := u) (D := u) (.inl rfl)
  exact ⟨by rw [h1.1, h2.1], by rw [h1.2, h2.2]⟩
def conA0 : Con := alt 103 gEx conG0
theorem conA0_ok : ConOk conA0 := alt_ok Tryz.func103 rfl gEx_ok conG0_ok
theorem ad_nTT (a b m : Int) : Fits (reckon (tabOf Tryz.prog extY conA0 true) 300 91 [.int .u64 a, .int .u64 b, .int .i64 m] [cmp true, cmp true, cmp true, cmp true, cmp true, cmp false]) (rdT 9221120237041090560 1) [lp2, (cl b == 5, true), lU b, lp1, (cl a == 5, true), lU a, (decide (cl a > 3), true), lU a, lp0] := ⟨by kernel_rfl, by kernel_rfl, by kernel_rfl, by kernel_rfl⟩
theorem ad_nTF (a b m : Int) : Fits (reckon (tabOf Tryz.prog extY conA0 true) 300 91 [.int .u64 a, .int .u64 b, .int .i64 m] [cmp true, cmp true, cmp true, cmp true, cmp false, cmp false]) (rdT 9221120237041090560 1) [lp2, (cl b == 5, false), lU b, lp1, (cl a == 5, true), lU a, (decide (cl a > 3), true), lU a, lp0] := ⟨by kernel_rfl, by kernel_rfl, by kernel_rfl, by kernel_rfl⟩
theorem ad_nFT (a b m : Int) : Fits (reckon (tabOf Tryz.prog extY conA0 true) 300 91 [.int .u64 a, .int .u64 b, .int .i64 m] [cmp true, cmp true, cmp false, cmp true, cmp true, cmp false]) (rdT 9221120237041090560 1) [lp2, (cl b == 5, true), lU b, lp1, (cl a == 5, false), lU a, (decide (cl a > 3), true), lU a, lp0] := ⟨by kernel_rfl, by kernel_rfl, by kernel_rfl, by kernel_rfl⟩
theorem ad_nFF (a b m : Int) : Fits (reckon (tabOf Tryz.prog extY conA0 true) 300 91 [.int .u64 a, .int .u64 b, .int .i64 m] [cmp true, cmp true, cmp false, cmp true, cmp false, cmp false]) (rdT 9221120237041090560 0) [lp2, (cl b == 5, false), lU b, lp1, (cl a == 5, false), lU a, (decide (cl a > 3), true), lU a, lp0] := ⟨by kernel_rfl, by kernel_rfl, by kernel_rfl, by kernel_rfl⟩
theorem ad_mT (a b m : Int) : Fits (reckon (tabOf Tryz.prog extY conA0 true) 300 91 [.int .u64 a, .int .u64 b, .int .i64 m] [cmp true, cmp false, cmp false, cmp true, cmp true, cmp true, cmp false]) (rdT 9221120237041090560 1) [lp2, (cl b == 5, true), lU b, (decide (cl b > 3), true), lU b, lp1, (cl a == 5, false), lU a, (decide (cl a > 3), false), lU a, lp0] := ⟨by kernel_rfl, by kernel_rfl, by kernel_rfl, by kernel_rfl⟩
theorem ad_mF (a b m : Int) : Fits (reckon (tabOf Tryz.prog extY conA0 true) 300 91 [.int .u64 a, .int .u64 b, .int .i64 m] [cmp true, cmp false, cmp false, cmp true, cmp true, cmp false, cmp false]) (rdT 9221120237041090560 0) [lp2, (cl b == 5, false), lU b, (decide (cl b > 3), true), lU b, lp1, (cl a == 5, false), lU a, (decide (cl a > 3), false), lU a, lp0] := ⟨by kernel_rfl, by kernel_rfl, by kernel_rfl, by kernel_rfl⟩
theorem ad_ii (a b m : Int) : Fits (reckon (tabOf Tryz.prog extY conA0 true) 300 91 [.int .u64 a, .int .u64 b, .int .i64 m] [cmp true, cmp false, cmp false, cmp true, cmp false, cmp false, cmp false, cmp true, cmp true, cmp true]) (rdT 9221120237041090560 1) [(a != b, true), (cl b == 3, true), lU b, (cl a == 3, true), lU a, lp2, (cl b == 5, false), lU b, (decide (cl b > 3), false), lU b, lp1, (cl a == 5, false), lU a, (decide (cl a > 3), false), lU a, lp0] := ⟨by kernel_rfl, by kernel_rfl, by kernel_rfl, by kernel_rfl⟩
theorem ad_is (a b m : Int) : Fits (reckon (tabOf Tryz.prog extY conA0 true) 300 91 [.int .u64 a, .int .u64 b, .int .i64 m] [cmp true, cmp false, cmp false, cmp true, cmp false, cmp false, cmp false, cmp true, cmp true, cmp false, cmp true]) (rdT a 0) [(cl a == 3, true), lU a, (a != b, false), (cl b == 3, true), lU b, (cl a == 3, true), lU a, lp2, (cl b == 5, false), lU b, (decide (cl b > 3), false), lU b, lp1, (cl a == 5, false), lU a, (decide (cl a > 3), false), lU a, lp0] := ⟨by kernel_rfl, by kernel_rfl, by kernel_rfl, by kernel_rfl⟩
theorem ad_ia (a b m : Int) : Fits (reckon (tabOf Tryz.prog extY conA0 true) 300 91 [.int .u64 a, .int .u64 b, .int .i64 m] [cmp true, cmp false, cmp false, cmp true, cmp false, cmp false, cmp false, cmp true, cmp false, cmp true]) (rdT a 0) [(cl a == 3, true), lU a, (cl b == 3, false), lU b, (cl a == 3, true), lU a, lp2, (cl b == 5, false), lU b, (decide (cl b > 3), false), lU b, lp1, (cl a == 5, false), lU a, (decide (cl a > 3), false), lU a, lp0] := ⟨by kernel_rfl, by kernel_rfl, by kernel_rfl, by kernel_rfl⟩
theorem ad_ib (a b m : Int) : Fits (reckon (tabOf Tryz.prog extY conA0 true) 300 91 [.int .u64 a, .int .u64 b, .int .i64 m] [cmp true, cmp false, cmp false, cmp true, cmp false, cmp false, cmp false, cmp false, cmp false, cmp true]) (rdT b 0) [(cl b == 3, true), lU b, (cl a == 3, false), lU a, (cl a == 3, false), lU a, lp2, (cl b == 5, false), lU b, (decide (cl b > 3), false), lU b, lp1, (cl a == 5, false), lU a, (decide (cl a > 3), false), lU a, lp0] := ⟨by kernel_rfl, by kernel_rfl, by kernel_rfl, by kernel_rfl⟩
theorem ad_fin (a b m : Int) : Fits (reckon (tabOf Tryz.prog extY conA0 true) 300 91 [.int .u64 a, .int .u64 b, .int .i64 m] [cmp true, cmp false, cmp false, cmp true, cmp false, cmp false, cmp false, cmp false, cmp false, cmp false, cmp true, cmp true]) (rdV m (xuN m (sgn a) (xp a) (wSg a).nat (sgn b) (xp b) (wSg b).nat) (tw (ofN (xuQ (sgn a) (xp a) (wSg a).nat (sgn b) (xp b) (wSg b).nat)) (xuB (sgn a) (xp a) (wSg a).nat (sgn b) (xp b) (wSg b).nat)) (clp (unN (xp a) (wSg a).nat (xp b) (wSg b).nat) - 1)) [(decide (ofN (xuQ (sgn a) (xp a) (wSg a).nat (sgn b) (xp b) (wSg b).nat)).ok, true), (okEx (xp a) (wSg a) false (xp b) (wSg b) false, true), lU b, (decide (cl b ≤ 2), true), lU b, lU a, (decide (cl a ≤ 2), true), lU a, (cl b == 3, false), lU b, (cl a == 3, false), lU a, (cl a == 3, false), lU a, lp2, (cl b == 5, false), lU b, (decide (cl b > 3), false), lU b, lp1, (cl a == 5, false), lU a, (decide (cl a > 3), false), lU a, lp0] := ⟨by kernel_rfl, by kernel_rfl, by kernel_rfl, by kernel_rfl⟩
/-- what Exact answers is rounded as the exact sum -/
theorem xu_rd (k m : Int) {G Ex Ey : Int} {X Y : Nat} (hX : May Ex X) (hY : May Ey Y) (hx : G ≤ Ex) (hy : G ≤ Ey) (nx ny : Bool) :
    rdV k (xuN m nx Ex X ny Ey Y) (tw (ofN (xuQ nx Ex X ny Ey Y)) (xuB nx Ex X ny Ey Y)) (clp (unN Ex X Ey Y) - 1) = rdV k (sgS m nx ny (smI G nx Ex X ny Ey Y)) (smI G nx Ex X ny Ey Y).natAbs G := by
  have hq := xuQ_lt nx Ex X ny Ey Y
  have e : (2 : Nat) ^ 256 = 2 * 2 ^ 255 := rfl
  obtain ⟨c1, c2⟩ := clp_round k (xuN m nx Ex X ny Ey Y) (ofN_ok (xuQ nx Ex X ny Ey Y)) (xuB nx Ex X ny Ey Y) (unN Ex X Ey Y)
  obtain ⟨p, q, r⟩ := xu_round hX hY hx hy k m (xuN m nx Ex X ny Ey Y) nx ny
  unfold rdV
  rw [c1, c2, tw_of (by omega), p, q, r]
/-- what Add answers -/
def suP (m a b : Int) : Int := if 3 < cl a ∨ 3 < cl b then 9221120237041090560 else if cl a = 3 then (if cl b = 3 ∧ a ≠ b then 9221120237041090560 else a) else if cl b = 3 then b else sS (adN m a b) (adP m a b)
def suF (m a b : Int) : Int := if 3 < cl a ∨ 3 < cl b then (if cl a = 5 ∨ cl b = 5 then 1 else 0) else if cl a = 3 then (if cl b = 3 ∧ a ≠ b then 1 else 0) else if cl b = 3 then 0 else adF m a b
def suV (m a b : Int) : Value := rdT (suP m a b) (suF m a b)
theorem sadd_calls (a b m : Int) (ha : U a) (hb : U b) (w : World) : Calls Tryz.prog 91 #[.int .u64 a, .int .u64 b, .int .i64 m] w fun r w' => r = .returned (suV m a b) ∧ Tidy w w' := by
  have hv : ([.int .u64 a, .int .u64 b, .int .i64 m].all (lt 0)) = true := rfl
  have ka : decide (U a) = true := decide_eq_true ha
  have kb : decide (U b) = true := decide_eq_true hb
  have k0 : lp0.1 = lp0.2 := by decide
  have k1 : lp1.1 = lp1.2 := by decide
  have k2 : lp2.1 = lp2.2 := by decide
  have ba := cl_bd a
  have bb := cl_bd b
  unfold suV suP suF
  by_cases hna : 3 < cl a
  · have g1 : decide (cl a > 3) = true := decide_eq_true hna
    rw [if_pos (.inl hna), if_pos (.inl hna)]
    have mk : ∀ {d e : Bool}, (cl a == 5) = d → (cl b == 5) = e → okLog [lp2, (cl b == 5, e), lU b, lp1, (cl a == 5, d), lU a, (decide (cl a > 3), true), lU a, lp0] := fun h1 h2 =>
      okCons k2 (okCons h2 (okCons kb (okCons k1 (okCons h1 (okCons ka (okCons g1 (okCons ka (okL1 k0))))))))
    by_cases ca : cl a = 5 <;> by_cases cb : cl b = 5
    · rw [if_pos (.inl ca)]; exact fits_calls (tabY_ok conA0_ok) (ad_nTT a b m) (mk (beq_t ca) (beq_t cb)) hv (by rfl) w
    · rw [if_pos (.inl ca)]; exact fits_calls (tabY_ok conA0_ok) (ad_nTF a b m) (mk (beq_t ca) (beq_f cb)) hv (by rfl) w
    · rw [if_pos (.inr cb)]; exact fits_calls (tabY_ok conA0_ok) (ad_nFT a b m) (mk (beq_f ca) (beq_t cb)) hv (by rfl) w
    · rw [if_neg (by omega)]; exact fits_calls (tabY_ok conA0_ok) (ad_nFF a b m) (mk (beq_f ca) (beq_f cb)) hv (by rfl) w
  · have g1 : decide (cl a > 3) = false := decide_eq_false hna
    have ca : (cl a == 5) = false := beq_f (by omega)
    by_cases hnb : 3 < cl b
    · have g2 : decide (cl b > 3) = true := decide_eq_true hnb
      rw [if_pos (.inr hnb), if_pos (.inr hnb)]
      by_cases cb : cl b = 5
      · rw [if_pos (.inr cb)]
        exact fits_calls (tabY_ok conA0_ok) (ad_mT a b m) (okCons k2 (okCons (beq_t cb) (okCons kb (okCons g2 (okCons kb (okCons k1 (okCons ca (okCons ka (okCons g1 (okCons ka (okL1 k0))))))))))) hv (by rfl) w
      · rw [if_neg (by omega)]
        exact fits_calls (tabY_ok conA0_ok) (ad_mF a b m) (okCons k2 (okCons (beq_f cb) (okCons kb (okCons g2 (okCons kb (okCons k1 (okCons ca (okCons ka (okCons g1 (okCons ka (okL1 k0))))))))))) hv (by rfl) w
    · have g2 : decide (cl b > 3) = false := decide_eq_false hnb
      have cb : (cl b == 5) = false := beq_f (by omega)
      have lN : okLog [lp2, (cl b == 5, false), lU b, (decide (cl b > 3), false), lU b, lp1, (cl a == 5, false), lU a, (decide (cl a > 3), false), lU a, lp0] :=
        okCons k2 (okCons cb (okCons kb (okCons g2 (okCons kb (okCons k1 (okCons ca (okCons ka (okCons g1 (okCons ka (okL1 k0))))))))))
      have hno : ¬ (3 < cl a ∨ 3 < cl b) := by omega
      rw [if_neg hno, if_neg hno]
      by_cases ea : cl a = 3
      · rw [if_pos ea, if_pos ea]
        by_cases eb : cl b = 3
        · by_cases hab : a = b
          · rw [if_neg (fun h => h.2 hab), if_neg (fun h => h.2 hab)]
            exact fits_calls (tabY_ok conA0_ok) (ad_is a b m) (okCons (beq_t ea) (okCons ka (okCons (bne_f hab) (okCons (beq_t eb) (okCons kb (okCons (beq_t ea) (okCons ka lN))))))) hv (by rfl) w
          · rw [if_pos ⟨eb, hab⟩, if_pos ⟨eb, hab⟩]
            exact fits_calls (tabY_ok conA0_ok) (ad_ii a b m) (okCons (bne_t hab) (okCons (beq_t eb) (okCons kb (okCons (beq_t ea) (okCons ka lN))))) hv (by rfl) w
        · rw [if_neg (fun h => eb h.1), if_neg (fun h => eb h.1)]
          exact fits_calls (tabY_ok conA0_ok) (ad_ia a b m) (okCons (beq_t ea) (okCons ka (okCons (beq_f eb) (okCons kb (okCons (beq_t ea) (okCons ka lN)))))) hv (by rfl) w
      · rw [if_neg ea, if_neg ea]
        by_cases eb : cl b = 3
        · rw [if_pos eb, if_pos eb]
          exact fits_calls (tabY_ok conA0_ok) (ad_ib a b m) (okCons (beq_t eb) (okCons kb (okCons (beq_f ea) (okCons ka (okCons (beq_f ea) (okCons ka lN)))))) hv (by rfl) w
        · rw [if_neg eb, if_neg eb]
          have mA : May (xp a) (wSg a).nat := by rw [wSg_nat]; exact may_pat a
          have mB : May (xp b) (wSg b).nat := by rw [wSg_nat]; exact may_pat b
          have kE : okEx (xp a) (wSg a) false (xp b) (wSg b) false = true := decide_eq_true ⟨wSg_ok a, wSg_ok b, rfl, rfl, (may_iff (wSg_ok a)).2 mA, (may_iff (wSg_ok b)).2 mB⟩
          have fa : decide (cl a ≤ 2) = true := decide_eq_true (by omega)
          have fb : decide (cl b ≤ 2) = true := decide_eq_true (by omega)
          have hf := ad_fin a b m
          rw [xu_rd m m mA mB (xp_bd a).1 (xp_bd b).1, wSg_nat, wSg_nat] at hf
          exact fits_calls (tabY_ok conA0_ok) hf (okCons (decide_eq_true (ofN_ok _)) (okCons kE (okCons kb (okCons fb (okCons kb (okCons ka (okCons fa (okCons ka (okCons (beq_f eb) (okCons kb (okCons (beq_f ea) (okCons ka (okCons (beq_f ea) (okCons ka lN)))))))))))))) hv (by rfl) w
def gSA : Ans := fun vals s =>
  match vals with
  | [.int .u64 a, .int .u64 b, .int .i64 m] => some (suV m a b, s, [(decide (U a ∧ U b), true)])
  | _ => none
theorem gSA_ok : AnsOk 91 gSA := by
  intro vals s v s' lg h hl w
  unfold gSA at h
  split at h
  · cases h
    obtain ⟨h1, h2⟩ := of_decide_eq_true (hl _ (List.mem_singleton.2 rfl))
    exact sadd_calls _ _ _ h1 h2 w
  · cases h
end Go.Proofs.YtjkgnbdeklploaaGreatDoor
namespace Go.Proofs.YtjkgnbdeklploaaGreatDoor
open Go.KRun Go.Wd
def lo32 (z : Int) : Int := IntKind.u64.wrap ((BitVec.ofInt 64 z &&& BitVec.ofInt 64 4294967295).toNat : Nat)
def hi32 (z : Int) : Int := z.fdiv (2 ^ min ((32 : Int).toNat) 64)
def l32 : Bool × Bool := (decide ((32 : Int) < 0), false)
theorem hi32_eq (z : Int) : hi32 z = z / 4294967296 := by
  unfold hi32
  rw [show (2 : Int) ^ min ((32 : Int).toNat) 64 = 4294967296 from rfl, Int.fdiv_eq_ediv_of_nonneg _ (by omega)]
theorem lo32_eq {z : Int} (h0 : 0 ≤ z) (h1 : z < 18446744073709551616) : lo32 z = z % 4294967296 := by
  unfold lo32
  have e1 : (BitVec.ofInt 64 z).toNat = z.toNat := by
    rw [BitVec.toNat_ofInt]
    omega
  have e2 : (BitVec.ofInt 64 4294967295).toNat = 2 ^ 32 - 1 := by rfl
  rw [BitVec.toNat_and, e1, e2, Nat.and_two_pow_sub_one_eq_mod, wrap_u64]
  omega
def mT (x y : Int) : Int := IntKind.u64.wrap (IntKind.u64.wrap (hi32 x * lo32 y) + hi32 (IntKind.u64.wrap (lo32 x * lo32 y)))
def mW (x y : Int) : Int := IntKind.u64.wrap (lo32 (mT x y) + IntKind.u64.wrap (lo32 x * hi32 y))
def mH (x y : Int) : Int := IntKind.u64.wrap (IntKind.u64.wrap (IntKind.u64.wrap (hi32 x * hi32 y) + hi32 (mT x y)) + hi32 (mW x y))
def mL (x y : Int) : Int := IntKind.u64.wrap (x * y)
abbrev u_ (n : Int) : Value := .int .u64 n
theorem mul64_fits (x y : Int) : Fits (reckon (tabOf Tryz.prog extY conN true) 3000 108 [u_ x, u_ y] []) (.tuple #[u_ (mH x y), u_ (mL x y)]) [l32, l32, l32, l32, l32] := ⟨by kernel_rfl, by kernel_rfl, by kernel_rfl, by kernel_rfl⟩
theorem mul_split (x y : Int) (hx : 0 ≤ x ∧ x < 18446744073709551616) (hy : 0 ≤ y ∧ y < 18446744073709551616) : mH x y = x * y / 18446744073709551616 ∧ mL x y = x * y % 18446744073709551616 := by
  refine ⟨?_, by unfold mL; rw [wrap_u64]⟩
  have x0 : 0 ≤ x % 4294967296 ∧ x % 4294967296 < 4294967296 := by omega
  have y0 : 0 ≤ y % 4294967296 ∧ y % 4294967296 < 4294967296 := by omega
  have x1 : 0 ≤ x / 4294967296 ∧ x / 4294967296 < 4294967296 := by omega
  have y1 : 0 ≤ y / 4294967296 ∧ y / 4294967296 < 4294967296 := by omega
  have bd : ∀ p q : Int, (0 ≤ p ∧ p < 4294967296) → (0 ≤ q ∧ q < 4294967296) → 0 ≤ p * q ∧ p * q ≤ 18446744065119617025 := fun p q hp hq => by
    refine ⟨Int.mul_nonneg hp.1 hq.1, ?_⟩
    have := Int.mul_le_mul (show p ≤ 4294967295 by omega) (show q ≤ 4294967295 by omega) hq.1 (by omega)
    omega
  have ex : x * y = 18446744073709551616 * (x / 4294967296 * (y / 4294967296)) + 4294967296 * (x / 4294967296 * (y % 4294967296)) + 4294967296 * (x % 4294967296 * (y / 4294967296)) + x % 4294967296 * (y % 4294967296) := by
    have h1 := Int.mul_ediv_add_emod x 4294967296
    have h2 := Int.mul_ediv_add_emod y 4294967296
    generalize x / 4294967296 = p at *
    generalize x % 4294967296 = q at *
    generalize y / 4294967296 = r at *
    generalize y % 4294967296 = s at *
    rw [← h1, ← h2, Int.add_mul, Int.mul_add, Int.mul_add, Int.mul_assoc, Int.mul_left_comm p, Int.mul_left_comm q, Int.mul_assoc]
    omega
  have a1 := bd _ _ x0 y0
  have a2 := bd _ _ x1 y0
  have a3 := bd _ _ x0 y1
  have a4 := bd _ _ x1 y1
  unfold mH mW mT
  simp only [hi32_eq, lo32_eq hx.1 hx.2, lo32_eq hy.1 hy.2]
  generalize x / 4294967296 * (y / 4294967296) = d at *
  generalize x / 4294967296 * (y % 4294967296) = b at *
  generalize x % 4294967296 * (y / 4294967296) = c at *
  generalize x % 4294967296 * (y % 4294967296) = a at *
  rw [ex]
  have w1 : IntKind.u64.wrap a = a := wrap_u64' (by omega) (by omega)
  have w2 : IntKind.u64.wrap b = b := wrap_u64' (by omega) (by omega)
  have w3 : IntKind.u64.wrap c = c := wrap_u64' (by omega) (by omega)
  have w4 : IntKind.u64.wrap d = d := wrap_u64' (by omega) (by omega)
  have w5 : IntKind.u64.wrap (b + a / 4294967296) = b + a / 4294967296 := wrap_u64' (by omega) (by omega)
  rw [w1, w2, w3, w4, w5, lo32_eq (z := b + a / 4294967296) (by omega) (by omega)]
  rw [wrap_u64' (n := (b + a / 4294967296) % 4294967296 + c) (by omega) (by omega), wrap_u64' (n := d + (b + a / 4294967296) / 4294967296) (by omega) (by omega), wrap_u64' (by omega) (by omega)]
  omega
theorem l32_ok : l32.1 = l32.2 := rfl
abbrev word (x : Int) : Prop := 0 ≤ x ∧ x < 18446744073709551616
theorem mul64_calls (x y : Int) (hx : word x) (hy : word y) (w : World) : Calls Tryz.prog 108 #[u_ x, u_ y] w fun e w' => e = .returned (.tuple #[u_ (x * y / 18446744073709551616), u_ (x * y % 18446744073709551616)]) ∧ Tidy w w' := by
  have h := fits_calls (tabY_ok conN_ok) (mul64_fits x y) (okCons l32_ok (okCons l32_ok (okCons l32_ok (okCons l32_ok (okL1 l32_ok))))) (by rfl) (by rfl) w
  obtain ⟨e1, e2⟩ := mul_split x y hx hy
  rw [e1, e2] at h
  exact h
end Go.Proofs.YtjkgnbdeklploaaGreatDoor
