/-
  sums.Exact, as a call in every world.
-/
import Derived.Test.YtgmfnecdpfdncaaSuA
namespace Go.Proofs.Ytgmfnecdpfdncaa
open Go.KRun Go.Wd Go.Pt Go.Rn
set_option maxRecDepth 100000

def uE (Ex : Int) (X : W4) (Ey : Int) (Y : W4) : Int := IntKind.i64.wrap ((if topN Ey Y.nat > topN Ex X.nat then topN Ey Y.nat else topN Ex X.nat) - 254)
def eX (Ex : Int) (X : W4) (Ey : Int) (Y : W4) : W4 := ofN (iuQ Ex (uE Ex X Ey Y) X.nat)
def eY (Ex : Int) (X : W4) (Ey : Int) (Y : W4) : W4 := ofN (iuQ Ey (uE Ex X Ey Y) Y.nat)
def bX (Ex : Int) (X : W4) (Ey : Int) (Y : W4) : Bool := iuB Ex (uE Ex X Ey Y) X.nat
def bY (Ex : Int) (X : W4) (Ey : Int) (Y : W4) : Bool := iuB Ey (uE Ex X Ey Y) Y.nat
def lIu (X : W4) (Ex u : Int) : Bool × Bool := (okIu X Ex u, true)
def lEx (X Y : W4) (Ex Ey : Int) : Log := [lIu Y Ey (uE Ex X Ey Y), lIu X Ex (uE Ex X Ey Y), lIu Y Ey (uE Ex X Ey Y), lIu Y Ey (uE Ex X Ey Y), lIu X Ex (uE Ex X Ey Y), lIu Y Ey (uE Ex X Ey Y), lIu X Ex (uE Ex X Ey Y), lIu Y Ey (uE Ex X Ey Y), lIu Y Ey (uE Ex X Ey Y), lIu X Ex (uE Ex X Ey Y), lIu Y Ey (uE Ex X Ey Y), lIu Y Ey (uE Ex X Ey Y), lIu Y Ey (uE Ex X Ey Y), lIu Y Ey (uE Ex X Ey Y), lIu Y Ey (uE Ex X Ey Y), lIu X Ex (uE Ex X Ey Y), (okTp Y Ey, true), (okTp X Ex, true), (mayB Ey Y false, true), (decide Y.ok, true), (mayB Ex X false, true), (decide X.ok, true)]
theorem ex_sff (X Y : W4) (Ex Ey m : Int) : Fits (reckon (tabOf Try.prog extY conSu true) 300 18 [vN false Ex X false, vN false Ey Y false, .int .i64 m] [cmp true, cmp true]) (.tuple #[vN false (uE Ex X Ey Y) (ofN ((eX Ex X Ey Y).nat + (eY Ex X Ey Y).nat)) ((bX Ex X Ey Y) || (bY Ex X Ey Y)), .nilIface]) ((decide ((eX Ex X Ey Y).ok ∧ (eY Ex X Ey Y).ok), true) :: lEx X Y Ex Ey) := ⟨by kernel_rfl, by kernel_rfl, by kernel_rfl, by kernel_rfl⟩
theorem ex_gft (X Y : W4) (Ex Ey m : Int) : Fits (reckon (tabOf Try.prog extY conSu true) 300 18 [vN false Ex X false, vN true Ey Y false, .int .i64 m] [cmp true, cmp true, num 1]) (.tuple #[vN false (uE Ex X Ey Y) (ofN (apQ (eX Ex X Ey Y).nat (eY Ex X Ey Y).nat (bY Ex X Ey Y))) ((bX Ex X Ey Y) || (bY Ex X Ey Y)), .nilIface]) ((decide ((eX Ex X Ey Y).ok ∧ (eY Ex X Ey Y).ok ∧ (eY Ex X Ey Y).nat < (eX Ex X Ey Y).nat), true) :: (decide ((eX Ex X Ey Y).ok ∧ (eY Ex X Ey Y).ok), true) :: (decide (cmpI (eX Ex X Ey Y) (eY Ex X Ey Y) = 1), true) :: lEx X Y Ex Ey) := ⟨by kernel_rfl, by kernel_rfl, by kernel_rfl, by kernel_rfl⟩
theorem ex_lft (X Y : W4) (Ex Ey m : Int) : Fits (reckon (tabOf Try.prog extY conSu true) 300 18 [vN false Ex X false, vN true Ey Y false, .int .i64 m] [cmp true, cmp true, num (-1)]) (.tuple #[vN true (uE Ex X Ey Y) (ofN (apQ (eY Ex X Ey Y).nat (eX Ex X Ey Y).nat (bX Ex X Ey Y))) ((bY Ex X Ey Y) || (bX Ex X Ey Y)), .nilIface]) ((decide ((eY Ex X Ey Y).ok ∧ (eX Ex X Ey Y).ok ∧ (eX Ex X Ey Y).nat < (eY Ex X Ey Y).nat), true) :: (decide ((eX Ex X Ey Y).ok ∧ (eY Ex X Ey Y).ok), true) :: (decide (cmpI (eX Ex X Ey Y) (eY Ex X Ey Y) = -1), true) :: lEx X Y Ex Ey) := ⟨by kernel_rfl, by kernel_rfl, by kernel_rfl, by kernel_rfl⟩
theorem ex_zft (X Y : W4) (Ex Ey m : Int) : Fits (reckon (tabOf Try.prog extY conSu true) 300 18 [vN false Ex X false, vN true Ey Y false, .int .i64 m] [cmp true, cmp true, num 0]) (.tuple #[vN (m == 4) (uE Ex X Ey Y) ⟨0, 0, 0, 0⟩ false, .nilIface]) ((decide ((eX Ex X Ey Y).ok ∧ (eY Ex X Ey Y).ok), true) :: (decide (cmpI (eX Ex X Ey Y) (eY Ex X Ey Y) = 0), true) :: lEx X Y Ex Ey) := ⟨by kernel_rfl, by kernel_rfl, by kernel_rfl, by kernel_rfl⟩
theorem ex_gtf (X Y : W4) (Ex Ey m : Int) : Fits (reckon (tabOf Try.prog extY conSu true) 300 18 [vN true Ex X false, vN false Ey Y false, .int .i64 m] [cmp true, cmp true, num 1]) (.tuple #[vN true (uE Ex X Ey Y) (ofN (apQ (eX Ex X Ey Y).nat (eY Ex X Ey Y).nat (bY Ex X Ey Y))) ((bX Ex X Ey Y) || (bY Ex X Ey Y)), .nilIface]) ((decide ((eX Ex X Ey Y).ok ∧ (eY Ex X Ey Y).ok ∧ (eY Ex X Ey Y).nat < (eX Ex X Ey Y).nat), true) :: (decide ((eX Ex X Ey Y).ok ∧ (eY Ex X Ey Y).ok), true) :: (decide (cmpI (eX Ex X Ey Y) (eY Ex X Ey Y) = 1), true) :: lEx X Y Ex Ey) := ⟨by kernel_rfl, by kernel_rfl, by kernel_rfl, by kernel_rfl⟩
theorem ex_ltf (X Y : W4) (Ex Ey m : Int) : Fits (reckon (tabOf Try.prog extY conSu true) 300 18 [vN true Ex X false, vN false Ey Y false, .int .i64 m] [cmp true, cmp true, num (-1)]) (.tuple #[vN false (uE Ex X Ey Y) (ofN (apQ (eY Ex X Ey Y).nat (eX Ex X Ey Y).nat (bX Ex X Ey Y))) ((bY Ex X Ey Y) || (bX Ex X Ey Y)), .nilIface]) ((decide ((eY Ex X Ey Y).ok ∧ (eX Ex X Ey Y).ok ∧ (eX Ex X Ey Y).nat < (eY Ex X Ey Y).nat), true) :: (decide ((eX Ex X Ey Y).ok ∧ (eY Ex X Ey Y).ok), true) :: (decide (cmpI (eX Ex X Ey Y) (eY Ex X Ey Y) = -1), true) :: lEx X Y Ex Ey) := ⟨by kernel_rfl, by kernel_rfl, by kernel_rfl, by kernel_rfl⟩
theorem ex_ztf (X Y : W4) (Ex Ey m : Int) : Fits (reckon (tabOf Try.prog extY conSu true) 300 18 [vN true Ex X false, vN false Ey Y false, .int .i64 m] [cmp true, cmp true, num 0]) (.tuple #[vN (m == 4) (uE Ex X Ey Y) ⟨0, 0, 0, 0⟩ false, .nilIface]) ((decide ((eX Ex X Ey Y).ok ∧ (eY Ex X Ey Y).ok), true) :: (decide (cmpI (eX Ex X Ey Y) (eY Ex X Ey Y) = 0), true) :: lEx X Y Ex Ey) := ⟨by kernel_rfl, by kernel_rfl, by kernel_rfl, by kernel_rfl⟩
theorem ex_stt (X Y : W4) (Ex Ey m : Int) : Fits (reckon (tabOf Try.prog extY conSu true) 300 18 [vN true Ex X false, vN true Ey Y false, .int .i64 m] [cmp true, cmp true]) (.tuple #[vN true (uE Ex X Ey Y) (ofN ((eX Ex X Ey Y).nat + (eY Ex X Ey Y).nat)) ((bX Ex X Ey Y) || (bY Ex X Ey Y)), .nilIface]) ((decide ((eX Ex X Ey Y).ok ∧ (eY Ex X Ey Y).ok), true) :: lEx X Y Ex Ey) := ⟨by kernel_rfl, by kernel_rfl, by kernel_rfl, by kernel_rfl⟩

/-! ### its numbers -/
theorem may_iff {E : Int} {X : W4} (_h : X.ok) : mayB E X false = true ↔ May E X.nat := by
  have hl : lenI X ≤ 128 ↔ X.nat < 2 ^ 128 := by
    rw [lenI_nat]
    constructor
    · intro h1
      exact Nat.lt_of_lt_of_le (bitLen_spec X.nat).1 (Nat.pow_le_pow_right (by omega) (by omega))
    · intro h1
      have := len_le h1
      omega
  unfold mayB May
  simp only [Bool.and_eq_true, decide_eq_true_eq, Bool.not_false, and_true, hl]
  exact ⟨fun ⟨⟨a, b⟩, c⟩ => ⟨a, b, c⟩, fun ⟨a, b, c⟩ => ⟨⟨a, b⟩, c⟩⟩
theorem top_bd {E : Int} {X : Nat} (h : May E X) : -100000 ≤ topN E X ∧ topN E X ≤ 100128 := by
  obtain ⟨a, b, c⟩ := h
  have := len_le a
  unfold topN
  split <;> omega
theorem un_bd {Ex Ey : Int} {X Y : Nat} (hX : May Ex X) (hY : May Ey Y) : -100254 ≤ unN Ex X Ey Y ∧ unN Ex X Ey Y ≤ 100128 := by
  have h1 := top_bd hX
  have h2 := top_bd hY
  unfold unN
  omega
theorem uE_eq {Ex Ey : Int} {X Y : W4} (hX : May Ex X.nat) (hY : May Ey Y.nat) : uE Ex X Ey Y = unN Ex X.nat Ey Y.nat := by
  have h1 := top_bd hX
  have h2 := top_bd hY
  have e : (if topN Ey Y.nat > topN Ex X.nat then topN Ey Y.nat else topN Ex X.nat) = max (topN Ex X.nat) (topN Ey Y.nat) := by split <;> omega
  unfold uE unN
  rw [e, wrapI' ⟨by omega, by omega⟩]
theorem cmpI_of {x y : W4} (hx : x.ok) (hy : y.ok) : (y.nat < x.nat → cmpI x y = 1) ∧ (x.nat < y.nat → cmpI x y = -1) ∧ (x.nat = y.nat → cmpI x y = 0) := by
  have e1 := W4.nat_val hx
  have e2 := W4.nat_val hy
  unfold cmpI
  refine ⟨fun h => ?_, fun h => ?_, fun h => ?_⟩
  · rw [if_neg (by omega), if_neg (by omega)]
  · rw [if_pos (by omega)]
  · rw [if_neg (by omega), if_pos (by omega)]
def xuV (m : Int) (nx : Bool) (Ex : Int) (X : W4) (ny : Bool) (Ey : Int) (Y : W4) : Value := vN (xuN m nx Ex X.nat ny Ey Y.nat) (unN Ex X.nat Ey Y.nat) (ofN (xuQ nx Ex X.nat ny Ey Y.nat)) (xuB nx Ex X.nat ny Ey Y.nat)
theorem exact_calls (nx ny : Bool) (X Y : W4) (Ex Ey m : Int) (hX : X.ok) (hY : Y.ok) (mX : mayB Ex X false = true) (mY : mayB Ey Y false = true) (w : World) : Calls Try.prog 18 #[vN nx Ex X false, vN ny Ey Y false, .int .i64 m] w fun r w' => r = .returned (.tuple #[xuV m nx Ex X ny Ey Y, .nilIface]) ∧ Tidy w w' := by
  have dX := (may_iff hX).1 mX
  have dY := (may_iff hY).1 mY
  have eu := uE_eq dX dY
  have hu := un_bd dX dY
  have kx : decide X.ok = true := decide_eq_true hX
  have ky : decide Y.ok = true := decide_eq_true hY
  have tx : okTp X Ex = true := decide_eq_true ⟨hX, by have := dX.2; omega, by have := dX.2; omega⟩
  have ty : okTp Y Ey = true := decide_eq_true ⟨hY, by have := dY.2; omega, by have := dY.2; omega⟩
  have ix : okIu X Ex (uE Ex X Ey Y) = true := decide_eq_true ⟨hX, by have := dX.2; omega, by have := dX.2; omega, by omega, by omega⟩
  have iy : okIu Y Ey (uE Ex X Ey Y) = true := decide_eq_true ⟨hY, by have := dY.2; omega, by have := dY.2; omega, by omega, by omega⟩
  have hlog : okLog (lEx X Y Ex Ey) := by simp only [lEx, lIu, okCs, okNl, kx, ky, tx, ty, ix, iy, mX, mY, and_self]
  have lx := iuQ_lt (Ex := Ex) (Ey := Ey) (X := X.nat) (Y := Y.nat)
  have ly := iuQ_lt (Ex := Ey) (Ey := Ex) (X := Y.nat) (Y := X.nat)
  rw [un_comm] at ly
  have e256 : (2 : Nat) ^ 256 = 4 * 2 ^ 254 := rfl
  have ox : (eX Ex X Ey Y).ok := ofN_ok _
  have oy : (eY Ex X Ey Y).ok := ofN_ok _
  have nX : (eX Ex X Ey Y).nat = iuQ Ex (unN Ex X.nat Ey Y.nat) X.nat := by unfold eX; rw [eu]; exact ofN_nat (by omega)
  have nY : (eY Ex X Ey Y).nat = iuQ Ey (unN Ex X.nat Ey Y.nat) Y.nat := by unfold eY; rw [eu]; exact ofN_nat (by omega)
  have k2 : decide ((eX Ex X Ey Y).ok ∧ (eY Ex X Ey Y).ok) = true := decide_eq_true ⟨ox, oy⟩
  have cbX : bX Ex X Ey Y = iuB Ex (unN Ex X.nat Ey Y.nat) X.nat := by unfold bX; rw [eu]
  have cbY : bY Ex X Ey Y = iuB Ey (unN Ex X.nat Ey Y.nat) Y.nat := by unfold bY; rw [eu]
  obtain ⟨cg, cl', cz⟩ := cmpI_of ox oy
  have hv : ∀ a b : Bool, ([vN a Ex X false, vN b Ey Y false, .int .i64 m].all (lt 0)) = true := fun a b => rfl
  by_cases hn : nx = ny
  · have ev : xuV m nx Ex X ny Ey Y = vN nx (uE Ex X Ey Y) (ofN ((eX Ex X Ey Y).nat + (eY Ex X Ey Y).nat)) ((bX Ex X Ey Y) || (bY Ex X Ey Y)) := by
      unfold xuV xuN xuQ xuB exN exQ exB
      rw [if_pos hn, if_pos hn, if_pos hn, eu, nX, nY, cbX, cbY]
    rw [ev]
    subst hn
    cases nx
    · exact fits_calls (tabY_ok conSu_ok) (ex_sff X Y Ex Ey m) (okCons k2 hlog) (hv _ _) (by rfl) w
    · exact fits_calls (tabY_ok conSu_ok) (ex_stt X Y Ex Ey m) (okCons k2 hlog) (hv _ _) (by rfl) w
  · rcases Nat.lt_trichotomy (eX Ex X Ey Y).nat (eY Ex X Ey Y).nat with h | h | h
    · have ev : xuV m nx Ex X ny Ey Y = vN ny (uE Ex X Ey Y) (ofN (apQ (eY Ex X Ey Y).nat (eX Ex X Ey Y).nat (bX Ex X Ey Y))) ((bY Ex X Ey Y) || (bX Ex X Ey Y)) := by
        rw [nX, nY] at h
        unfold xuV xuN xuQ xuB exN exQ exB apQ
        rw [if_neg hn, if_neg hn, if_neg hn, if_neg (Nat.lt_asymm h), if_pos h, if_neg (Nat.lt_asymm h), if_pos h, if_neg (Nat.lt_asymm h), if_pos h, eu, nX, nY, cbX, cbY]
      have k3 : decide ((eY Ex X Ey Y).ok ∧ (eX Ex X Ey Y).ok ∧ (eX Ex X Ey Y).nat < (eY Ex X Ey Y).nat) = true := decide_eq_true ⟨oy, ox, h⟩
      have k4 : decide (cmpI (eX Ex X Ey Y) (eY Ex X Ey Y) = -1) = true := decide_eq_true (cl' h)
      rw [ev]
      cases nx <;> cases ny
      · exact absurd rfl hn
      · exact fits_calls (tabY_ok conSu_ok) (ex_lft X Y Ex Ey m) (okCons k3 (okCons k2 (okCons k4 hlog))) (hv _ _) (by rfl) w
      · exact fits_calls (tabY_ok conSu_ok) (ex_ltf X Y Ex Ey m) (okCons k3 (okCons k2 (okCons k4 hlog))) (hv _ _) (by rfl) w
      · exact absurd rfl hn
    · have ev : xuV m nx Ex X ny Ey Y = vN (m == 4) (uE Ex X Ey Y) ⟨0, 0, 0, 0⟩ false := by
        rw [nX, nY] at h
        unfold xuV xuN xuQ xuB exN exQ exB
        rw [if_neg hn, if_neg hn, if_neg hn, h, if_neg (Nat.lt_irrefl _), if_neg (Nat.lt_irrefl _), if_neg (Nat.lt_irrefl _), if_neg (Nat.lt_irrefl _), if_neg (Nat.lt_irrefl _), if_neg (Nat.lt_irrefl _), eu, ofN_zero]
        rfl
      have k4 : decide (cmpI (eX Ex X Ey Y) (eY Ex X Ey Y) = 0) = true := decide_eq_true (cz h)
      rw [ev]
      cases nx <;> cases ny
      · exact absurd rfl hn
      · exact fits_calls (tabY_ok conSu_ok) (ex_zft X Y Ex Ey m) (okCons k2 (okCons k4 hlog)) (hv _ _) (by rfl) w
      · exact fits_calls (tabY_ok conSu_ok) (ex_ztf X Y Ex Ey m) (okCons k2 (okCons k4 hlog)) (hv _ _) (by rfl) w
      · exact absurd rfl hn
    · have ev : xuV m nx Ex X ny Ey Y = vN nx (uE Ex X Ey Y) (ofN (apQ (eX Ex X Ey Y).nat (eY Ex X Ey Y).nat (bY Ex X Ey Y))) ((bX Ex X Ey Y) || (bY Ex X Ey Y)) := by
        rw [nX, nY] at h
        unfold xuV xuN xuQ xuB exN exQ exB apQ
        rw [if_neg hn, if_neg hn, if_neg hn, if_pos h, if_pos h, if_pos h, eu, nX, nY, cbX, cbY]
      have k3 : decide ((eX Ex X Ey Y).ok ∧ (eY Ex X Ey Y).ok ∧ (eY Ex X Ey Y).nat < (eX Ex X Ey Y).nat) = true := decide_eq_true ⟨ox, oy, h⟩
      have k4 : decide (cmpI (eX Ex X Ey Y) (eY Ex X Ey Y) = 1) = true := decide_eq_true (cg h)
      rw [ev]
      cases nx <;> cases ny
      · exact absurd rfl hn
      · exact fits_calls (tabY_ok conSu_ok) (ex_gft X Y Ex Ey m) (okCons k3 (okCons k2 (okCons k4 hlog))) (hv _ _) (by rfl) w
      · exact fits_calls (tabY_ok conSu_ok) (ex_gtf X Y Ex Ey m) (okCons k3 (okCons k2 (okCons k4 hlog))) (hv _ _) (by rfl) w
      · exact absurd rfl hn
/-- a sum's condition -/
def okEx (Ex : Int) (X : W4) (b : Bool) (Ey : Int) (Y : W4) (c : Bool) : Bool := decide (X.ok ∧ Y.ok ∧ b = false ∧ c = false ∧ mayB Ex X false = true ∧ mayB Ey Y false = true)
def gEx : Ans := fun vals s =>
  match vals with
  | [v, t, .int .i64 m] =>
    match n7 v with
    | some (nx, Ex, X, b) =>
      match n7 t with
      | some (ny, Ey, Y, c) => some (.tuple #[xuV m nx Ex X ny Ey Y, .nilIface], s, [(okEx Ex X b Ey Y c, true)])
      | none => none
    | none => none
  | _ => none
theorem gEx_ok : AnsOk 18 gEx := by
  intro vals s v s' lg h hl w
  unfold gEx at h
  split at h
  · split at h
    · rename_i nx Ex X b hn
      split at h
      · rename_i ny Ey Y c hp
        cases h
        rw [n7_spec hn, n7_spec hp]
        obtain ⟨h1, h2, rfl, rfl, h5, h6⟩ := of_decide_eq_true (hl _ (List.mem_singleton.2 rfl))
        exact exact_calls nx ny X Y Ex Ey _ h1 h2 h5 h6 w
      · cases h
    · cases h
  · cases h
end Go.Proofs.Ytgmfnecdpfdncaa
