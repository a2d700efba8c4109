/-
  sums.Exact, as a call in every world.
-/
import Derived.Test.YtecaahiajbkioaaG12
import Derived.Test.YtecaahiajbkioaaG04
import Derived.Test.YtecaahiajbkioaaG06
import Derived.Test.YtecaahiajbkioaaG05
namespace Go.Proofs.Ytecaahiajbkioaa
open Go.KRun Go.Wd Go.Pt Go.Rn
set_option maxRecDepth 100000

def uE (Ex : Int) (X : W4) (Ey : Int) (Y : W4) : Int := IntKind.i64.wrap ((if topN Ey Y.nat > topN Ex X.nat then topN Ey Y.nat else topN Ex X.nat) - 254)
def eX (Ex : Int) (X : W4) (Ey : Int) (Y : W4) : W4 := ofN (iuQ Ex (uE Ex X Ey Y) X.nat)
def eY (Ex : Int) (X : W4) (Ey : Int) (Y : W4) : W4 := ofN (iuQ Ey (uE Ex X Ey Y) Y.nat)
def xbX (Ex : Int) (X : W4) (Ey : Int) (Y : W4) : Bool := iuB Ex (uE Ex X Ey Y) X.nat
def xbY (Ex : Int) (X : W4) (Ey : Int) (Y : W4) : Bool := iuB Ey (uE Ex X Ey Y) Y.nat
def lIu (X : W4) (Ex u : Int) : Bool × Bool := (okIu X Ex u, true)
def lEx (X Y : W4) (Ex Ey : Int) : Log := [lIu Y Ey (uE Ex X Ey Y), lIu X Ex (uE Ex X Ey Y), lIu Y Ey (uE Ex X Ey Y), lIu Y Ey (uE Ex X Ey Y), lIu X Ex (uE Ex X Ey Y), lIu Y Ey (uE Ex X Ey Y), lIu X Ex (uE Ex X Ey Y), lIu Y Ey (uE Ex X Ey Y), lIu Y Ey (uE Ex X Ey Y), lIu X Ex (uE Ex X Ey Y), lIu Y Ey (uE Ex X Ey Y), lIu Y Ey (uE Ex X Ey Y), lIu Y Ey (uE Ex X Ey Y), lIu Y Ey (uE Ex X Ey Y), lIu Y Ey (uE Ex X Ey Y), lIu X Ex (uE Ex X Ey Y), (okTp Y Ey, true), (okTp X Ex, true), (mayB Ey Y false, true), (decide Y.ok, true), (mayB Ex X false, true), (decide X.ok, true)]
theorem ex_sff (X Y : W4) (Ex Ey m : Int) : Fits (reckon (tabOf Try.prog extY conSu true) 300 31 [vN false Ex X false, vN false Ey Y false, .int .i64 m] [cmp true, cmp true]) (.tuple #[vN false (uE Ex X Ey Y) (ofN ((eX Ex X Ey Y).nat + (eY Ex X Ey Y).nat)) ((xbX Ex X Ey Y) || (xbY Ex X Ey Y)), .nilIface]) ((decide ((eX Ex X Ey Y).ok ∧ (eY Ex X Ey Y).ok), true) :: lEx X Y Ex Ey) := ⟨by kernel_rfl, by kernel_rfl, by kernel_rfl, by kernel_rfl⟩
theorem ex_gft (X Y : W4) (Ex Ey m : Int) : Fits (reckon (tabOf Try.prog extY conSu true) 300 31 [vN false Ex X false, vN true Ey Y false, .int .i64 m] [cmp true, cmp true, num 1]) (.tuple #[vN false (uE Ex X Ey Y) (ofN (apQ (eX Ex X Ey Y).nat (eY Ex X Ey Y).nat (xbY Ex X Ey Y))) ((xbX Ex X Ey Y) || (xbY Ex X Ey Y)), .nilIface]) ((decide ((eX Ex X Ey Y).ok ∧ (eY Ex X Ey Y).ok ∧ (eY Ex X Ey Y).nat < (eX Ex X Ey Y).nat), true) :: (decide ((eX Ex X Ey Y).ok ∧ (eY Ex X Ey Y).ok), true) :: (decide (cmpI (eX Ex X Ey Y) (eY Ex X Ey Y) = 1), true) :: lEx X Y Ex Ey) := ⟨by kernel_rfl, by kernel_rfl, by kernel_rfl, by kernel_rfl⟩
theorem ex_lft (X Y : W4) (Ex Ey m : Int) : Fits (reckon (tabOf Try.prog extY conSu true) 300 31 [vN false Ex X false, vN true Ey Y false, .int .i64 m] [cmp true, cmp true, num (-1)]) (.tuple #[vN true (uE Ex X Ey Y) (ofN (apQ (eY Ex X Ey Y).nat (eX Ex X Ey Y).nat (xbX Ex X Ey Y))) ((xbY Ex X Ey Y) || (xbX Ex X Ey Y)), .nilIface]) ((decide ((eY Ex X Ey Y).ok ∧ (eX Ex X Ey Y).ok ∧ (eX Ex X Ey Y).nat < (eY Ex X Ey Y).nat), true) :: (decide ((eX Ex X Ey Y).ok ∧ (eY Ex X Ey Y).ok), true) :: (decide (cmpI (eX Ex X Ey Y) (eY Ex X Ey Y) = -1), true) :: lEx X Y Ex Ey) := ⟨by kernel_rfl, by kernel_rfl, by kernel_rfl, by kernel_rfl⟩
theorem ex_zft (X Y : W4) (Ex Ey m : Int) : Fits (reckon (tabOf Try.prog extY conSu true) 300 31 [vN false Ex X false, vN true Ey Y false, .int .i64 m] [cmp true, cmp true, num 0]) (.tuple #[vN (m == 4) (uE Ex X Ey Y) ⟨0, 0, 0, 0⟩ false, .nilIface]) ((decide ((eX Ex X Ey Y).ok ∧ (eY Ex X Ey Y).ok), true) :: (decide (cmpI (eX Ex X Ey Y) (eY Ex X Ey Y) = 0), true) :: lEx X Y Ex Ey) := ⟨by kernel_rfl, by kernel_rfl, by kernel_rfl, by kernel_rfl⟩
theorem ex_gtf (X Y : W4) (Ex Ey m : Int) : Fits (reckon (tabOf Try.prog extY conSu true) 300 31 [vN true Ex X false, vN false Ey Y false, .int .i64 m] [cmp true, cmp true, num 1]) (.tuple #[vN true (uE Ex X Ey Y) (ofN (apQ (eX Ex X Ey Y).nat (eY Ex X Ey Y).nat (xbY Ex X Ey Y))) ((xbX Ex X Ey Y) || (xbY Ex X Ey Y)), .nilIface]) ((decide ((eX Ex X Ey Y).ok ∧ (eY Ex X Ey Y).ok ∧ (eY Ex X Ey Y).nat < (eX Ex X Ey Y).nat), true) :: (decide ((eX Ex X Ey Y).ok ∧ (eY Ex X Ey Y).ok), true) :: (decide (cmpI (eX Ex X Ey Y) (eY Ex X Ey Y) = 1), true) :: lEx X Y Ex Ey) := ⟨by kernel_rfl, by kernel_rfl, by kernel_rfl, by kernel_rfl⟩
theorem ex_ltf (X Y : W4) (Ex Ey m : Int) : Fits (reckon (tabOf Try.prog extY conSu true) 300 31 [vN true Ex X false, vN false Ey Y false, .int .i64 m] [cmp true, cmp true, num (-1)]) (.tuple #[vN false (uE Ex X Ey Y) (ofN (apQ (eY Ex X Ey Y).nat (eX Ex X Ey Y).nat (xbX Ex X Ey Y))) ((xbY Ex X Ey Y) || (xbX Ex X Ey Y)), .nilIface]) ((decide ((eY Ex X Ey Y).ok ∧ (eX Ex X Ey Y).ok ∧ (eX Ex X Ey Y).nat < (eY Ex X Ey Y).nat), true) :: (decide ((eX Ex X Ey Y).ok ∧ (eY Ex X Ey Y).ok), true) :: (decide (cmpI (eX Ex X Ey Y) (eY Ex X Ey Y) = -1), true) :: lEx X Y Ex Ey) := ⟨by kernel_rfl, by kernel_rfl, by kernel_rfl, by kernel_rfl⟩
theorem ex_ztf (X Y : W4) (Ex Ey m : Int) : Fits (reckon (tabOf Try.prog extY conSu true) 300 31 [vN true Ex X false, vN false Ey Y false, .int .i64 m] [cmp true, cmp true, num 0]) (.tuple #[vN (m == 4) (uE Ex X Ey Y) ⟨0, 0, 0, 0⟩ false, .nilIface]) ((decide ((eX Ex X Ey Y).ok ∧ (eY Ex X Ey Y).ok), true) :: (decide (cmpI (eX Ex X Ey Y) (eY Ex X Ey Y) = 0), true) :: lEx X Y Ex Ey) := ⟨by kernel_rfl, by kernel_rfl, by kernel_rfl, by kernel_rfl⟩
theorem ex_stt (X Y : W4) (Ex Ey m : Int) : Fits (reckon (tabOf Try.prog extY conSu true) 300 31 [vN true Ex X false, vN true Ey Y false, .int .i64 m] [cmp true, cmp true]) (.tuple #[vN true (uE Ex X Ey Y) (ofN ((eX Ex X Ey Y).nat + (eY Ex X Ey Y).nat)) ((xbX Ex X Ey Y) || (xbY Ex X Ey Y)), .nilIface]) ((decide ((eX Ex X Ey Y).ok ∧ (eY Ex X Ey Y).ok), true) :: lEx X Y Ex Ey) := ⟨by kernel_rfl, by kernel_rfl, by kernel_rfl, by kernel_rfl⟩

/-! ### its numbers -/
theorem may_iff {E : Int} {X : W4} (_h : X.ok) : mayB E X false = true ↔ May E X.nat := by
  have hl : lenI X ≤ 128 ↔ X.nat < 2 ^ 128 := by
    rw [lenI_nat]
    constructor
    · intro h1
      exact Nat.lt_of_lt_of_le (bitLen_spec X.nat).1 (Nat.pow_le_pow_right (by omega) (by omega))
    · intro h1
      have := len_le h1
      omega
  unfold mayB May
  simp only [Bool.and_eq_true, decide_eq_true_eq, Bool.not_false, and_true, hl]
  exact ⟨fun ⟨⟨a, b⟩, c⟩ => ⟨a, b, c⟩, fun ⟨a, b, c⟩ => ⟨⟨a, b⟩, c⟩⟩
theorem top_bd {E : Int} {X : Nat} (h : May E X) : -100000 ≤ topN E X ∧ topN E X ≤ 100128 := by
  obtain ⟨a, b, c⟩ := h
  have := len_le a
  unfold topN
  split <;> omega
theorem un_bd {Ex Ey : Int} {X Y : Nat} (hX : May Ex X) (hY : May Ey Y) : -100254 ≤ unN Ex X Ey Y ∧ unN Ex X Ey Y ≤ 100128 := by
  have h1 := top_bd hX
  have h2 := top_bd hY
  unfold unN
  omega
theorem uE_eq {Ex Ey : Int} {X Y : W4} (hX : May Ex X.nat) (hY : May Ey Y.nat) : uE Ex X Ey Y = unN Ex X.nat Ey Y.nat := by
  have h1 := top_bd hX
  have h2 := top_bd hY
  have e : (if topN Ey Y.nat > topN Ex X.nat then topN Ey Y.nat else topN Ex X.nat) = max (topN Ex X.nat) (topN Ey Y.nat) := by split <;> omega
  unfold uE unN
  rw [e, wrapI' ⟨by omega, by omega⟩]
theorem cmpI_of {x y : W4} (hx : x.ok) (hy : y.ok) : (y.nat < x.nat → cmpI x y = 1) ∧ (x.nat < y.nat → cmpI x y = -1) ∧ (x.nat = y.nat → cmpI x y = 0) := by
  have e1 := W4.nat_val hx
  have e2 := W4.nat_val hy
  unfold cmpI
  refine ⟨fun h => ?_, fun h => ?_, fun h => ?_⟩
  · rw [if_neg (by omega), if_neg (by omega)]
  · rw [if_pos (by omega)]
  · rw [if_neg (by omega), if_pos (by omega)]
def xuV (m : Int) (nx : Bool) (Ex : Int) (X : W4) (ny : Bool) (Ey : Int) (Y : W4) : Value := vN (xuN m nx Ex X.nat ny Ey Y.nat) (unN Ex X.nat Ey Y.nat) (ofN (xuQ nx Ex X.nat ny Ey Y.nat)) (xuB nx Ex X.nat ny Ey Y.nat)
theorem exact_calls (nx ny : Bool) (X Y : W4) (Ex Ey m : Int) (hX : X.ok) (hY : Y.ok) (mX : mayB Ex X false = true) (mY : mayB Ey Y false = true) (w : World) : Calls Try.prog 31 #[vN nx Ex X false, vN ny Ey Y false, .int .i64 m] w fun r w' => r = .returned (.tuple #[xuV m nx Ex X ny Ey Y, .nilIface]) ∧ Tidy w w' := by
  have dX := (may_iff hX).1 mX
  have dY := (may_iff hY).1 mY
  have eu := uE_eq dX dY
  have hu := un_bd dX dY
  have kx : decide X.ok = true := decide_eq_true hX
  have ky : decide Y.ok = true := decide_eq_true hY
  have tx : okTp X Ex = true := decide_eq_true ⟨hX, by have := dX.2; omega, by have := dX.2; omega⟩
  have ty : okTp Y Ey = true := decide_eq_true ⟨hY, by have := dY.2; omega, by have := dY.2; omega⟩
  have ix : okIu X Ex (uE Ex X Ey Y) = true := decide_eq_true ⟨hX, by have := dX.2; omega, by have := dX.2; omega, by omega, by omega⟩
  have iy : okIu Y Ey (uE Ex X Ey Y) = true := decide_eq_true ⟨hY, by have := dY.2; omega, by have := dY.2; omega, by omega, by omega⟩
  have hlog : okLog (lEx X Y Ex Ey) := by simp only [lEx, lIu, okCs, okNl, kx, ky, tx, ty, ix, iy, mX, mY, and_self]
  have lx := iuQ_lt (Ex := Ex) (Ey := Ey) (X := X.nat) (Y := Y.nat)
  have ly := iuQ_lt (Ex := Ey) (Ey := Ex) (X := Y.nat) (Y := X.nat)
  rw [un_comm] at ly
  have e256 : (2 : Nat) ^ 256 = 4 * 2 ^ 254 := rfl
  have ox : (eX Ex X Ey Y).ok := ofN_ok _
  have oy : (eY Ex X Ey Y).ok := ofN_ok _
  have nX : (eX Ex X Ey Y).nat = iuQ Ex (unN Ex X.nat Ey Y.nat) X.nat := by unfold eX; rw [eu]; exact ofN_nat (by omega)
  have nY : (eY Ex X Ey Y).nat = iuQ Ey (unN Ex X.nat Ey Y.nat) Y.nat := by unfold eY; rw [eu]; exact ofN_nat (by omega)
  have k2 : decide ((eX Ex X Ey Y).ok ∧ (eY Ex X Ey Y).ok) = true := decide_eq_true ⟨ox, oy⟩
  have cbX : xbX Ex X Ey Y = iuB Ex (unN Ex X.nat Ey Y.nat) X.nat := by unfold xbX; rw [eu]
  have cbY : xbY Ex X Ey Y = iuB Ey (unN Ex X.nat Ey Y.nat) Y.nat := by unfold xbY; rw [eu]
  obtain ⟨cg, cl', cz⟩ := cmpI_of ox oy
  have hv : ∀ a b : Bool, ([vN a Ex X false, vN b Ey Y false, .int .i64 m].all (lt 0)) = true := fun a b => rfl
  by_cases hn : nx = ny
  · have ev : xuV m nx Ex X ny Ey Y = vN nx (uE Ex X Ey Y) (ofN ((eX Ex X Ey Y).nat + (eY Ex X Ey Y).nat)) ((xbX Ex X Ey Y) || (xbY Ex X Ey Y)) := by
      unfold xuV xuN xuQ xuB exN exQ exB
      rw [if_pos hn, if_pos hn, if_pos hn, eu, nX, nY, cbX, cbY]
    rw [ev]
    subst hn
    cases nx
    · exact fits_calls (tabY_ok conSu_ok) (ex_sff X Y Ex Ey m) (okCons k2 hlog) (hv _ _) (by rfl) w
    · exact fits_calls (tabY_ok conSu_ok) (ex_stt X Y Ex Ey m) (okCons k2 hlog) (hv _ _) (by rfl) w
  · rcases Nat.lt_trichotomy (eX Ex X Ey Y).nat (eY Ex X Ey Y).nat with h | h | h
    · have ev : xuV m nx Ex X ny Ey Y = vN ny (uE Ex X Ey Y) (ofN (apQ (eY Ex X Ey Y).nat (eX Ex X Ey Y).nat (xbX Ex X Ey Y))) ((xbY Ex X Ey Y) || (xbX Ex X Ey Y)) := by
        rw [nX, nY] at h
        unfold xuV xuN xuQ xuB exN exQ exB apQ
        rw [if_neg hn, if_neg hn, if_neg hn, if_neg (Nat.lt_asymm h), if_pos h, if_neg (Nat.lt_asymm h), if_pos h, if_neg (Nat.lt_asymm h), if_pos h, eu, nX, nY, cbX, cbY]
      have k3 : decide ((eY Ex X Ey Y).ok ∧ (eX Ex X Ey Y).ok ∧ (eX Ex X Ey Y).nat < (eY Ex X Ey Y).nat) = true := decide_eq_true ⟨oy, ox, h⟩
      have k4 : decide (cmpI (eX Ex X Ey Y) (eY Ex X Ey Y) = -1) = true := decide_eq_true (cl' h)
      rw [ev]
      cases nx <;> cases ny
      · exact absurd rfl hn
      · exact fits_calls (tabY_ok conSu_ok) (ex_lft X Y Ex Ey m) (okCons k3 (okCons k2 (okCons k4 hlog))) (hv _ _) (by rfl) w
      · exact fits_calls (tabY_ok conSu_ok) (ex_ltf X Y Ex Ey m) (okCons k3 (okCons k2 (okCons k4 hlog))) (hv _ _) (by rfl) w
      · exact absurd rfl hn
    · have ev : xuV m nx Ex X ny Ey Y = vN (m == 4) (uE Ex X Ey Y) ⟨0, 0, 0, 0⟩ false := by
        rw [nX, nY] at h
        unfold xuV xuN xuQ xuB exN exQ exB
        rw [if_neg hn, if_neg hn, if_neg hn, h, if_neg (Nat.lt_irrefl _), if_neg (Nat.lt_irrefl _), if_neg (Nat.lt_irrefl _), if_neg (Nat.lt_irrefl _), if_neg (Nat.lt_irrefl _), if_neg (Nat.lt_irrefl _), eu, ofN_zero]
        rfl
      have k4 : decide (cmpI (eX Ex X Ey Y) (eY Ex X Ey Y) = 0) = true := decide_eq_true (cz h)
      rw [ev]
      cases nx <;> cases ny
      · exact absurd rfl hn
      · exact fits_calls (tabY_ok conSu_ok) (ex_zft X Y Ex Ey m) (okCons k2 (okCons k4 hlog)) (hv _ _) (by rfl) w
      · exact fits_calls (tabY_ok conSu_ok) (ex_ztf X Y Ex Ey m) (okCons k2 (okCons k4 hlog)) (hv _ _) (by rfl) w
      · exact absurd rfl hn
    · have ev : xuV m nx Ex X ny Ey Y = vN nx (uE Ex X Ey Y) (ofN (apQ (eX Ex X Ey Y).nat (eY Ex X Ey Y).nat (xbY Ex X Ey Y))) ((xbX Ex X Ey Y) || (xbY Ex X Ey Y)) := by
        rw [nX, nY] at h
        unfold xuV xuN xuQ xuB exN exQ exB apQ
        rw [if_neg hn, if_neg hn, if_neg hn, if_pos h, if_pos h, if_pos h, eu, nX, nY, cbX, cbY]
      have k3 : decide ((eX Ex X Ey Y).ok ∧ (eY Ex X Ey Y).ok ∧ (eY Ex X Ey Y).nat < (eX Ex X Ey Y).nat) = true := decide_eq_true ⟨ox, oy, h⟩
      have k4 : decide (cmpI (eX Ex X Ey Y) (eY Ex X Ey Y) = 1) = true := decide_eq_true (cg h)
      rw [ev]
      cases nx <;> cases ny
      · exact absurd rfl hn
      · exact fits_calls (tabY_ok conSu_ok) (ex_gft X Y Ex Ey m) (okCons k3 (okCons k2 (okCons k4 hlog))) (hv _ _) (by rfl) w
      · exact fits_calls (tabY_ok conSu_ok) (ex_gtf X Y Ex Ey m) (okCons k3 (okCons k2 (okCons k4 hlog))) (hv _ _) (by rfl) w
      · exact absurd rfl hn
/-- a sum's condition -/
def okEx (Ex : Int) (X : W4) (b : Bool) (Ey : Int) (Y : W4) (c : Bool) : Bool := decide (X.ok ∧ Y.ok ∧ b = false ∧ c = false ∧ mayB Ex X false = true ∧ mayB Ey Y false = true)
def gEx : Ans := fun vals s =>
  match vals with
  | [v, t, .int .i64 m] =>
    match n7 v with
    | some (nx, Ex, X, b) =>
      match n7 t with
      | some (ny, Ey, Y, c) => some (.tuple #[xuV m nx Ex X ny Ey Y, .nilIface], s, [(okEx Ex X b Ey Y c, true)])
      | none => none
    | none => none
  | _ => none
theorem gEx_ok : AnsOk 31 gEx := by
  intro vals s v s' lg h hl w
  unfold gEx at h
  split at h
  · split at h
    · rename_i nx Ex X b hn
      split at h
      · rename_i ny Ey Y c hp
        cases h
        rw [n7_spec hn, n7_spec hp]
        obtain ⟨h1, h2, rfl, rfl, h5, h6⟩ := of_decide_eq_true (hl _ (List.mem_singleton.2 rfl))
        exact exact_calls nx ny X Y Ex Ey _ h1 h2 h5 h6 w
      · cases h
    · cases h
  · cases h
end Go.Proofs.Ytecaahiajbkioaa

/-
  Layer 3's calls on patterns, as calls in every world: pat.Abs, pat.Class, pat.Take, and the document's own Take.
-/
namespace Go.Proofs.Ytecaahiajbkioaa
open Go.KRun Go.Pt
set_option maxRecDepth 100000

/-- a call with one word of 64 bits -/
def gU (k : Int → Value) : Ans := fun vals s =>
  match vals with
  | [.int .u64 p] => some (k p, s, [(decide (U p), true)])
  | _ => none
theorem gU_ok {f : Nat} {k : Int → Value} (hk : ∀ p : Int, U p → ∀ w, Calls Try.prog f #[.int .u64 p] w fun e w' => e = .returned (k p) ∧ Tidy w w') : AnsOk f (gU k) := by
  intro vals s v s' lg h hl w
  unfold gU at h
  split at h
  · cases h
    exact hk _ (of_decide_eq_true (hl _ (List.mem_singleton.2 rfl))) w
  · cases h

theorem abs_fits (p : Int) : Fits (reckon (tabOf Try.prog extY conN true) 300 72 [.int .u64 p] []) (.int .u64 (bNot p 9223372036854775808)) [] := ⟨by kernel_rfl, by kernel_rfl, by kernel_rfl, by kernel_rfl⟩
theorem abs_ok : AnsOk 72 (gU fun p => .int .u64 (mag p)) := gU_ok fun p hp w => by
  have := fits_calls (tabY_ok conN_ok) (abs_fits p) (fun x hx => by cases hx) (by rfl) (by rfl) w
  rw [bNot_sign hp] at this
  exact this
def conA : Con := alt 72 (gU fun p => .int .u64 (mag p)) conN
theorem conA_ok : ConOk conA := alt_ok Try.func72 rfl abs_ok conN_ok
/-- the exponent as the code reckons it -/
def exM (p : Int) : Int := IntKind.i64.wrap ((mag p).fdiv (2 ^ min (52 : Int).toNat 64))
theorem exM_eq (p : Int) : exM p = ex p := by
  have e : ((2 : Int) ^ min (52 : Int).toNat 64) = 4503599627370496 := by rfl
  unfold exM
  rw [e, Int.fdiv_eq_ediv_of_nonneg _ (by omega), ex_mag]
  have := ex_lt p
  exact wrapI' ⟨by omega, by omega⟩
def frM (p : Int) : Int := bAnd p 4503599627370495
def lX (p : Int) (l : Log) : Log := (decide ((52 : Int) < 0), false) :: (decide (U p), true) :: l
theorem lX_ok {p : Int} (hp : U p) : okLog (lX p []) := okCons rfl (okL1 (decide_eq_true hp))
def lQ (p : Int) : Bool := bAnd (frM p) 2251799813685248 != 0
theorem cls_small (p : Int) (d : Bool) : Fits (reckon (tabOf Try.prog extY conA true) 300 35 [.int .u64 p] [cmp true, cmp d]) (.int .i64 (match d with | true => 0 | false => 1)) ((frM p == 0, d) :: (exM p == 0, true) :: lX p []) := by
  cases d <;> exact ⟨by kernel_rfl, by kernel_rfl, by kernel_rfl, by kernel_rfl⟩
theorem cls_endless (p : Int) : Fits (reckon (tabOf Try.prog extY conA true) 300 35 [.int .u64 p] [cmp false, cmp true, cmp true]) (.int .i64 3) ((frM p == 0, true) :: (exM p == 2047, true) :: (exM p == 0, false) :: lX p []) := ⟨by kernel_rfl, by kernel_rfl, by kernel_rfl, by kernel_rfl⟩
theorem cls_great (p : Int) (d : Bool) : Fits (reckon (tabOf Try.prog extY conA true) 300 35 [.int .u64 p] [cmp false, cmp true, cmp false, cmp d]) (.int .i64 (match d with | true => 4 | false => 5)) ((lQ p, d) :: (frM p == 0, false) :: (exM p == 2047, true) :: (exM p == 0, false) :: lX p []) := by
  cases d <;> exact ⟨by kernel_rfl, by kernel_rfl, by kernel_rfl, by kernel_rfl⟩
theorem cls_plain (p : Int) : Fits (reckon (tabOf Try.prog extY conA true) 300 35 [.int .u64 p] [cmp false, cmp false]) (.int .i64 2) ((exM p == 2047, false) :: (exM p == 0, false) :: lX p []) := ⟨by kernel_rfl, by kernel_rfl, by kernel_rfl, by kernel_rfl⟩
theorem frM_eq {p : Int} (hp : U p) : frM p = fr p := bAnd_frac hp
theorem lQ_eq {p : Int} (hp : U p) : lQ p = decide (2251799813685248 ≤ fr p) := by
  have := fr_lt p
  unfold lQ
  rw [frM_eq hp, bAnd_quiet ⟨by omega, by omega⟩]
  by_cases h : 2251799813685248 ≤ fr p
  · rw [decide_eq_true h, show fr p / 2251799813685248 = 1 from by omega]; rfl
  · rw [decide_eq_false h, show fr p / 2251799813685248 = 0 from by omega]; rfl
theorem cls_ok : AnsOk 35 (gU fun p => .int .i64 (cl p)) := gU_ok fun p hp w => by
  have hl := lX_ok hp
  have ee := exM_eq p
  have ef := frM_eq hp
  unfold cl
  by_cases h0 : ex p = 0
  · rw [if_pos h0]
    have := fits_calls (tabY_ok conA_ok) (cls_small p (frM p == 0)) (okCons rfl (okCons (by rw [ee]; simp [h0]) hl)) (by rfl) (by cases (frM p == 0) <;> rfl) w
    rw [ef] at this
    by_cases h1 : fr p = 0
    · rw [if_pos h1]; rw [show (fr p == 0) = true from by simp [h1]] at this; exact this
    · rw [if_neg h1]; rw [show (fr p == 0) = false from by simp [h1]] at this; exact this
  · rw [if_neg h0]
    by_cases h2 : ex p = 2047
    · rw [if_pos h2]
      by_cases h1 : fr p = 0
      · rw [if_pos h1]
        exact fits_calls (tabY_ok conA_ok) (cls_endless p) (okCons (by rw [ef]; simp [h1]) (okCons (by rw [ee]; simp [h2]) (okCons (by rw [ee]; simp [h0]) hl))) (by rfl) (by rfl) w
      · rw [if_neg h1]
        have := fits_calls (tabY_ok conA_ok) (cls_great p (lQ p)) (okCons rfl (okCons (by rw [ef]; simp [h1]) (okCons (by rw [ee]; simp [h2]) (okCons (by rw [ee]; simp [h0]) hl)))) (by rfl) (by cases (lQ p) <;> rfl) w
        rw [lQ_eq hp] at this
        by_cases h3 : 2251799813685248 ≤ fr p
        · rw [if_pos h3]; rw [decide_eq_true h3] at this; exact this
        · rw [if_neg h3]; rw [decide_eq_false h3] at this; exact this
    · rw [if_neg h2]
      exact fits_calls (tabY_ok conA_ok) (cls_plain p) (okCons (by rw [ee]; simp [h2]) (okCons (by rw [ee]; simp [h0]) hl)) (by rfl) (by rfl) w
def conB : Con := alt 35 (gU fun p => .int .i64 (cl p)) conA
theorem conB_ok : ConOk conB := alt_ok Try.func35 rfl cls_ok conA_ok

/-! ### Take -/
def vP (m : Bool) (c e s : Int) : Value := .agg #[.bool m, .int .i64 c, .int .i64 e, .int .u64 s]
def vT (p : Int) : Value := vP (sgn p) (cl p) (xp p) (sg p)
def lS (p : Int) (d : Bool) : Bool × Bool := (bAnd p 9223372036854775808 != 0, d)
def lU (p : Int) : Bool × Bool := (decide (U p), true)
theorem take_nought (p : Int) (d : Bool) : Fits (reckon (tabOf Try.prog extY conB true) 300 57 [.int .u64 p] [cmp d, cmp true]) (vP d (cl p) (-1074) (frM p)) [(cl p == 0, true), lU p, lS p d] := ⟨by kernel_rfl, by kernel_rfl, by kernel_rfl, by kernel_rfl⟩
theorem take_tiny (p : Int) (d : Bool) : Fits (reckon (tabOf Try.prog extY conB true) 300 57 [.int .u64 p] [cmp d, cmp false, cmp true]) (vP d (cl p) (-1074) (frM p)) [(cl p == 1, true), (cl p == 0, false), lU p, lS p d] := ⟨by kernel_rfl, by kernel_rfl, by kernel_rfl, by kernel_rfl⟩
theorem take_plain (p : Int) (d : Bool) : Fits (reckon (tabOf Try.prog extY conB true) 300 57 [.int .u64 p] [cmp d, cmp false, cmp false, cmp true]) (vP d (cl p) (IntKind.i64.wrap (exM p - 1075)) (bOr (frM p) 4503599627370496)) [(decide ((52 : Int) < 0), false), lU p, (cl p == 2, true), (cl p == 1, false), (cl p == 0, false), lU p, lS p d] := ⟨by kernel_rfl, by kernel_rfl, by kernel_rfl, by kernel_rfl⟩
theorem take_great (p : Int) (d : Bool) : Fits (reckon (tabOf Try.prog extY conB true) 300 57 [.int .u64 p] [cmp d, cmp false, cmp false, cmp false]) (vP d (cl p) 0 (frM p)) [(cl p == 2, false), (cl p == 1, false), (cl p == 0, false), lU p, lS p d] := ⟨by kernel_rfl, by kernel_rfl, by kernel_rfl, by kernel_rfl⟩
theorem sign_eq {p : Int} (hp : U p) : (bAnd p 9223372036854775808 != 0) = sgn p := by
  rw [bAnd_sign hp]
  unfold sgn
  unfold U at hp
  by_cases h : 9223372036854775808 ≤ p
  · rw [decide_eq_true h, show p / 9223372036854775808 = 1 from by omega]; rfl
  · rw [decide_eq_false h, show p / 9223372036854775808 = 0 from by omega]; rfl
theorem cl_cases (p : Int) : (ex p = 0 ∧ (cl p = 0 ∨ cl p = 1)) ∨ (ex p = 2047 ∧ 3 ≤ cl p) ∨ (ex p ≠ 0 ∧ ex p ≠ 2047 ∧ cl p = 2) := by
  unfold cl
  split
  · split <;> omega
  · split
    · split
      · omega
      · split <;> omega
    · omega
theorem lead_or {p : Int} : bOr (fr p) 4503599627370496 = fr p + 4503599627370496 := by
  have := fr_lt p
  rw [or_low 52 (z := 1) (by omega) (by rfl) this.1 (show fr p < 2 ^ 52 from this.2) (by omega)]
  omega
theorem take_calls (p : Int) (hp : U p) (w : World) : Calls Try.prog 57 #[.int .u64 p] w fun e w' => e = .returned (vT p) ∧ Tidy w w' := by
  have hu : decide (U p) = true := decide_eq_true hp
  have hs := sign_eq hp
  have hf := frM_eq hp
  have he := exM_eq p
  have hx := ex_lt p
  unfold vT xp sg
  rcases cl_cases p with ⟨h1, h2⟩ | ⟨h1, h2⟩ | ⟨h1, h2, h3⟩
  · rw [if_pos h1, if_pos h1]
    rcases h2 with h2 | h2
    · have := fits_calls (tabY_ok conB_ok) (take_nought p (sgn p)) (okCons (by simp [h2]) (okCons hu (okL1 hs))) (by rfl) (by rfl) w
      rw [hf] at this
      exact this
    · have := fits_calls (tabY_ok conB_ok) (take_tiny p (sgn p)) (okCons (by simp [h2]) (okCons (by simp [h2]) (okCons hu (okL1 hs)))) (by rfl) (by rfl) w
      rw [hf] at this
      exact this
  · have h0 : ¬ ex p = 0 := by omega
    simp only [if_neg h0, if_pos h1]
    have h3 : ¬ cl p = 0 := by omega
    have h4 : ¬ cl p = 1 := by omega
    have h5 : ¬ cl p = 2 := by omega
    have := fits_calls (tabY_ok conB_ok) (take_great p (sgn p)) (okCons (by simp [h5]) (okCons (by simp [h4]) (okCons (by simp [h3]) (okCons hu (okL1 hs))))) (by rfl) (by rfl) w
    rw [hf] at this
    exact this
  · rw [if_neg h1, if_neg h1, if_neg h2, if_neg h2]
    have := fits_calls (tabY_ok conB_ok) (take_plain p (sgn p)) (okCons rfl (okCons hu (okCons (by simp [h3]) (okCons (by simp [h3]) (okCons (by simp [h3]) (okCons hu (okL1 hs))))))) (by rfl) (by rfl) w
    rw [hf, he, wrapI' ⟨by omega, by omega⟩, lead_or] at this
    exact this
theorem take_ok : AnsOk 57 (gU vT) := gU_ok take_calls

/-! ### the document's Take -/
def exR (p : Int) : Int := (IntKind.u64.wrap (p.tdiv 4503599627370496)).tmod 2048
def frR (p : Int) : Int := p.tmod 4503599627370496
def lR (p : Int) (d : Bool) : Log := [(decide (p ≥ 9223372036854775808), d), (decide ((4503599627370496 : Int) = 0), false), (decide ((2048 : Int) = 0), false)]
theorem ref_plain (p : Int) (d : Bool) : Fits (reckon (tabOf Try.prog extY conN true) 300 46 [.int .u64 p] [cmp true, cmp true, cmp d, cmp false, cmp false]) (vP d 2 (IntKind.i64.wrap (IntKind.i64.wrap (exR p) - 1075)) (IntKind.u64.wrap (frR p + 4503599627370496))) ((exR p == 0, false) :: (exR p == 2047, false) :: lR p d) := ⟨by kernel_rfl, by kernel_rfl, by kernel_rfl, by kernel_rfl⟩
theorem ref_quiet (p : Int) (d : Bool) : Fits (reckon (tabOf Try.prog extY conN true) 300 46 [.int .u64 p] [cmp true, cmp true, cmp d, cmp true, cmp true]) (vP d 4 0 (frR p)) ((decide (frR p ≥ 2251799813685248), true) :: (exR p == 2047, true) :: lR p d) := ⟨by kernel_rfl, by kernel_rfl, by kernel_rfl, by kernel_rfl⟩
theorem ref_great (p : Int) (d b : Bool) : Fits (reckon (tabOf Try.prog extY conN true) 300 46 [.int .u64 p] [cmp true, cmp true, cmp d, cmp true, cmp false, cmp b]) (vP d (match b with | true => 5 | false => 3) 0 (frR p)) ((decide (frR p > 0), b) :: (decide (frR p ≥ 2251799813685248), false) :: (exR p == 2047, true) :: lR p d) := by
  cases b <;> exact ⟨by kernel_rfl, by kernel_rfl, by kernel_rfl, by kernel_rfl⟩
theorem ref_small (p : Int) (d b : Bool) : Fits (reckon (tabOf Try.prog extY conN true) 300 46 [.int .u64 p] [cmp true, cmp true, cmp d, cmp false, cmp true, cmp b]) (vP d (match b with | true => 1 | false => 0) (-1074) (frR p)) ((decide (frR p > 0), b) :: (exR p == 0, true) :: (exR p == 2047, false) :: lR p d) := by
  cases b <;> exact ⟨by kernel_rfl, by kernel_rfl, by kernel_rfl, by kernel_rfl⟩
theorem exR_eq {p : Int} (hp : U p) : exR p = ex p := by
  unfold exR ex U at *
  rw [Int.tdiv_eq_ediv_of_nonneg hp.1, wrapU' ⟨by omega, by omega⟩, Int.tmod_eq_emod_of_nonneg (by omega)]
theorem frR_eq {p : Int} (hp : U p) : frR p = fr p := by unfold frR fr U at *; rw [Int.tmod_eq_emod_of_nonneg hp.1]
theorem ref_calls (p : Int) (hp : U p) (w : World) : Calls Try.prog 46 #[.int .u64 p] w fun e w' => e = .returned (vT p) ∧ Tidy w w' := by
  have hl : okLog (lR p (sgn p)) := okCons rfl (okCons rfl (okL1 rfl))
  have hf := frR_eq hp
  have he := exR_eq hp
  have hx := ex_lt p
  have hy := fr_lt p
  unfold vT xp sg cl
  by_cases h0 : ex p = 0
  · simp only [if_pos h0]
    by_cases h1 : fr p = 0
    · simp only [if_pos h1]
      have := fits_calls (tabY_ok conN_ok) (ref_small p (sgn p) false) (okCons (by rw [hf]; simp [h1]) (okCons (by rw [he]; simp [h0]) (okCons (by rw [he]; simp [h0]) hl))) (by rfl) (by rfl) w
      rw [hf] at this
      exact this
    · simp only [if_neg h1]
      have := fits_calls (tabY_ok conN_ok) (ref_small p (sgn p) true) (okCons (by rw [hf]; exact decide_eq_true (by omega)) (okCons (by rw [he]; simp [h0]) (okCons (by rw [he]; simp [h0]) hl))) (by rfl) (by rfl) w
      rw [hf] at this
      exact this
  · simp only [if_neg h0]
    by_cases h2 : ex p = 2047
    · simp only [if_pos h2]
      by_cases h3 : 2251799813685248 ≤ fr p
      · simp only [if_pos h3, if_neg (show ¬ fr p = 0 by omega)]
        have := fits_calls (tabY_ok conN_ok) (ref_quiet p (sgn p)) (okCons (by rw [hf]; exact decide_eq_true h3) (okCons (by rw [he]; simp [h2]) hl)) (by rfl) (by rfl) w
        rw [hf] at this
        exact this
      · by_cases h1 : fr p = 0
        · simp only [if_pos h1]
          have := fits_calls (tabY_ok conN_ok) (ref_great p (sgn p) false) (okCons (by rw [hf]; simp [h1]) (okCons (by rw [hf]; exact decide_eq_false h3) (okCons (by rw [he]; simp [h2]) hl))) (by rfl) (by rfl) w
          rw [hf] at this
          exact this
        · simp only [if_neg h1, if_neg h3]
          have := fits_calls (tabY_ok conN_ok) (ref_great p (sgn p) true) (okCons (by rw [hf]; exact decide_eq_true (by omega)) (okCons (by rw [hf]; exact decide_eq_false h3) (okCons (by rw [he]; simp [h2]) hl))) (by rfl) (by rfl) w
          rw [hf] at this
          exact this
    · simp only [if_neg h2]
      have := fits_calls (tabY_ok conN_ok) (ref_plain p (sgn p)) (okCons (by rw [he]; simp [h0]) (okCons (by rw [he]; simp [h2]) hl)) (by rfl) (by rfl) w
      rw [hf, he, wrapI' (n := ex p) ⟨by omega, by omega⟩, wrapI' ⟨by omega, by omega⟩, wrapU' ⟨by omega, by omega⟩] at this
      exact this
theorem ref_ok : AnsOk 46 (gU vT) := gU_ok ref_calls
end Go.Proofs.Ytecaahiajbkioaa

/-
  PLAIN ARITHMETIC: the sum of two patterns' numbers, rounded.
-/
namespace Go.Rn
open Go.Nt Go.Wd Go.Pt

theorem szF_low {F G E : Int} (h1 : F ≤ G) (h2 : G ≤ E) (X : Nat) : szF F E X = szF G E X * 2 ^ (G - F).toNat := by
  unfold szF
  rw [Nat.mul_assoc, ← Nat.pow_add]
  congr 2
  omega
theorem sgI_mul (n : Bool) (A K : Nat) : sgI n (A * K) = sgI n A * (K : Int) := by
  cases n
  · simp [sgI]
  · simp only [sgI, Int.natCast_mul]; rw [Int.neg_mul]
theorem smI_low {F G Ex Ey : Int} (h1 : F ≤ G) (h2 : G ≤ Ex) (h3 : G ≤ Ey) (nx ny : Bool) (X Y : Nat) : smI F nx Ex X ny Ey Y = smI G nx Ex X ny Ey Y * ((2 ^ (G - F).toNat : Nat) : Int) := by
  unfold smI
  rw [szF_low h1 h2, szF_low h1 h3, sgI_mul, sgI_mul, Int.add_mul]
theorem sgS_mul (m : Int) (nx ny : Bool) (S : Int) {K : Nat} (hK : 0 < K) : sgS m nx ny (S * (K : Int)) = sgS m nx ny S := by
  have hk : (0 : Int) < (K : Int) := by omega
  have e0 : S * (K : Int) = 0 ↔ S = 0 := by rw [Int.mul_eq_zero]; omega
  have e1 : S * (K : Int) < 0 ↔ S < 0 := by
    constructor
    · intro h
      rcases Int.lt_or_le S 0 with h1 | h1
      · exact h1
      · have := Int.mul_nonneg h1 (Int.le_of_lt hk); omega
    · intro h; exact Int.mul_neg_of_neg_of_pos h hk
  unfold sgS
  simp only [e0, e1]
/-- what was told in units is rounded as the sum itself -/
theorem xu_round {G Ex Ey : Int} {X Y : Nat} (hX : May Ex X) (hY : May Ey Y) (hx : G ≤ Ex) (hy : G ≤ Ey) (k m : Int) (n nx ny : Bool) :
    rnP k n (2 * xuQ nx Ex X ny Ey Y + bN (xuB nx Ex X ny Ey Y)) (unN Ex X Ey Y - 1) = rnP k n (smI G nx Ex X ny Ey Y).natAbs G
    ∧ rnF k n (2 * xuQ nx Ex X ny Ey Y + bN (xuB nx Ex X ny Ey Y)) (unN Ex X Ey Y - 1) = rnF k n (smI G nx Ex X ny Ey Y).natAbs G
    ∧ xuN m nx Ex X ny Ey Y = sgS m nx ny (smI G nx Ex X ny Ey Y) := by
  obtain ⟨F, hF⟩ : ∃ F, F = min (unN Ex X Ey Y) G := ⟨_, rfl⟩
  have h1 : F ≤ unN Ex X Ey Y := by omega
  have h2 : F ≤ G := by omega
  obtain ⟨a, b, c⟩ := xu_sum hX hY h1 (by omega) (by omega) m nx ny
  have hK : 0 < 2 ^ (G - F).toNat := Nat.pow_pos (by omega)
  have es := smI_low (X := X) (Y := Y) h2 hx hy nx ny
  have ea : (smI F nx Ex X ny Ey Y).natAbs = (smI G nx Ex X ny Ey Y).natAbs * 2 ^ (G - F).toNat := by rw [es, Int.natAbs_mul, Int.natAbs_natCast]
  obtain ⟨p, q⟩ := stk_round (m := k) (neg := n) (F := F) b
  have eu : F + ((unN Ex X Ey Y - F).toNat : Int) - 1 = unN Ex X Ey Y - 1 := by omega
  have eG : G - ((G - F).toNat : Int) = F := by omega
  have sp := rnP_scale k n (smI G nx Ex X ny Ey Y).natAbs (G - F).toNat G
  have sf := rnF_scale k n (smI G nx Ex X ny Ey Y).natAbs (G - F).toNat G
  rw [eG, ← ea] at sp sf
  rw [eu] at p q
  refine ⟨by rw [a, p, sp], by rw [a, q, sf], ?_⟩
  rw [c, es, sgS_mul m nx ny _ hK]

/-! ### patterns -/
/-- a finite pattern's size, in units of 2^-1074 -/
def uV (p : Int) : Nat := szF (-1074) (xp p) (sg p).toNat
def pvI (p : Int) : Int := sgI (sgn p) (uV p)
def psI (a b : Int) : Int := pvI a + pvI b
theorem psI_eq (a b : Int) : psI a b = smI (-1074) (sgn a) (xp a) (sg a).toNat (sgn b) (xp b) (sg b).toNat := rfl
theorem xp_bd (p : Int) : -1074 ≤ xp p ∧ xp p ≤ 972 := by
  have := ex_lt p
  unfold xp
  split
  · omega
  · split <;> omega
theorem sg_lt (p : Int) : 0 ≤ sg p ∧ sg p < 9007199254740992 := by
  have := fr_lt p
  unfold sg
  split
  · omega
  · split <;> omega
theorem may_pat (p : Int) : May (xp p) (sg p).toNat := by
  have h1 := xp_bd p
  have h2 := sg_lt p
  refine ⟨?_, by omega, by omega⟩
  have : (2 : Nat) ^ 128 = 340282366920938463463374607431768211456 := rfl
  omega
def adN (m a b : Int) : Bool := sgS m (sgn a) (sgn b) (psI a b)
def adP (m a b : Int) : Int := rnP m (adN m a b) (psI a b).natAbs (-1074)
def adF (m a b : Int) : Int := rnF m (adN m a b) (psI a b).natAbs (-1074)
theorem psI_comm (a b : Int) : psI a b = psI b a := by unfold psI; omega
theorem sgS_comm (m : Int) (nx ny : Bool) (S : Int) : sgS m nx ny S = sgS m ny nx S := by
  have e : (if nx = ny then nx else decide (m = 4)) = (if ny = nx then ny else decide (m = 4)) := by cases nx <;> cases ny <;> rfl
  unfold sgS
  rw [e]
theorem adN_comm (m a b : Int) : adN m a b = adN m b a := by unfold adN; rw [psI_comm, sgS_comm]
theorem ad_comm (m a b : Int) : adP m a b = adP m b a ∧ adF m a b = adF m b a := by unfold adP adF; rw [adN_comm, psI_comm]; exact ⟨rfl, rfl⟩
/-- a pattern's own number is rounded to it -/
theorem own_uV {m : Int} {n : Bool} {p : Int} (h : ex p ≠ 2047) : rnP m n (uV p) (-1074) = mag p ∧ rnF m n (uV p) (-1074) = 0 := by
  have hb := xp_bd p
  obtain ⟨a, b⟩ := own_pat (m := m) (neg := n) h
  have e1 := rnP_scale m n (sg p).toNat (xp p + 1074).toNat (xp p)
  have e2 := rnF_scale m n (sg p).toNat (xp p + 1074).toNat (xp p)
  have e3 : xp p - ((xp p + 1074).toNat : Int) = -1074 := by omega
  have e4 : uV p = (sg p).toNat * 2 ^ (xp p + 1074).toNat := by
    unfold uV szF
    congr 2
  rw [e3, ← e4] at e1 e2
  exact ⟨by rw [e1, a], by rw [e2, b]⟩
theorem uV_zero {p : Int} (h : ex p ≠ 2047) : uV p = 0 ↔ mag p = 0 := by
  have h1 := ex_lt p
  have h2 := fr_lt p
  have h4 : mag p = 4503599627370496 * ex p + fr p := by unfold mag ex fr; omega
  have hp : 0 < 2 ^ (xp p - -1074).toNat := Nat.pow_pos (by omega)
  have e : uV p = 0 ↔ sg p = 0 := by
    have := sg_lt p
    unfold uV szF
    rw [Nat.mul_eq_zero]
    omega
  rw [e, h4]
  unfold sg
  split
  · omega
  · omega
/-- of a sum without flags the pattern's number is the sum -/
theorem back_uV {m : Int} {n : Bool} {A : Nat} (h : rnF m n A (-1074) = 0) : rnP m n A (-1074) < 9218868437227405312 ∧ uV (rnP m n A (-1074)) = A := by
  by_cases hA : A = 0
  · subst hA
    have e : rnP m n 0 (-1074) = 0 := by simp [rnP]
    rw [e]
    refine ⟨by omega, ?_⟩
    rw [uV_zero (by decide)]
    decide
  · unfold rnF at h
    rw [if_neg hA] at h
    have hb : ¬ 9218868437227405312 ≤ p0 m n A (-1074) := fun hc => by rw [if_pos hc] at h; omega
    rw [if_neg hb] at h
    have hl : toL A (-1074) (lowE A (-1074)) = false := by
      cases hc : toL A (-1074) (lowE A (-1074)) with
      | false => rfl
      | true => rw [hc, if_pos rfl] at h; split at h <;> omega
    have hp : rnP m n A (-1074) = p0 m n A (-1074) := by unfold rnP; rw [if_neg hA, if_neg hb]
    rw [hp]
    refine ⟨by omega, ?_⟩
    have hlow := lowE_ge A (-1074)
    have hq := low_hi m n A (-1074)
    -- the multiple, exactly
    have hx : A = toQ m n A (-1074) (lowE A (-1074)) * 2 ^ (lowE A (-1074) + 1074).toNat := by
      unfold toQ toL at *
      by_cases he : lowE A (-1074) ≤ -1074
      · rw [if_pos he]
        have e0 : lowE A (-1074) = -1074 := by omega
        rw [e0]
        simp
      · rw [if_neg he] at hl ⊢
        have e1 : (lowE A (-1074) - -1074).toNat = (lowE A (-1074) + 1074).toNat := by omega
        rw [e1] at hl ⊢
        have hm : A % 2 ^ (lowE A (-1074) + 1074).toNat = 0 := by simpa using hl
        rw [rq_exact hm]
        have := Nat.div_add_mod A (2 ^ (lowE A (-1074) + 1074).toNat)
        rw [hm, Nat.mul_comm] at this
        omega
    have hlo : lowE A (-1074) = -1074 ∨ 4503599627370496 ≤ toQ m n A (-1074) (lowE A (-1074)) := by
      by_cases h1 : lowE A (-1074) = -1074
      · exact .inl h1
      · right
        refine low_lo hA ?_
        unfold lowE at h1
        split at h1 <;> omega
    have hpe : p0 m n A (-1074) = (lowE A (-1074) + 1074) * 4503599627370496 + (toQ m n A (-1074) (lowE A (-1074)) : Nat) := rfl
    generalize toQ m n A (-1074) (lowE A (-1074)) = q at *
    generalize lowE A (-1074) = e at *
    rw [hpe] at hb ⊢
    obtain ⟨j, hj⟩ : ∃ j : Nat, e = (j : Int) - 1074 := ⟨(e + 1074).toNat, by omega⟩
    have ej : (e + 1074).toNat = j := by omega
    have ej' : e + 1074 = (j : Int) := by omega
    rw [ej] at hx
    rw [ej'] at hb ⊢
    clear ej ej'
    rw [hx]
    unfold uV szF xp sg
    by_cases c0 : q < 4503599627370496
    · have j0 : j = 0 := by omega
      subst j0
      have ee : ex (((0 : Nat) : Int) * 4503599627370496 + (q : Int)) = 0 := by unfold ex; omega
      have ef : fr (((0 : Nat) : Int) * 4503599627370496 + (q : Int)) = (q : Int) := by unfold fr; omega
      rw [ee, ef]
      simp
    · by_cases c1 : q = 9007199254740992
      · have ee : ex ((j : Int) * 4503599627370496 + (q : Int)) = (j : Int) + 2 := by unfold ex; omega
        have ef : fr ((j : Int) * 4503599627370496 + (q : Int)) = 0 := by unfold fr; omega
        rw [ee, ef, if_neg (by omega), if_neg (by omega), if_neg (by omega), if_neg (by omega)]
        have e1 : ((j : Int) + 2 - 1075 - -1074).toNat = j + 1 := by omega
        rw [e1, c1, Nat.pow_succ]
        have e2 : ((0 : Int) + 4503599627370496).toNat = 4503599627370496 := rfl
        rw [e2]
        omega
      · have ee : ex ((j : Int) * 4503599627370496 + (q : Int)) = (j : Int) + 1 := by unfold ex; omega
        have ef : fr ((j : Int) * 4503599627370496 + (q : Int)) = (q : Int) - 4503599627370496 := by unfold fr; omega
        rw [ee, ef, if_neg (by omega), if_neg (by omega), if_neg (by omega), if_neg (by omega)]
        have e1 : ((j : Int) + 1 - 1075 - -1074).toNat = j := by omega
        have e2 : ((q : Int) - 4503599627370496 + 4503599627370496).toNat = q := by omega
        rw [e1, e2]
/-- the other sign -/
def ng (p : Int) : Int := (p + 9223372036854775808) % 18446744073709551616
theorem ng_parts {p : Int} (hp : U p) : U (ng p) ∧ sgn (ng p) = !sgn p ∧ ex (ng p) = ex p ∧ fr (ng p) = fr p ∧ mag (ng p) = mag p := by
  unfold U at hp
  unfold ng U sgn ex fr mag
  refine ⟨by omega, ?_, by omega, by omega, by omega⟩
  by_cases h : 9223372036854775808 ≤ p
  · rw [decide_eq_true h, decide_eq_false (by omega)]; rfl
  · rw [decide_eq_false h, decide_eq_true (by omega)]; rfl
theorem ng_num {p : Int} (hp : U p) : xp (ng p) = xp p ∧ sg (ng p) = sg p ∧ cl (ng p) = cl p ∧ uV (ng p) = uV p ∧ pvI (ng p) = - pvI p := by
  obtain ⟨_, h1, h2, h3, _⟩ := ng_parts hp
  have e1 : xp (ng p) = xp p := by unfold xp; rw [h2]
  have e2 : sg (ng p) = sg p := by unfold sg; rw [h2, h3]
  have e4 : uV (ng p) = uV p := by unfold uV; rw [e1, e2]
  refine ⟨e1, e2, by unfold cl; rw [h2, h3], e4, ?_⟩
  unfold pvI
  rw [h1, e4]
  cases sgn p <;> simp [sgI]
theorem psI_ng {a b : Int} (ha : U a) (hb : U b) : psI (ng a) (ng b) = - psI a b := by
  unfold psI
  rw [(ng_num ha).2.2.2.2, (ng_num hb).2.2.2.2]
  omega
theorem ad_ng {m a b : Int} (ha : U a) (hb : U b) : adP (swM m) (ng a) (ng b) = adP m a b ∧ adF (swM m) (ng a) (ng b) = adF m a b ∧ (psI a b ≠ 0 → adN (swM m) (ng a) (ng b) = !adN m a b) := by
  have e := psI_ng ha hb
  have hn : psI a b ≠ 0 → adN (swM m) (ng a) (ng b) = !adN m a b := fun h => by
    unfold adN sgS
    rw [e, if_neg (by omega), if_neg h]
    by_cases h2 : psI a b < 0
    · rw [decide_eq_true h2, decide_eq_false (by omega)]; rfl
    · rw [decide_eq_false h2, decide_eq_true (by omega)]; rfl
  by_cases h : psI a b = 0
  · refine ⟨?_, ?_, hn⟩
    · unfold adP; rw [e, h]; simp [rnP]
    · unfold adF; rw [e, h]; simp [rnF]
  · have h1 := hn h
    refine ⟨?_, ?_, hn⟩
    · unfold adP; rw [h1, e, Int.natAbs_neg, rnP_swM]
    · unfold adF; rw [h1, e, Int.natAbs_neg, rnF_swM]
theorem ad_self {m a : Int} (ha : U a) : psI a (ng a) = 0 ∧ adN m a (ng a) = decide (m = 4) ∧ adP m a (ng a) = 0 ∧ adF m a (ng a) = 0 := by
  have e : psI a (ng a) = 0 := by unfold psI; rw [(ng_num ha).2.2.2.2]; omega
  refine ⟨e, ?_, by unfold adP; rw [e]; simp [rnP], by unfold adF; rw [e]; simp [rnF]⟩
  unfold adN sgS
  rw [if_pos e, (ng_parts ha).2.1, if_neg (by cases sgn a <;> simp)]
theorem sgI_abs (n : Bool) (A : Nat) : (sgI n A).natAbs = A := by cases n <;> simp [sgI]
theorem sgI_neg {n : Bool} {A : Nat} (h : A ≠ 0) : decide (sgI n A < 0) = n ∧ sgI n A ≠ 0 := by
  cases n
  · exact ⟨decide_eq_false (by simp only [sgI]; omega), by simp only [sgI]; omega⟩
  · exact ⟨decide_eq_true (by simp only [sgI]; omega), by simp only [sgI]; omega⟩
/-- where the sum is a pattern's number -/
theorem ad_num {m a b p : Int} (hf : ex p ≠ 2047) (h0 : mag p ≠ 0) (hs : psI a b = pvI p) : adN m a b = sgn p ∧ adP m a b = mag p ∧ adF m a b = 0 := by
  have hu : uV p ≠ 0 := fun h => h0 ((uV_zero hf).1 h)
  obtain ⟨n1, n2⟩ := sgI_neg (n := sgn p) hu
  have hn : adN m a b = sgn p := by
    unfold adN sgS
    rw [hs]
    unfold pvI
    rw [if_neg n2, n1]
  have hab : (psI a b).natAbs = uV p := by rw [hs]; exact sgI_abs _ _
  obtain ⟨q1, q2⟩ := own_uV (m := m) (n := sgn p) hf
  refine ⟨hn, ?_, ?_⟩
  · unfold adP; rw [hn, hab, q1]
  · unfold adF; rw [hn, hab, q2]
theorem pvI_zero : pvI 0 = 0 := by decide
theorem ad_zero {m a : Int} (hf : ex a ≠ 2047) (h0 : mag a ≠ 0) : adN m a 0 = sgn a ∧ adP m a 0 = mag a ∧ adF m a 0 = 0 := ad_num hf h0 (by unfold psI; rw [pvI_zero]; omega)
theorem ad_bd (m a b : Int) : 0 ≤ adP m a b ∧ adP m a b ≤ 9218868437227405312 := rnP_bd _ _ _ _
end Go.Rn
