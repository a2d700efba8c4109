/-
  A RUN THAT THE KERNEL RECKONS: a call that begins where something lies already.
-/
import Derived.Test.YtgmfnecdpfdncaaDoorG03
import Derived.Test.YtgmfnecdpfdncaaDoorG26
import Derived.Test.YtgmfnecdpfdncaaDoorG28
namespace Go.KRun
open Go.RowKit

def reckonAt (T : Tab) (h0 : Hp) (n : Nat) (f : Nat) (vals : List Value) (s : List Dec) : Option (Value × Hp × List Dec × Lg) := callBy T (evC T n false) f vals h0 s ⟨[], [], []⟩
theorem fitsAt_calls {T : Tab} (hT : TabOk T) {h0 : Hp} {n f : Nat} {vals : List Value} {s : List Dec} {v : Value} {cs : Log} (hF : Fits (reckonAt T h0 n f vals s) v cs) (hcs : okLog cs) (hvals : (vals.all (lt h0.n)) = true) (hv : lt 0 v = true) {m : Mp} {w : World} (E : Emb m w.heap.size h0 w) :
    Calls T.P f (vals.map (mv m)).toArray w fun e w' => e = .returned v ∧ Tidy w w' := by
  obtain ⟨h1, h2, h3, h4⟩ := hF
  cases hr : reckonAt T h0 n f vals s with
  | none => rw [hr] at h1; cases h1
  | some r =>
    rw [hr] at h1 h2 h3 h4
    simp only [Option.map_some, Option.some.injEq] at h1 h2 h3 h4
    obtain ⟨v', h', s', L⟩ := r
    simp only at h1 h2 h3 h4
    subst h1
    obtain ⟨_, _, h5⟩ := callBy_ok hT (evC_ok hT n).1 _ _ _ _ _ _ _ _ _ hr ⟨by rw [h2]; exact hcs, all_eq _ h3, all_eq _ h4⟩
    refine (h5 _ _ w E (List.all_eq_true.1 hvals)).mono fun en w' he => ?_
    obtain ⟨m', rfl, C⟩ := he
    exact ⟨by rw [mv_still hv], C.below, fun k h1 h2 => C.emb.ice k h1 h2⟩
/-- the same, where the arguments hold no address -/
theorem fitsAt_still {T : Tab} (hT : TabOk T) {h0 : Hp} {n f : Nat} {vals : List Value} {s : List Dec} {v : Value} {cs : Log} (hF : Fits (reckonAt T h0 n f vals s) v cs) (hcs : okLog cs) (hvals : (vals.all (lt 0)) = true) (hv : lt 0 v = true) {m : Mp} {w : World} (E : Emb m w.heap.size h0 w) :
    Calls T.P f vals.toArray w fun e w' => e = .returned v ∧ Tidy w w' := by
  have hst : ∀ y ∈ vals, lt 0 y = true := List.all_eq_true.1 hvals
  have e : vals.map (mv m) = vals := (List.map_congr_left fun y hy => mv_still (hst y hy)).trans (List.map_id' _)
  have := fitsAt_calls hT hF hcs (List.all_eq_true.2 fun y hy => lt_mono (Nat.zero_le _) (hst y hy)) hv E
  rw [e] at this
  exact this
end Go.KRun

/-
  What is known of calls, for the law of exact sums.
-/
namespace Go.Proofs.YtgmfnecdpfdncaaDoor
open Go.KRun Go.Nt Go.Wd Go.Rn Go.Pt
set_option maxRecDepth 100000

def conE1 : Con := alt 4 gEx (alt 11 gR0 (alt 10 gRd (alt 7 gSure5 conN)))
theorem conE1_ok : ConOk conE1 := alt_ok Tryd.func4 rfl gEx_ok (alt_ok Tryd.func11 rfl gR0_ok (alt_ok Tryd.func10 rfl gRd_ok (alt_ok Tryd.func7 rfl gSure5_ok conN_ok)))
def conE0 : Con := alt 12 gFt (alt 7 gSure5 conN)
theorem conE0_ok : ConOk conE0 := alt_ok Tryd.func12 rfl gFt_ok (alt_ok Tryd.func7 rfl gSure5_ok conN_ok)
def hcE : Hc := altH 8 gSm (altH 9 gRof (altH 11 gRr (altH 6 gNum hcN)))
theorem hcE_ok : HcOk hcE := altH_ok Tryd.func8 rfl gSm_ok (altH_ok Tryd.func9 rfl gRof_ok (altH_ok Tryd.func11 rfl gRr_ok (altH_ok Tryd.func6 rfl gNum_ok hcN_ok)))
end Go.Proofs.YtgmfnecdpfdncaaDoor

/-
  The law of exact sums: its two ways that round.
-/
namespace Go.Proofs.YtgmfnecdpfdncaaDoor
open Go.KRun Go.Nt Go.Wd Go.Rn Go.Pt
set_option maxRecDepth 100000
set_option linter.unusedVariables false

def rw5 (X : W4) : List Value × TypeId := (wU (d16 (refT X false)), tU)
def ln5 (X : W4) : Nat := (d16 (refT X false)).length
def nb5 (n : Bool) (e : Int) (x : W4) : List Value × TypeId := ([.bool n, .int .i64 e, .int .u64 x.a, .int .u64 x.b, .int .u64 x.c, .int .u64 x.d, .bool false], 25)
def zb5 (m : Int) (nx : Bool) (Ex : Int) (X : W4) (ny : Bool) (Ey : Int) (Y : W4) : List Value × TypeId := ([.bool (xuN m nx Ex X.nat ny Ey Y.nat), .int .i64 (unN Ex X.nat Ey Y.nat), .int .u64 (ofN (xuQ nx Ex X.nat ny Ey Y.nat)).a, .int .u64 (ofN (xuQ nx Ex X.nat ny Ey Y.nat)).b, .int .u64 (ofN (xuQ nx Ex X.nat ny Ey Y.nat)).c, .int .u64 (ofN (xuQ nx Ex X.nat ny Ey Y.nat)).d, .bool (xuB nx Ex X.nat ny Ey Y.nat)], 28)
def ba5 (m : Int) (nx : Bool) (Ex : Int) (X : W4) (ny : Bool) (Ey : Int) (Y : W4) : List (List Value × TypeId) := [zb5 m nx Ex X ny Ey Y, nb5 ny Ey Y, nb5 nx Ex X, (kV, kT)]
def hs1 (m : Int) (nx : Bool) (Ex : Int) (X : W4) (ny : Bool) (Ey : Int) (Y : W4) : Hp := ⟨7, rw5 Y :: rw5 X :: bNum :: ba5 m nx Ex X ny Ey Y⟩
def hs2 (m : Int) (nx : Bool) (Ex : Int) (X : W4) (ny : Bool) (Ey : Int) (Y : W4) : Hp := ⟨7, rw5 Y :: bNum :: rw5 X :: ba5 m nx Ex X ny Ey Y⟩
def hs3 (m : Int) (nx : Bool) (Ex : Int) (X : W4) (ny : Bool) (Ey : Int) (Y : W4) : Hp := ⟨7, bNum :: rw5 Y :: rw5 X :: ba5 m nx Ex X ny Ey Y⟩
def hs4 (m : Int) (nx : Bool) (Ex : Int) (X : W4) (ny : Bool) (Ey : Int) (Y : W4) : Hp := ⟨6, rw5 Y :: rw5 X :: ba5 m nx Ex X ny Ey Y⟩
def sv5 (h : Hp) (nx : Bool) (Ex : Int) (X : W4) (ny : Bool) (Ey : Int) (Y : W4) (b b' : Nat) : Int := smH h nx ny (refE Ex false) (refE Ey false) b 0 (ln5 X) b' 0 (ln5 Y)
def ok5 (h : Hp) (Ex : Int) (X : W4) (Ey : Int) (Y : W4) (b b' : Nat) : Bool × Bool := (okSm h (ad b 0) (ad b' 0) (ln5 X) (ln5 X) (ln5 Y) (ln5 Y) (refE Ex false) (refE Ey false), true)
def sS5 (m : Int) (nx : Bool) (Ex : Int) (X : W4) (ny : Bool) (Ey : Int) (Y : W4) : Int := sv5 (hs4 m nx Ex X ny Ey Y) nx Ex X ny Ey Y 4 5
def low5 (Ex : Int) (X : W4) (Ey : Int) (Y : W4) : Int := lowS (refE Ex false) (refE Ey false) (ln5 X) (ln5 Y)
def sg5 (m : Int) (nx : Bool) (Ex : Int) (X : W4) (ny : Bool) (Ey : Int) (Y : W4) : Bool := sgS m nx ny (sS5 m nx Ex X ny Ey Y)
def hL5 (m : Int) (nx : Bool) (Ex : Int) (X : W4) (ny : Bool) (Ey : Int) (Y : W4) : Hp := ⟨8, bOf (sg5 m nx Ex X ny Ey Y) (low5 Ex X Ey Y) (sOf 6 (sS5 m nx Ex X ny Ey Y).natAbs) :: (wU (d16 (sS5 m nx Ex X ny Ey Y).natAbs), tU) :: rw5 Y :: rw5 X :: ba5 m nx Ex X ny Ey Y⟩
def lM5 (Ex : Int) (X : W4) (Ey : Int) (Y : W4) : Log := [(decide (IntKind.i64.wrap (Ey - Ex) > 8000), false), (decide (IntKind.i64.wrap (Ex - Ey) > 8000), false), (decide (Ey ≤ 100000), true), (decide (Ey ≥ -100000), true), (Y.d == 0, true), (Y.c == 0, true), (decide (Ex ≤ 100000), true), (decide (Ex ≥ -100000), true), (X.d == 0, true), (X.c == 0, true), (okEx Ex X false Ey Y false, true)]
def lS5 (m : Int) (nx : Bool) (Ex : Int) (X : W4) (ny : Bool) (Ey : Int) (Y : W4) (d : Bool) : Log := (decide (sv5 (hs1 m nx Ex X ny Ey Y) nx Ex X ny Ey Y 5 6 ≠ 0), d) :: ok5 (hs1 m nx Ex X ny Ey Y) Ex X Ey Y 5 6 :: (decide Y.ok, true) :: (decide X.ok, true) :: (decide (sv5 (hs2 m nx Ex X ny Ey Y) nx Ex X ny Ey Y 4 6 ≠ 0), d) :: ok5 (hs2 m nx Ex X ny Ey Y) Ex X Ey Y 4 6 :: (decide Y.ok, true) :: (decide (sv5 (hs3 m nx Ex X ny Ey Y) nx Ex X ny Ey Y 4 5 ≠ 0), d) :: ok5 (hs3 m nx Ex X ny Ey Y) Ex X Ey Y 4 5 :: (decide (sv5 (hs4 m nx Ex X ny Ey Y) nx Ex X ny Ey Y 4 5 ≠ 0), d) :: ok5 (hs4 m nx Ex X ny Ey Y) Ex X Ey Y 4 5 :: (decide Y.ok, true) :: (decide X.ok, true) :: lM5 Ex X Ey Y
def cm5 (V : Nat) : Bool × Bool := ((wU (d16 V)).all calm1, true)
def ck5 : Bool × Bool := (kV.all calm1, true)
def tZ5 (X Y : W4) (l : Log) : Log := cm5 (refT Y false) :: cm5 (refT X false) :: ck5 :: l
def tN5 (m : Int) (nx : Bool) (Ex : Int) (X : W4) (ny : Bool) (Ey : Int) (Y : W4) (l : Log) : Log := cm5 (sS5 m nx Ex X ny Ey Y).natAbs :: tZ5 X Y l
def lk5 (k : Int) : Bool × Bool := (decide (k < 5), true)
def lx5 : Bool × Bool := (decide ((5 : Int) < 5), false)
def F5 (m : Int) (nx : Bool) (Ex : Int) (X : W4) (ny : Bool) (Ey : Int) (Y : W4) (k : Int) : Int := rnF k (xuN m nx Ex X.nat ny Ey Y.nat) (tw (ofN (xuQ nx Ex X.nat ny Ey Y.nat)) (xuB nx Ex X.nat ny Ey Y.nat)) (clp (unN Ex X.nat Ey Y.nat) - 1)
def P5 (m : Int) (nx : Bool) (Ex : Int) (X : W4) (ny : Bool) (Ey : Int) (Y : W4) (k : Int) : Int := sS (xuN m nx Ex X.nat ny Ey Y.nat) (rnP k (xuN m nx Ex X.nat ny Ey Y.nat) (tw (ofN (xuQ nx Ex X.nat ny Ey Y.nat)) (xuB nx Ex X.nat ny Ey Y.nat)) (clp (unN Ex X.nat Ey Y.nat) - 1))
def oq5 (m : Int) (nx : Bool) (Ex : Int) (X : W4) (ny : Bool) (Ey : Int) (Y : W4) : Bool × Bool := (decide (ofN (xuQ nx Ex X.nat ny Ey Y.nat)).ok, true)
def rz5 (m : Int) (nx : Bool) (Ex : Int) (X : W4) (ny : Bool) (Ey : Int) (Y : W4) (k : Int) (l : Log) : Log := (IntKind.i64.wrap (F5 m nx Ex X ny Ey Y k) != 0, false) :: (P5 m nx Ex X ny Ey Y k != sS (sg5 m nx Ex X ny Ey Y) 0, false) :: oq5 m nx Ex X ny Ey Y :: lk5 k :: l
def vS5 (m : Int) (nx : Bool) (Ex : Int) (X : W4) (ny : Bool) (Ey : Int) (Y : W4) : Nat := vO (hL5 m nx Ex X ny Ey Y) (ad 6 0) (d16 (sS5 m nx Ex X ny Ey Y).natAbs).length
def rn5 (m : Int) (nx : Bool) (Ex : Int) (X : W4) (ny : Bool) (Ey : Int) (Y : W4) (k : Int) (l : Log) : Log := (IntKind.i64.wrap (F5 m nx Ex X ny Ey Y k) != rnF k (sg5 m nx Ex X ny Ey Y) (vS5 m nx Ex X ny Ey Y) (low5 Ex X Ey Y), false) :: (P5 m nx Ex X ny Ey Y k != sS (sg5 m nx Ex X ny Ey Y) (rnP k (sg5 m nx Ex X ny Ey Y) (vS5 m nx Ex X ny Ey Y) (low5 Ex X Ey Y)), false) :: (okRo (hL5 m nx Ex X ny Ey Y) (ad 6 0) (d16 (sS5 m nx Ex X ny Ey Y).natAbs).length (d16 (sS5 m nx Ex X ny Ey Y).natAbs).length (low5 Ex X Ey Y), true) :: oq5 m nx Ex X ny Ey Y :: lk5 k :: l
theorem xn0 (nx ny : Bool) (X Y : W4) (Ex Ey m : Int) : Fits (reckonAt (tabH Tryd.prog extY conE1 hcE) hK 300 3 [vN nx Ex X false, vN ny Ey Y false, .int .i64 m] [cmp true, cmp true, cmp true, cmp true, cmp true, cmp true, cmp true, cmp true, cmp false, cmp false, at_, num 1, at_, num 3, at_, num 15, num 1, cmp false, num 80, num 87, num 9, cmp true, cmp false, cmp false, cmp true, cmp false, cmp false, cmp true, cmp false, cmp false, cmp true, cmp false, cmp false, cmp true, cmp false, cmp false, cmp false]) (.bool true) (lx5 :: (rz5 m nx Ex X ny Ey Y 4 (rz5 m nx Ex X ny Ey Y 3 (rz5 m nx Ex X ny Ey Y 2 (rz5 m nx Ex X ny Ey Y 1 (rz5 m nx Ex X ny Ey Y 0 (tZ5 X Y (tZ5 X Y (tZ5 X Y (lS5 m nx Ex X ny Ey Y false)))))))))) := ⟨by kernel_rfl, by kernel_rfl, by kernel_rfl, by kernel_rfl⟩
theorem xn1 (nx ny : Bool) (X Y : W4) (Ex Ey m : Int) : Fits (reckonAt (tabH Tryd.prog extY conE1 hcE) hK 300 3 [vN nx Ex X false, vN ny Ey Y false, .int .i64 m] [cmp true, cmp true, cmp true, cmp true, cmp true, cmp true, cmp true, cmp true, cmp false, cmp false, at_, num 1, at_, num 4, at_, num 15, num 1, cmp true, num 80, num 87, num 89, num 9, cmp true, cmp false, cmp false, cmp true, cmp false, cmp false, cmp true, cmp false, cmp false, cmp true, cmp false, cmp false, cmp true, cmp false, cmp false, cmp false]) (.bool true) (lx5 :: (rn5 m nx Ex X ny Ey Y 4 (rn5 m nx Ex X ny Ey Y 3 (rn5 m nx Ex X ny Ey Y 2 (rn5 m nx Ex X ny Ey Y 1 (rn5 m nx Ex X ny Ey Y 0 (tN5 m nx Ex X ny Ey Y (tN5 m nx Ex X ny Ey Y (tN5 m nx Ex X ny Ey Y (tN5 m nx Ex X ny Ey Y (tN5 m nx Ex X ny Ey Y (tN5 m nx Ex X ny Ey Y (lS5 m nx Ex X ny Ey Y true))))))))))))) := ⟨by kernel_rfl, by kernel_rfl, by kernel_rfl, by kernel_rfl⟩
end Go.Proofs.YtgmfnecdpfdncaaDoor
