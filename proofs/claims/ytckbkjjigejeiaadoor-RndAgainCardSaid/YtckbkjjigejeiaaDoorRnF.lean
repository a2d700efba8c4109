/-
  What is known of calls, for the laws of rounding that take patterns apart and tell errors by their numbers.
-/
import Derived.Test.YtckbkjjigejeiaaDoorRnL
import Derived.Test.YtckbkjjigejeiaaDoorPatA
import Derived.Test.YtckbkjjigejeiaaDoorAsNum
import Derived.Test.YtckbkjjigejeiaaDoorRunK
namespace Go.Proofs.YtckbkjjigejeiaaDoor
open Go.KRun Go.Pt Go.Wd Go.Rn
set_option maxRecDepth 100000

def conRP : Con := alt 9 (gU vT) (alt 14 (gU vT) (alt 24 (gU fun p => .int .i64 (cl p)) conR))
theorem conRP_ok : ConOk conRP := alt_ok Tryd.func9 rfl ref_ok (alt_ok Tryd.func14 rfl take_ok (alt_ok Tryd.func24 rfl cls_ok conR_ok))
def hcRP : Hc := altH 7 gNum hcN
theorem hcRP_ok : HcOk hcRP := altH_ok Tryd.func7 rfl gNum_ok hcN_ok

/-! ### a pattern's own number -/
def wSg (p : Int) : W4 := ⟨sg p, 0, 0, 0⟩
theorem sg_bd (p : Int) : 0 ≤ sg p ∧ sg p < 18446744073709551616 := by
  have := fr_lt p
  unfold sg
  split
  · omega
  · split <;> omega
theorem wSg_ok (p : Int) : (wSg p).ok := ⟨sg_bd p, ⟨by unfold wSg; dsimp only; omega, by unfold wSg; dsimp only; omega⟩, ⟨by unfold wSg; dsimp only; omega, by unfold wSg; dsimp only; omega⟩, ⟨by unfold wSg; dsimp only; omega, by unfold wSg; dsimp only; omega⟩⟩
theorem wSg_tw (p : Int) : tw (wSg p) false = (sg p).toNat * 2 ^ 1 := by
  have h := sg_bd p
  unfold tw W4.nat W4.val wSg
  simp only [Int.mul_zero, Int.add_zero, Nat.add_zero, Nat.pow_one]
  omega
theorem fin_ex {p : Int} (h : cl p ≤ 2) : ex p ≠ 2047 := by
  rcases cl_cases p with ⟨h1, _⟩ | ⟨_, h2⟩ | ⟨_, h2, _⟩ <;> omega
theorem xp_clp (p : Int) : clp (xp p) = xp p := by
  have := ex_lt p
  have hb : -1100 ≤ xp p ∧ xp p ≤ 1100 := by
    unfold xp
    split
    · omega
    · split <;> omega
  unfold clp
  split <;> split <;> omega
theorem sS_own {p : Int} (hp : U p) : sS (sgn p) (mag p) = p := by
  unfold sS sgn mag U at *
  split <;> rename_i h <;> simp only [decide_eq_true_eq] at h <;> omega
theorem own_round {p : Int} (hp : U p) (hf : cl p ≤ 2) (m : Int) : rnF m (sgn p) (tw (wSg p) false) (clp (xp p) - 1) = 0 ∧ sS (sgn p) (rnP m (sgn p) (tw (wSg p) false) (clp (xp p) - 1)) = p := by
  obtain ⟨a, b⟩ := own_pat (m := m) (neg := sgn p) (fin_ex hf)
  have e1 := rnP_scale m (sgn p) (sg p).toNat 1 (xp p)
  have e2 := rnF_scale m (sgn p) (sg p).toNat 1 (xp p)
  rw [wSg_tw, xp_clp]
  have ec : (xp p - ((1 : Nat) : Int)) = xp p - 1 := rfl
  rw [ec] at e1 e2
  rw [e1, e2, a, b]
  exact ⟨rfl, sS_own hp⟩
/-- what is not finite of what was rounded is Endless -/
theorem end_of {n : Bool} {r : Int} (h : 0 ≤ r ∧ r ≤ 9218868437227405312) (hc : ¬ cl (sS n r) ≤ 2) : r = 9218868437227405312 := by
  have hx : ex (sS n r) = 2047 := by
    rcases cl_cases (sS n r) with ⟨h1, h2⟩ | ⟨h1, _⟩ | ⟨_, _, h2⟩ <;> omega
  unfold ex sS at hx
  split at hx <;> omega
end Go.Proofs.YtckbkjjigejeiaaDoor
