/-
  What the layers over rounding share: a pattern's significand as a number of 256 bits; units far away; classes.
-/
import Derived.Test.YteglhjkpcljpmaaG09
import Derived.Test.YteglhjkpcljpmaaG10
import Derived.Test.YteglhjkpcljpmaaG13
import Derived.Test.YteglhjkpcljpmaaG05
namespace Go.Proofs.Yteglhjkpcljpmaa
open Go.KRun Go.Wd Go.Pt Go.Rn
set_option maxRecDepth 100000

/-- what is known of calls: rounding, a pattern's parts, its class -/
def conG0 : Con := alt 25 gRd (alt 33 (gU vT) (alt 12 (gU fun p => .int .i64 (cl p)) conN))
theorem conG0_ok : ConOk conG0 := alt_ok Try.func25 rfl gRd_ok (alt_ok Try.func33 rfl take_ok (alt_ok Try.func12 rfl cls_ok conN_ok))
def wSg (p : Int) : W4 := ⟨sg p, 0, 0, 0⟩
def lp0 : Bool × Bool := (decide ((0 : Int) < ((2 : Nat) : Int)), true)
def lp1 : Bool × Bool := (decide (IntKind.i64.wrap (0 + 1) < ((2 : Nat) : Int)), true)
def lp2 : Bool × Bool := (decide (IntKind.i64.wrap (IntKind.i64.wrap (0 + 1) + 1) < ((2 : Nat) : Int)), false)
/-! ### its numbers -/
theorem wSg_ok (p : Int) : (wSg p).ok := by
  have h := sg_lt p
  exact ⟨⟨h.1, by unfold wSg; dsimp only; omega⟩, ⟨by unfold wSg; dsimp only; omega, by unfold wSg; dsimp only; omega⟩, ⟨by unfold wSg; dsimp only; omega, by unfold wSg; dsimp only; omega⟩, ⟨by unfold wSg; dsimp only; omega, by unfold wSg; dsimp only; omega⟩⟩
theorem wSg_nat (p : Int) : (wSg p).nat = (sg p).toNat := by
  unfold W4.nat W4.val wSg
  simp only [Int.mul_zero, Int.add_zero]
theorem fin_ex {p : Int} (h : cl p ≤ 2) : ex p ≠ 2047 := by
  rcases cl_cases p with ⟨h1, _⟩ | ⟨_, h2⟩ | ⟨_, h2, _⟩ <;> omega
theorem tw_of {q : Nat} (h : q < 2 ^ 256) (b : Bool) : tw (ofN q) b = 2 * q + bN b := by
  unfold tw
  rw [ofN_nat h]
  cases b <;> rfl
/-- the unit may be far away -/
theorem clp_round (k : Int) (n : Bool) {x : W4} (hx : x.ok) (b : Bool) (u : Int) : rnP k n (tw x b) (clp u - 1) = rnP k n (tw x b) (u - 1) ∧ rnF k n (tw x b) (clp u - 1) = rnF k n (tw x b) (u - 1) := by
  have h1 := same_round (m := k) (neg := n) hx b (C := clp u) (D := u) (by unfold clp; split <;> (try split) <;> omega)
  have h2 := same_round (m := k) (neg := n) hx b (C := u) (D := u) (.inl rfl)
  exact ⟨by rw [h1.1, h2.1], by rw [h1.2, h2.2]⟩
end Go.Proofs.Yteglhjkpcljpmaa

/-
  A pattern's size and sign, in plain terms.
-/
namespace Go.Proofs.Yteglhjkpcljpmaa
open Go.KRun Go.Wd Go.Pt Go.Rn

theorem sS_mag {n : Bool} {r : Int} (h0 : 0 ≤ r) (h1 : r < 9223372036854775808) : mag (sS n r) = r ∧ sgn (sS n r) = n ∧ U (sS n r) ∧ uV (sS n r) = uV r := by
  have e : ex (sS n r) = ex r ∧ fr (sS n r) = fr r := by unfold ex fr sS; split <;> omega
  refine ⟨by unfold mag sS; split <;> omega, ?_, by unfold U sS; split <;> omega, ?_⟩
  · cases n
    · simp only [sS, Bool.false_eq_true, if_false, sgn]; exact decide_eq_false (by omega)
    · simp only [sS, if_true, sgn]; exact decide_eq_true (by omega)
  · unfold uV xp sg; rw [e.1, e.2]
theorem sS_own {p : Int} (hp : U p) : sS (sgn p) (mag p) = p := by
  unfold sS sgn mag U at *
  split <;> rename_i h <;> simp only [decide_eq_true_eq] at h <;> omega
theorem bXor_ng {p : Int} (hp : U p) : bXor p 9223372036854775808 = ng p := bXor_sign hp
theorem ng_sS {n : Bool} {r : Int} (h0 : 0 ≤ r) (h1 : r < 9223372036854775808) : ng (sS n r) = sS (!n) r := by
  cases n <;> simp [sS, ng] <;> omega
theorem ng_ng {p : Int} (hp : U p) : ng (ng p) = p := by unfold ng U at *; omega
theorem ng_ne {p : Int} (_hp : U p) : p ≠ ng p := by unfold ng; omega
theorem nan_mag : mag 9221120237041090560 = 9221120237041090560 := by decide
end Go.Proofs.Yteglhjkpcljpmaa

/-
  Contracts of words; a pattern's significand, moved up, and whether it is nothing.
-/
namespace Go.Proofs.Yteglhjkpcljpmaa
open Go.KRun Go.Wd Go.Pt Go.Rn
set_option maxRecDepth 100000

def nzW (x : W4) : Bool := !(x.a == 0 && (x.b == 0 && (x.c == 0 && (x.d == 0 && true))))
theorem nzW_of {n : Int} (h0 : 0 ≤ n) (h1 : n < 115792089237316195423570985008687907853269984665640564039457584007913129639936) : nzW (W4.of n) = decide (n ≠ 0) := by
  have ev : (W4.of n).val = n := by rw [W4.val_of, Int.emod_eq_of_lt h0 h1]
  have ok := W4.ok_of n
  by_cases hz : n = 0
  · subst hz; rfl
  · rw [decide_eq_true hz]
    unfold nzW
    cases hc : ((W4.of n).a == 0 && ((W4.of n).b == 0 && ((W4.of n).c == 0 && ((W4.of n).d == 0 && true))))
    · rfl
    · exfalso
      simp only [Bool.and_eq_true, beq_iff_eq] at hc
      obtain ⟨e1, e2, e3, e4, _⟩ := hc
      apply hz
      rw [← ev]
      unfold W4.val
      rw [e1, e2, e3, e4]
      rfl
theorem wSg_val (p : Int) : (wSg p).val = sg p := by
  have h := sg_lt p
  rw [W4.nat_val (wSg_ok p), wSg_nat]
  omega
theorem pow_lim {u : Nat} (h : u ≤ 199) : (2 : Int) ^ u ≤ 803469022129495137770981046170581301261101496891396417650688 := by
  have h1 : (2 : Nat) ^ u ≤ 2 ^ 199 := Nat.pow_le_pow_right (by omega) h
  have h2 : (2 : Nat) ^ 199 = 803469022129495137770981046170581301261101496891396417650688 := rfl
  rw [h2] at h1
  have := cast_pow u
  omega
theorem shl_sg (p : Int) {u : Nat} (h0 : 1 ≤ u) (h : u ≤ 199) : (shlW (wSg p) (u : Int)).ok ∧ (shlW (wSg p) (u : Int)).val = (((sg p).toNat * 2 ^ u : Nat) : Int) := by
  have hs := sg_lt p
  have hp := pow_lim h
  have hq : (0 : Int) < 2 ^ u := by rw [cast_pow]; exact_mod_cast Nat.pow_pos (by omega)
  have e : (wSg p).val * 2 ^ u = (((sg p).toNat * 2 ^ u : Nat) : Int) := by
    rw [wSg_val, Int.natCast_mul, ← cast_pow, Int.toNat_of_nonneg hs.1]
  have hb : (((sg p).toNat * 2 ^ u : Nat) : Int) < 115792089237316195423570985008687907853269984665640564039457584007913129639936 := by
    rw [← e, wSg_val]
    have := Int.mul_le_mul (show sg p ≤ 9007199254740991 by omega) hp (by omega) (by omega)
    omega
  unfold shlW
  rw [if_neg (by omega), if_neg (by omega), Int.toNat_natCast, e]
  exact ⟨W4.ok_of _, by rw [W4.val_of, Int.emod_eq_of_lt (by omega) hb]⟩
theorem sg_zero {p : Int} (h : cl p ≤ 2) : sg p = 0 ↔ cl p = 0 := by
  have h3 := fr_lt p
  unfold sg cl at *
  split at h
  · rename_i h1
    rw [if_pos h1]
    split <;> omega
  · rename_i h1
    split at h
    · split at h
      · omega
      · split at h <;> omega
    · rename_i h2
      rw [if_neg h1, if_neg h2]
      omega
end Go.Proofs.Yteglhjkpcljpmaa
