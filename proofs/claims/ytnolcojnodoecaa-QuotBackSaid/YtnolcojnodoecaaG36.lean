/-
  A pattern's size and sign, in plain terms.
-/
import Derived.Test.YtnolcojnodoecaaG19
import Derived.Test.YtnolcojnodoecaaG35
namespace Go.Proofs.Ytnolcojnodoecaa
open Go.KRun Go.Wd Go.Pt Go.Rn

theorem mag_eq (p : Int) : mag p = 4503599627370496 * ex p + fr p := by unfold mag ex fr; omega
theorem mag_cl (p : Int) : (3 < cl p ↔ 9218868437227405312 < mag p) ∧ (cl p = 3 ↔ mag p = 9218868437227405312) ∧ (cl p ≤ 2 ↔ mag p < 9218868437227405312) := by
  have h1 := mag_eq p
  have h2 := ex_lt p
  have h3 := fr_lt p
  rw [h1]
  unfold cl
  split
  · split <;> omega
  · split
    · split
      · omega
      · split <;> omega
    · omega
theorem mag_lt {p : Int} : 0 ≤ mag p ∧ mag p < 9223372036854775808 := by unfold mag; omega
theorem sS_mag {n : Bool} {r : Int} (h0 : 0 ≤ r) (h1 : r < 9223372036854775808) : mag (sS n r) = r ∧ sgn (sS n r) = n ∧ U (sS n r) ∧ uV (sS n r) = uV r := by
  have e : ex (sS n r) = ex r ∧ fr (sS n r) = fr r := by unfold ex fr sS; split <;> omega
  refine ⟨by unfold mag sS; split <;> omega, ?_, by unfold U sS; split <;> omega, ?_⟩
  · cases n
    · simp only [sS, Bool.false_eq_true, if_false, sgn]; exact decide_eq_false (by omega)
    · simp only [sS, if_true, sgn]; exact decide_eq_true (by omega)
  · unfold uV xp sg; rw [e.1, e.2]
theorem sS_own {p : Int} (hp : U p) : sS (sgn p) (mag p) = p := by
  unfold sS sgn mag U at *
  split <;> rename_i h <;> simp only [decide_eq_true_eq] at h <;> omega
theorem bNot_mag {p : Int} (hp : U p) : bNot p 9223372036854775808 = mag p := bNot_sign hp
theorem bXor_ng {p : Int} (hp : U p) : bXor p 9223372036854775808 = ng p := bXor_sign hp
theorem ng_sS {n : Bool} {r : Int} (h0 : 0 ≤ r) (h1 : r < 9223372036854775808) : ng (sS n r) = sS (!n) r := by
  cases n <;> simp [sS, ng] <;> omega
theorem ng_ng {p : Int} (hp : U p) : ng (ng p) = p := by unfold ng U at *; omega
theorem ng_ne {p : Int} (_hp : U p) : p ≠ ng p := by unfold ng; omega
theorem nan_mag : mag 9221120237041090560 = 9221120237041090560 := by decide
end Go.Proofs.Ytnolcojnodoecaa

/-
  What is known of calls, for the laws of quotients and roots.
-/
namespace Go.Proofs.Ytnolcojnodoecaa
open Go.KRun Go.Wd Go.Pt Go.Rn
set_option maxRecDepth 100000

def conL7 : Con := alt 13 gPM conS7
theorem conL7_ok : ConOk conL7 := alt_ok Try.func13 rfl gPM_ok conS7_ok
end Go.Proofs.Ytnolcojnodoecaa
