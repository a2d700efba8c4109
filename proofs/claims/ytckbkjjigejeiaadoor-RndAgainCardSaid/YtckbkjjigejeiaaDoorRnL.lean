/-
  What the laws of rounding ask, in plain terms.
-/
import Derived.Test.YtckbkjjigejeiaaDoorRnS
namespace Go.Proofs.YtckbkjjigejeiaaDoor
open Go.KRun Go.Wd Go.Pt Go.Rn

def f16 (f : Int) : Int := IntKind.u8.wrap ((BitVec.ofInt IntKind.u8.bits f &&& BitVec.ofInt IntKind.u8.bits 16).toNat : Nat)
theorem f16_0 : f16 0 = 0 := by decide
theorem f16_in {f : Int} (h : f = 16 ∨ f = 20 ∨ f = 24) : (f16 f == 0) = false := by
  rcases h with rfl | rfl | rfl <;> decide
theorem sS_inj {n : Bool} {p q : Int} : sS n p = sS n q ↔ p = q := by unfold sS; split <;> omega
theorem sS_U {n : Bool} {p : Int} (h : 0 ≤ p ∧ p ≤ 9218868437227405312) : U (sS n p) := by unfold sS U; split <;> omega
theorem bXor_sS {n : Bool} {p : Int} (h : 0 ≤ p ∧ p ≤ 9218868437227405312) : bXor (sS (!n) p) 9223372036854775808 = sS n p := by
  rw [bXor_sign (sS_U h)]
  cases n <;> simp [sS] <;> omega
theorem bNot_sS {n : Bool} {p : Int} (h : 0 ≤ p ∧ p ≤ 9218868437227405312) : bNot (sS n p) 9223372036854775808 = p := by
  rw [bNot_sign (sS_U h)]
  cases n <;> simp [sS] <;> omega
theorem w4_ok {a b c d : Int} (ka : (Lit.int .u64 a).wf = true) (kb : (Lit.int .u64 b).wf = true) (kc : (Lit.int .u64 c).wf = true) (kd : (Lit.int .u64 d).wf = true) (h : ∀ {z : Int}, (Lit.int .u64 z).wf = true → U z) : (⟨a, b, c, d⟩ : W4).ok := ⟨h ka, h kb, h kc, h kd⟩
end Go.Proofs.YtckbkjjigejeiaaDoor
