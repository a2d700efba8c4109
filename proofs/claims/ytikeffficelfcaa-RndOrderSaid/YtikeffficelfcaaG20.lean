/-
  Layer 4's own 'sure'; what is known of calls, for the laws of rounding.
-/
import Derived.Test.YtikeffficelfcaaG19
import Derived.Test.YtikeffficelfcaaG15
import Derived.Test.YtikeffficelfcaaG12
namespace Go.Proofs.Ytikeffficelfcaa
open Go.KRun Go.Wd Go.Pt Go.Rn
set_option maxRecDepth 100000

theorem sure_fits : Fits (reckon (tabOf Try.prog extC conN false) 4000 9 [] []) (.bool true) [] := ⟨by kernel_rfl, by kernel_rfl, by kernel_rfl, by kernel_rfl⟩
def gSure : Ans := fun vals s => match vals with | [] => some (.bool true, s, []) | _ => none
theorem gSure_ok : AnsOk 9 gSure := by
  intro vals s v s' lg h hl w
  unfold gSure at h
  split at h
  · cases h
    exact fits_calls (tabC_ok conN_ok) sure_fits (fun x hx => by cases hx) (by rfl) (by rfl) w
  · cases h
def conR : Con := alt 5 gRd (alt 9 gSure conN)
theorem conR_ok : ConOk conR := alt_ok Try.func5 rfl gRd_ok (alt_ok Try.func9 rfl gSure_ok conN_ok)
end Go.Proofs.Ytikeffficelfcaa

/-
  What the laws of rounding ask, in plain terms.
-/
namespace Go.Proofs.Ytikeffficelfcaa
open Go.KRun Go.Wd Go.Pt Go.Rn

def f16 (f : Int) : Int := IntKind.u8.wrap ((BitVec.ofInt IntKind.u8.bits f &&& BitVec.ofInt IntKind.u8.bits 16).toNat : Nat)
theorem f16_0 : f16 0 = 0 := by decide
theorem f16_in {f : Int} (h : f = 16 ∨ f = 20 ∨ f = 24) : (f16 f == 0) = false := by
  rcases h with rfl | rfl | rfl <;> decide
theorem sS_inj {n : Bool} {p q : Int} : sS n p = sS n q ↔ p = q := by unfold sS; split <;> omega
theorem sS_U {n : Bool} {p : Int} (h : 0 ≤ p ∧ p ≤ 9218868437227405312) : U (sS n p) := by unfold sS U; split <;> omega
theorem bXor_sS {n : Bool} {p : Int} (h : 0 ≤ p ∧ p ≤ 9218868437227405312) : bXor (sS (!n) p) 9223372036854775808 = sS n p := by
  rw [bXor_sign (sS_U h)]
  cases n <;> simp [sS] <;> omega
theorem bNot_sS {n : Bool} {p : Int} (h : 0 ≤ p ∧ p ≤ 9218868437227405312) : bNot (sS n p) 9223372036854775808 = p := by
  rw [bNot_sign (sS_U h)]
  cases n <;> simp [sS] <;> omega
theorem w4_ok {a b c d : Int} (ka : (Lit.int .u64 a).wf = true) (kb : (Lit.int .u64 b).wf = true) (kc : (Lit.int .u64 c).wf = true) (kd : (Lit.int .u64 d).wf = true) (h : ∀ {z : Int}, (Lit.int .u64 z).wf = true → U z) : (⟨a, b, c, d⟩ : W4).ok := ⟨h ka, h kb, h kc, h kd⟩
end Go.Proofs.Ytikeffficelfcaa

/-
  PLAIN ARITHMETIC: what is left beyond a multiple, by its first bit and whether there is more; how many bits, told in two ways; far away all is the same.
-/
namespace Go.Rn
open Go.Nt

theorem bl_bitLen (V : Nat) : bl V = bitLen V := by
  by_cases h : V = 0
  · subst h; rw [bl_zero]; rfl
  · have h1 := (bitLen_spec V).1
    have h2 := (bitLen_spec V).2 h
    have h3 := len_pos h
    obtain ⟨k, hk⟩ : ∃ k, bitLen V = k + 1 := ⟨bitLen V - 1, by omega⟩
    rw [hk] at h1 h2 ⊢
    exact bl_uniq h2 h1
theorem half_iff (T k : Nat) : (T / 2 ^ k % 2 = 1) ↔ 2 ^ k ≤ T % 2 ^ (k + 1) := by
  have hp : 0 < 2 ^ k := Nat.pow_pos (by omega)
  have e : T % 2 ^ (k + 1) = T % 2 ^ k + 2 ^ k * (T / 2 ^ k % 2) := by rw [Nat.pow_succ, Nat.mod_mul]
  have hl := Nat.mod_lt T hp
  have h2 : T / 2 ^ k % 2 = 0 ∨ T / 2 ^ k % 2 = 1 := by omega
  rw [e]
  clear e
  generalize T % 2 ^ k = r at hl
  generalize T / 2 ^ k % 2 = b at h2
  generalize 2 ^ k = P at hl hp
  rcases h2 with h | h
  · subst h
    simp only [Nat.mul_zero, Nat.add_zero]
    omega
  · subst h
    rw [Nat.mul_one]
    exact ⟨fun _ => Nat.le_add_left _ _, fun _ => rfl⟩
/-- the document's way to round: half, and just half -/
theorem up_doc {r k : Nat} (hr : r ≠ 0) (M : Int) (neg o : Bool) :
    upR M neg o (restC r (2 ^ (k + 1))) = (if M = 2 then false else if M = 3 then !neg else if M = 4 then neg else if M = 1 then decide (2 ^ k ≤ r) else (decide (2 ^ k ≤ r) && (!decide (r = 2 ^ k) || o))) := by
  have hc : ¬ restC r (2 ^ (k + 1)) = 0 := by rw [restC_iff]; exact hr
  unfold upR
  rw [if_neg hc]
  by_cases h2 : M = 2
  · rw [if_pos h2, if_pos h2]
  · rw [if_neg h2, if_neg h2]
    by_cases h3 : M = 3
    · rw [if_pos h3, if_pos h3]
    · rw [if_neg h3, if_neg h3]
      by_cases h4 : M = 4
      · rw [if_pos h4, if_pos h4]
      · rw [if_neg h4, if_neg h4]
        have e : 2 ^ (k + 1) = 2 * 2 ^ k := by rw [Nat.pow_succ, Nat.mul_comm]
        unfold restC
        rw [if_neg hr, e]
        generalize 2 ^ k = P
        by_cases a : 2 * r < 2 * P
        · rw [if_pos a]
          have : decide (P ≤ r) = false := decide_eq_false (by omega)
          rw [this]
          split <;> simp
        · rw [if_neg a]
          by_cases b : 2 * r = 2 * P
          · rw [if_pos b]
            have h1 : decide (P ≤ r) = true := decide_eq_true (by omega)
            have h5 : decide (r = P) = true := decide_eq_true (by omega)
            rw [h1, h5]
            split <;> simp
          · rw [if_neg b]
            have h1 : decide (P ≤ r) = true := decide_eq_true (by omega)
            have h5 : decide (r = P) = false := decide_eq_false (by omega)
            rw [h1, h5]
            split <;> simp
end Go.Rn
