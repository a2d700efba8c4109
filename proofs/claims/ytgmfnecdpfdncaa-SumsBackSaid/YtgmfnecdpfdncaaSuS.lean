/-
  Layer 5's own 'sure'; what is known of calls, for the laws of sums.
-/
import Derived.Test.YtgmfnecdpfdncaaSuC
namespace Go.Proofs.Ytgmfnecdpfdncaa
open Go.KRun Go.Wd Go.Pt Go.Rn
set_option maxRecDepth 100000

def conA1 : Con := alt 8 gSA conN
theorem conA1_ok : ConOk conA1 := alt_ok Try.func8 rfl gSA_ok conN_ok
theorem su_e : suP 0 4607182418800017408 4368491638549381120 = 4607182418800017408 ∧ suF 0 4607182418800017408 4368491638549381120 = 16 := ⟨by kernel_rfl, by kernel_rfl⟩
theorem su_u : suP 3 4607182418800017408 4368491638549381120 = 4607182418800017409 ∧ suF 3 4607182418800017408 4368491638549381120 = 16 := ⟨by kernel_rfl, by kernel_rfl⟩
theorem sure5 : Fits (reckon (tabOf Try.prog extY conA1 true) 300 10 [] [cmp true, cmp true, cmp true, cmp true]) (.bool true) [(suF 3 4607182418800017408 4368491638549381120 == 16, true), (suF 0 4607182418800017408 4368491638549381120 == 16, true), (suP 3 4607182418800017408 4368491638549381120 == 4607182418800017409, true), (suP 0 4607182418800017408 4368491638549381120 == 4607182418800017408, true), (decide (U 4607182418800017408 ∧ U 4368491638549381120), true), (decide (U 4607182418800017408 ∧ U 4368491638549381120), true)] := ⟨by kernel_rfl, by kernel_rfl, by kernel_rfl, by kernel_rfl⟩
def gSure5 : Ans := fun vals s => match vals with | [] => some (.bool true, s, []) | _ => none
theorem gSure5_ok : AnsOk 10 gSure5 := by
  intro vals s v s' lg h hl w
  unfold gSure5 at h
  split at h
  · cases h
    have hu : decide (U 4607182418800017408 ∧ U 4368491638549381120) = true := by decide
    exact fits_calls (tabY_ok conA1_ok) sure5 (okCons (beq_t su_u.2) (okCons (beq_t su_e.2) (okCons (beq_t su_u.1) (okCons (beq_t su_e.1) (okCons hu (okL1 hu)))))) (by rfl) (by rfl) w
  · cases h
def conS5 : Con := alt 10 gSure5 conA1
theorem conS5_ok : ConOk conS5 := alt_ok Try.func10 rfl gSure5_ok conA1_ok
end Go.Proofs.Ytgmfnecdpfdncaa
