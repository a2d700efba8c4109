/-
  Layer 4's own 'sure'; what is known of calls, for the laws of rounding.
-/
import Derived.Test.YtppbpbiibibiiaaG21
import Derived.Test.YtppbpbiibibiiaaG23
namespace Go.Proofs.Ytppbpbiibibiiaa
open Go.KRun Go.Wd Go.Pt Go.Rn
set_option maxRecDepth 100000

theorem sure_fits : Fits (reckon (tabOf Try.prog extC conN false) 4000 12 [] []) (.bool true) [] := ⟨by kernel_rfl, by kernel_rfl, by kernel_rfl, by kernel_rfl⟩
def gSure : Ans := fun vals s => match vals with | [] => some (.bool true, s, []) | _ => none
theorem gSure_ok : AnsOk 12 gSure := by
  intro vals s v s' lg h hl w
  unfold gSure at h
  split at h
  · cases h
    exact fits_calls (tabC_ok conN_ok) sure_fits (fun x hx => by cases hx) (by rfl) (by rfl) w
  · cases h
def conR : Con := alt 8 gRd (alt 12 gSure conN)
theorem conR_ok : ConOk conR := alt_ok Try.func8 rfl gRd_ok (alt_ok Try.func12 rfl gSure_ok conN_ok)
end Go.Proofs.Ytppbpbiibibiiaa

/-
  What the laws of rounding ask, in plain terms.
-/
namespace Go.Proofs.Ytppbpbiibibiiaa
open Go.KRun Go.Wd Go.Pt Go.Rn

def f16 (f : Int) : Int := IntKind.u8.wrap ((BitVec.ofInt IntKind.u8.bits f &&& BitVec.ofInt IntKind.u8.bits 16).toNat : Nat)
theorem f16_0 : f16 0 = 0 := by decide
theorem f16_in {f : Int} (h : f = 16 ∨ f = 20 ∨ f = 24) : (f16 f == 0) = false := by
  rcases h with rfl | rfl | rfl <;> decide
theorem sS_inj {n : Bool} {p q : Int} : sS n p = sS n q ↔ p = q := by unfold sS; split <;> omega
theorem sS_U {n : Bool} {p : Int} (h : 0 ≤ p ∧ p ≤ 9218868437227405312) : U (sS n p) := by unfold sS U; split <;> omega
theorem bXor_sS {n : Bool} {p : Int} (h : 0 ≤ p ∧ p ≤ 9218868437227405312) : bXor (sS (!n) p) 9223372036854775808 = sS n p := by
  rw [bXor_sign (sS_U h)]
  cases n <;> simp [sS] <;> omega
theorem bNot_sS {n : Bool} {p : Int} (h : 0 ≤ p ∧ p ≤ 9218868437227405312) : bNot (sS n p) 9223372036854775808 = p := by
  rw [bNot_sign (sS_U h)]
  cases n <;> simp [sS] <;> omega
theorem w4_ok {a b c d : Int} (ka : (Lit.int .u64 a).wf = true) (kb : (Lit.int .u64 b).wf = true) (kc : (Lit.int .u64 c).wf = true) (kd : (Lit.int .u64 d).wf = true) (h : ∀ {z : Int}, (Lit.int .u64 z).wf = true → U z) : (⟨a, b, c, d⟩ : W4).ok := ⟨h ka, h kb, h kc, h kd⟩
end Go.Proofs.Ytppbpbiibibiiaa

/-
  The document's Round (tillerref04), as a contract.
-/
namespace Go.Proofs.Ytppbpbiibibiiaa
open Go.KRun Go.Nt Go.Wd Go.Rn
set_option maxRecDepth 100000
set_option linter.unusedVariables false

def okRo (h : Hp) (p : Option Addr) (n c : Nat) (E : Int) : Bool := rowP h p n c && canB (rowOf h p n) && Nat.blt n 20000 && decide (-400000 ≤ E ∧ E ≤ 400000)
def gRr : AnsH := fun vals h s =>
  match vals with
  | [.agg cs, .int .i64 M] =>
    match cs.toList with
    | [.bool neg, .int .i64 E, .slice (some ⟨b, o, none⟩) n c] => some (.tuple #[.int .u64 (sS neg (rnP M neg (vO h (some ⟨b, o, none⟩) n) E)), .int .i64 (rnF M neg (vO h (some ⟨b, o, none⟩) n) E)], h, s, [(okRo h (some ⟨b, o, none⟩) n c E, true)])
    | _ => none
  | _ => none
theorem gRr_ok : AnsHOk 10 gRr := by
  intro vals h s v h' s' lg hg hl m B w E0 hv
  unfold gRr at hg
  split at hg
  · rename_i cs M
    split at hg
    · rename_i neg E b o n c hcs
      have ecs : cs = #[.bool neg, .int .i64 E, sl b o n c] := by
        have := congrArg List.toArray hcs
        simpa [sl] using this
      cases hg
      have l3 := hl _ (List.mem_singleton.2 rfl)
      simp only [okRo, Bool.and_eq_true, decide_eq_true_eq] at l3
      obtain ⟨⟨⟨q1, q2⟩, q3⟩, q4⟩ := l3
      have q2 := canB_of q2
      have q3 := blt_iff.1 q3
      rcases rowP_cases q1 with ⟨h0, _⟩ | ⟨b', o', x, hp, hx, r1, rs, e0⟩
      · cases h0
      · cases hp
        rw [e0] at q2
        obtain ⟨h1, h2, h3, h4, h5, h6, h7⟩ := rowC_of r1
        have ev : vO h (some ⟨b, o, none⟩) n = vb 65536 (cutI x.1 o n) := by unfold vO; rw [e0]
        have r := ro_runs (fst_of r1 rs) q2 (by rw [h2]; exact q3) (neg := neg) q4 M
        rw [h2, ← ev] at r
        have evals : List.map (rn fun _ => b) [vRN neg E (sl 0 o n c), .int .i64 M] = [.agg cs, .int .i64 M] := by
          rw [ecs]
          simp [rn, rn2, rn1, vRN, sl]
        have fin := row_calls0 (T := tabH Try.prog extY conQ hcQ) Try.func10 ro_body (rows1 h7) (vals := [vRN neg E (sl 0 o n c), .int .i64 M]) (fun v hv => by
          simp only [List.mem_cons, List.not_mem_nil, or_false] at hv
          rcases hv with h1 | h1 <;> rw [h1] <;> rfl) (v := .tuple #[.int .u64 (sS neg (rnP M neg (vO h (some ⟨b, o, none⟩) n) E)), .int .i64 (rnF M neg (vO h (some ⟨b, o, none⟩) n) E)]) (by rfl) r E0 (fitsR1 hx h5 h6 rfl)
        rw [evals] at fin
        exact fin
    · cases hg
  · cases hg
def hcRR : Hc := altH 11 gRof (altH 10 gRr hcW)
theorem hcRR_ok : HcOk hcRR := altH_ok Try.func11 rfl gRof_ok (altH_ok Try.func10 rfl gRr_ok hcW_ok)
end Go.Proofs.Ytppbpbiibibiiaa
