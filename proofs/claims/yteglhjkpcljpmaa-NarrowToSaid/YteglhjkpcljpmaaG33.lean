/-
  The document's Round (tillerref04), as a contract.
-/
import Derived.Test.YteglhjkpcljpmaaG32
import Derived.Test.YteglhjkpcljpmaaG30
import Derived.Test.YteglhjkpcljpmaaG31
import Derived.Test.YteglhjkpcljpmaaG24
import Derived.Test.YteglhjkpcljpmaaG09
import Derived.Test.YteglhjkpcljpmaaG10
import Derived.Test.YteglhjkpcljpmaaG14
import Derived.Test.YteglhjkpcljpmaaG17
namespace Go.Proofs.Yteglhjkpcljpmaa
open Go.KRun Go.Nt Go.Wd Go.Rn
set_option maxRecDepth 100000
set_option linter.unusedVariables false

def okRo (h : Hp) (p : Option Addr) (n c : Nat) (E : Int) : Bool := rowP h p n c && canB (rowOf h p n) && Nat.blt n 20000 && decide (-400000 ≤ E ∧ E ≤ 400000)
def gRr : AnsH := fun vals h s =>
  match vals with
  | [.agg cs, .int .i64 M] =>
    match cs.toList with
    | [.bool neg, .int .i64 E, .slice (some ⟨b, o, none⟩) n c] => some (.tuple #[.int .u64 (sS neg (rnP M neg (vO h (some ⟨b, o, none⟩) n) E)), .int .i64 (rnF M neg (vO h (some ⟨b, o, none⟩) n) E)], h, s, [(okRo h (some ⟨b, o, none⟩) n c E, true)])
    | _ => none
  | _ => none
theorem gRr_ok : AnsHOk 27 gRr := by
  intro vals h s v h' s' lg hg hl m B w E0 hv
  unfold gRr at hg
  split at hg
  · rename_i cs M
    split at hg
    · rename_i neg E b o n c hcs
      have ecs : cs = #[.bool neg, .int .i64 E, sl b o n c] := by
        have := congrArg List.toArray hcs
        simpa [sl] using this
      cases hg
      have l3 := hl _ (List.mem_singleton.2 rfl)
      simp only [okRo, Bool.and_eq_true, decide_eq_true_eq] at l3
      obtain ⟨⟨⟨q1, q2⟩, q3⟩, q4⟩ := l3
      have q2 := canB_of q2
      have q3 := blt_iff.1 q3
      rcases rowP_cases q1 with ⟨h0, _⟩ | ⟨b', o', x, hp, hx, r1, rs, e0⟩
      · cases h0
      · cases hp
        rw [e0] at q2
        obtain ⟨h1, h2, h3, h4, h5, h6, h7⟩ := rowC_of r1
        have ev : vO h (some ⟨b, o, none⟩) n = vb 65536 (cutI x.1 o n) := by unfold vO; rw [e0]
        have r := ro_runs (fst_of r1 rs) q2 (by rw [h2]; exact q3) (neg := neg) q4 M
        rw [h2, ← ev] at r
        have evals : List.map (rn fun _ => b) [vRN neg E (sl 0 o n c), .int .i64 M] = [.agg cs, .int .i64 M] := by
          rw [ecs]
          simp [rn, rn2, rn1, vRN, sl]
        have fin := row_calls0 (T := tabH Try.prog extY conQ hcQ) Try.func27 ro_body (rows1 h7) (vals := [vRN neg E (sl 0 o n c), .int .i64 M]) (fun v hv => by
          simp only [List.mem_cons, List.not_mem_nil, or_false] at hv
          rcases hv with h1 | h1 <;> rw [h1] <;> rfl) (v := .tuple #[.int .u64 (sS neg (rnP M neg (vO h (some ⟨b, o, none⟩) n) E)), .int .i64 (rnF M neg (vO h (some ⟨b, o, none⟩) n) E)]) (by rfl) r E0 (fitsR1 hx h5 h6 rfl)
        rw [evals] at fin
        exact fin
    · cases hg
  · cases hg
end Go.Proofs.Yteglhjkpcljpmaa

/-
  The document's numbers of any size, with what is answered told ahead: the log says that it is right.
-/
namespace Go.Proofs.Yteglhjkpcljpmaa
open Go.KRun Go.Nt
set_option maxRecDepth 100000

def gUaddT : AnsH := fun vals h s =>
  match vals, s with
  | [.slice p n c, .slice q n' c'], .inr (.inr (.inr (.inl d))) :: s' =>
    match d, s' with
    | true, .inr (.inl V) :: s2 => mk16 V.toNat h s2 [(decide (vO h p n + vO h q n' = V.toNat), true), (two16 h p q n c n' c', true), (decide (0 < n ∨ 0 < n'), true)]
    | false, _ => some (nilS, h, s', [(two16 h p q n c n' c', true), (decide (0 < n ∨ 0 < n'), false)])
    | _, _ => none
  | _, _ => none
theorem gUaddT_ok : AnsHOk 46 gUaddT := by
  intro vals h s v h' s' lg hg hl
  unfold gUaddT at hg
  split at hg
  · rename_i p n c q n' c' d s2
    split at hg
    · rename_i V s3
      unfold mk16 at hg
      cases hg
      obtain ⟨l1, l2⟩ := log_tlT hl
      have l1 := of_decide_eq_true l1
      refine gUadd_ok _ h [cmp true] _ _ [] _ ?_ l2
      simp only [gUadd, mk16, l1]
    · cases hg
      exact gUadd_ok _ h [cmp false] _ _ [] _ rfl hl
    · cases hg
  · cases hg
def gRrT : AnsH := fun vals h s =>
  match vals, s with
  | [.agg cs, .int .i64 M], .inr (.inl T) :: s' =>
    match cs.toList with
    | [.bool neg, .int .i64 E, .slice (some ⟨b, o, none⟩) n c] => some (.tuple #[.int .u64 (sS neg (Go.Rn.rnP M neg T.toNat E)), .int .i64 (Go.Rn.rnF M neg T.toNat E)], h, s', [(decide (vO h (some ⟨b, o, none⟩) n = T.toNat), true), (okRo h (some ⟨b, o, none⟩) n c E, true)])
    | _ => none
  | _, _ => none
theorem gRrT_ok : AnsHOk 27 gRrT := by
  intro vals h s v h' s' lg hg hl
  unfold gRrT at hg
  split at hg
  · rename_i cs M T s2
    split at hg
    · rename_i neg E b o n c hcs
      cases hg
      obtain ⟨l1, l2⟩ := log_tlT hl
      have l1 := of_decide_eq_true l1
      refine gRr_ok _ h [] _ _ [] _ ?_ l2
      simp only [gRr, hcs, l1]
    · cases hg
  · cases hg

def hcTq : Hc := altH 46 gUaddT (altH 41 gUshlT (altH 45 gUcmpT (altH 28 gUof (altH 21 gUlen (altH 27 gRrT hcN)))))
theorem hcTq_ok : HcOk hcTq := altH_ok Try.func46 rfl gUaddT_ok (altH_ok Try.func41 rfl gUshlT_ok (altH_ok Try.func45 rfl gUcmpT_ok (altH_ok Try.func28 rfl gUof_ok (altH_ok Try.func21 rfl gUlen_ok (altH_ok Try.func27 rfl gRrT_ok hcN_ok)))))
section
variable {h : Hp} {b b' V W : Nat}
end
end Go.Proofs.Yteglhjkpcljpmaa

/-
  What is known of calls, for the document's patterns of 32 bits.
-/
namespace Go.Proofs.Yteglhjkpcljpmaa
open Go.KRun Go.Nt Go.Wd Go.Pt Go.Rn
set_option maxRecDepth 100000

def conNG : Con := alt 40 (gU vT) conN
theorem conNG_ok : ConOk conNG := alt_ok Try.func40 rfl ref_ok conN_ok
def hcNG : Hc := altH 20 gPt (altH 22 gToT (altH 27 gRrT (altH 21 gUlen (altH 28 gUof (altH 23 gUlow hcN)))))
theorem hcNG_ok : HcOk hcNG := altH_ok Try.func20 rfl gPt_ok (altH_ok Try.func22 rfl gToT_ok (altH_ok Try.func27 rfl gRrT_ok (altH_ok Try.func21 rfl gUlen_ok (altH_ok Try.func28 rfl gUof_ok (altH_ok Try.func23 rfl gUlow_ok hcN_ok)))))
end Go.Proofs.Yteglhjkpcljpmaa
