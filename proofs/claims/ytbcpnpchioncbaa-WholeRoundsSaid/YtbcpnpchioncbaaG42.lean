/-
  The document's Pattern (tillerref04), as a contract.
-/
import Derived.Test.YtbcpnpchioncbaaG24
import Derived.Test.YtbcpnpchioncbaaG26
import Derived.Test.YtbcpnpchioncbaaG22
import Derived.Test.YtbcpnpchioncbaaG33
import Derived.Test.YtbcpnpchioncbaaG19
namespace Go.Proofs.Ytbcpnpchioncbaa
open Go.KRun Go.Nt Go.Wd Go.Rn Go.Pt
set_option maxRecDepth 100000
set_option linter.unusedVariables false

def conPt : Con := alt 20 (gU vT) conN
theorem conPt_ok : ConOk conPt := alt_ok Try.func20 rfl ref_ok conN_ok
theorem pt_body : Try.f35.body = some (cBody Try.f35) := by kernel_rfl
theorem pt_go (p : Int) : GoesT (evC (tabH Try.prog extY conPt hcW) 200 false (cBody Try.f35) ([.int .u64 p] ++ List.replicate 13 undef, ⟨0, []⟩, []) ⟨[], [], []⟩) 3 11 (some none) [.int .u64 p, undef, .pointer (some ⟨0, 0, none⟩)] ⟨3, [(wU (d16 (sg p).toNat), tU), ([.bool (sgn p), .int .i64 (cl p), .int .i64 (xp p), .int .u64 (sg p)], 50), bOf (sgn p) (xp p) (sOf 2 (sg p).toNat)]⟩ [(decide (0 ≤ sg p ∧ sg p < 18446744073709551616), true), (decide (U p), true)] := ⟨by kernel_rfl, by kernel_rfl, by kernel_rfl⟩
def gPt : AnsH := fun vals h s =>
  match vals with
  | [.int .u64 p] => some (vRN (sgn p) (xp p) (sOf h.n (sg p).toNat), h.push (wU (d16 (sg p).toNat)) tU, s, [(decide (U p), true)])
  | _ => none
theorem gPt_ok : AnsHOk 35 gPt := by
  intro vals h s v h' s' lg hg hl m B w E hv
  unfold gPt at hg
  split at hg
  · rename_i p
    cases hg
    have q := hl _ (List.mem_singleton.2 rfl)
    have hs := sg_lt p
    have hr : RunsW (tabH Try.prog extY conPt hcW) (cBody Try.f35) ([.int .u64 p] ++ List.replicate 13 undef, ⟨0, []⟩, []) fun e z => (e = none ∨ e = some none) ∧ ∃ k, resS Try.prog Try.f35 z.1 z.2.1 = some (vRN (sgn p) (xp p) (sOf k (sg p).toNat)) ∧ ∃ r, z.2.1.blk? k = some (wU (d16 (sg p).toNat) ++ r, tU) := by
      refine (goesT_runsW (tabH_ok conPt_ok hcW_ok) (pt_go p) (okCons (decide_eq_true ⟨hs.1, by omega⟩) (okL1 q))).mono fun e z he => ?_
      obtain ⟨rfl, ⟨g, e1⟩, e2⟩ := he
      exact ⟨.inr rfl, 2, by rw [e1, e2]; rfl, [], by rw [e2, List.append_nil]; rfl⟩
    have := row_calls2 (T := tabH Try.prog extY conPt hcW) Try.func35 pt_body (h0 := ⟨0, []⟩) ⟨rfl, fun b x hx => by have : b < 0 := Hp.blk_lt hx; omega⟩ (vals := [.int .u64 p]) (fun v hv => by rw [List.mem_singleton.1 hv]; rfl) (v := fun k => vRN (sgn p) (xp p) (sOf k (sg p).toNat)) (wU_lt _) (by kernel_rfl) hr (fun k => by simp [oc, oc2, oc1, sOf, sl, vRN]) E (s := fun i => i) (fun i x hx _ => by have : i < 0 := Hp.blk_lt hx; omega) (fun k => by simp [rn, rn2, rn1, sOf, sl, vRN])
    exact this
  · cases hg
end Go.Proofs.Ytbcpnpchioncbaa

/-
  The document's Round of nothing, as a call in every world.
-/
namespace Go.Proofs.Ytbcpnpchioncbaa
open Go.KRun Go.Nt Go.Wd Go.Rn Go.Pt
set_option maxRecDepth 100000
set_option linter.unusedVariables false

/-! ### Round of nothing -/
def r0V (neg : Bool) : Value := .tuple #[.int .u64 (sS neg 0), .int .i64 0]
theorem r0a (neg : Bool) (E M : Int) : Fits (reckon (tabOf Try.prog extY conN true) 200 28 [vRN neg E nilS, .int .i64 M] [cmp true, cmp true]) (r0V neg) [(((0 : Nat) : Int) == 0, true), (decide (M < 0), true)] := by
  cases neg <;> exact ⟨by kernel_rfl, by kernel_rfl, by kernel_rfl, by kernel_rfl⟩
theorem r0b (neg : Bool) (E M : Int) : Fits (reckon (tabOf Try.prog extY conN true) 200 28 [vRN neg E nilS, .int .i64 M] [cmp false, cmp true, cmp true]) (r0V neg) [(((0 : Nat) : Int) == 0, true), (decide (M > 4), true), (decide (M < 0), false)] := by
  cases neg <;> exact ⟨by kernel_rfl, by kernel_rfl, by kernel_rfl, by kernel_rfl⟩
theorem r0c (neg : Bool) (E M : Int) : Fits (reckon (tabOf Try.prog extY conN true) 200 28 [vRN neg E nilS, .int .i64 M] [cmp false, cmp false, cmp true]) (r0V neg) [(((0 : Nat) : Int) == 0, true), (decide (M > 4), false), (decide (M < 0), false)] := by
  cases neg <;> exact ⟨by kernel_rfl, by kernel_rfl, by kernel_rfl, by kernel_rfl⟩
def gR0 : Ans := fun vals s =>
  match vals with
  | [.agg cs, .int .i64 M] =>
    match cs.toList with
    | [.bool neg, .int .i64 E, .slice none 0 0] => some (r0V neg, s, [])
    | _ => none
  | _ => none
theorem gR0_ok : AnsOk 28 gR0 := by
  intro vals s v s' lg h hl w
  unfold gR0 at h
  split at h
  · rename_i cs M
    split at h
    · rename_i neg E hcs
      have ecs : cs = #[.bool neg, .int .i64 E, nilS] := by
        have := congrArg List.toArray hcs
        simpa [nilS] using this
      cases h
      rw [ecs]
      by_cases h0 : M < 0
      · exact fits_calls (tabY_ok conN_ok) (r0a neg E M) (okCons rfl (okL1 (decide_eq_true h0))) (by rfl) (by rfl) w
      · by_cases h4 : M > 4
        · exact fits_calls (tabY_ok conN_ok) (r0b neg E M) (okCons rfl (okCons (decide_eq_true h4) (okL1 (decide_eq_false h0)))) (by rfl) (by rfl) w
        · exact fits_calls (tabY_ok conN_ok) (r0c neg E M) (okCons rfl (okCons (decide_eq_false h4) (okL1 (decide_eq_false h0)))) (by rfl) (by rfl) w
    · cases h
  · cases h

end Go.Proofs.Ytbcpnpchioncbaa

/-
  The document's To with what is answered told ahead; what is known of calls, for its whole numbers.
-/
namespace Go.Proofs.Ytbcpnpchioncbaa
open Go.KRun Go.Nt Go.Wd Go.Pt Go.Rn
set_option maxRecDepth 100000

def gToT : AnsH := fun vals h s =>
  match vals, s with
  | [.agg cs, .int .i64 N, .int .i64 M], .inr (.inr (.inr (.inl d))) :: .inr (.inr (.inr (.inl e))) :: .inr (.inl V) :: s' =>
    match cs.toList with
    | [.bool neg, .int .i64 E, .slice (some ⟨b, o, none⟩) n c] =>
      match d with
      | true => some (.tuple #[sOf h.n V.toNat, .bool e], h.push (wU (d16 V.toNat)) tU, s', [(decide (toQ M neg (vO h (some ⟨b, o, none⟩) n) E N = V.toNat), true), (toL (vO h (some ⟨b, o, none⟩) n) E N, e), (rowTo M neg (vO h (some ⟨b, o, none⟩) n) n E N, true), (okTo h (some ⟨b, o, none⟩) n c E N, true)])
      | false => some (.tuple #[nilS, .bool e], h, s', [(toL (vO h (some ⟨b, o, none⟩) n) E N, e), (rowTo M neg (vO h (some ⟨b, o, none⟩) n) n E N, false), (okTo h (some ⟨b, o, none⟩) n c E N, true)])
    | _ => none
  | _, _ => none
theorem gToT_ok : AnsHOk 36 gToT := by
  intro vals h s v h' s' lg hg hl
  unfold gToT at hg
  split at hg
  · rename_i cs N M d e V s2
    split at hg
    · rename_i neg E b o n c hcs
      split at hg
      · cases hg
        obtain ⟨l1, l2⟩ := log_tlT hl
        have l1 := of_decide_eq_true l1
        refine gTo_ok _ h [cmp true, cmp e] _ _ [] _ ?_ l2
        simp only [gTo, hcs, l1]
      · cases hg
        refine gTo_ok _ h [cmp false, cmp e] _ _ [] _ ?_ hl
        simp only [gTo, hcs]
    · cases hg
  · cases hg
def conW8 : Con := alt 20 (gU vT) (alt 28 gR0 conN)
theorem conW8_ok : ConOk conW8 := alt_ok Try.func20 rfl ref_ok (alt_ok Try.func28 rfl gR0_ok conN_ok)
def hcW8 : Hc := altH 35 gPt (altH 36 gToT (altH 28 gRrT hcN))
theorem hcW8_ok : HcOk hcW8 := altH_ok Try.func35 rfl gPt_ok (altH_ok Try.func36 rfl gToT_ok (altH_ok Try.func28 rfl gRrT_ok hcN_ok))
end Go.Proofs.Ytbcpnpchioncbaa
