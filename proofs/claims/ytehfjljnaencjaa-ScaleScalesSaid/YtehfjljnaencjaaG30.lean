/-
  The document's numbers of any size, with what is answered told ahead: the log says that it is right.
-/
import Derived.Test.YtehfjljnaencjaaG29
import Derived.Test.YtehfjljnaencjaaG13
import Derived.Test.YtehfjljnaencjaaG09
namespace Go.Proofs.Ytehfjljnaencjaa
open Go.KRun Go.Nt
set_option maxRecDepth 100000

theorem log_tlT {x : Bool × Bool} {l : Log} (h : okLog (x :: l)) : x.1 = x.2 ∧ okLog l := ⟨h _ List.mem_cons_self, fun y hy => h y (List.mem_cons_of_mem _ hy)⟩
def gUaddT : AnsH := fun vals h s =>
  match vals, s with
  | [.slice p n c, .slice q n' c'], .inr (.inr (.inr (.inl d))) :: s' =>
    match d, s' with
    | true, .inr (.inl V) :: s2 => mk16 V.toNat h s2 [(decide (vO h p n + vO h q n' = V.toNat), true), (two16 h p q n c n' c', true), (decide (0 < n ∨ 0 < n'), true)]
    | false, _ => some (nilS, h, s', [(two16 h p q n c n' c', true), (decide (0 < n ∨ 0 < n'), false)])
    | _, _ => none
  | _, _ => none
theorem gUaddT_ok : AnsHOk 80 gUaddT := by
  intro vals h s v h' s' lg hg hl
  unfold gUaddT at hg
  split at hg
  · rename_i p n c q n' c' d s2
    split at hg
    · rename_i V s3
      unfold mk16 at hg
      cases hg
      obtain ⟨l1, l2⟩ := log_tlT hl
      have l1 := of_decide_eq_true l1
      refine gUadd_ok _ h [cmp true] _ _ [] _ ?_ l2
      simp only [gUadd, mk16, l1]
    · cases hg
      exact gUadd_ok _ h [cmp false] _ _ [] _ rfl hl
    · cases hg
  · cases hg
def okSh (h : Hp) (p : Option Addr) (n c : Nat) (k : Int) : Bool := rowP h p n c && dgB (rowOf h p n) && Nat.blt (k.toNat / 16 + n + 3) 1073741824 && decide (0 ≤ k)
def gUshlT : AnsH := fun vals h s =>
  match vals, s with
  | [.slice p n c, .int .i64 k], .inr (.inr (.inr (.inl d))) :: s' =>
    match d, s' with
    | true, .inr (.inl V) :: s2 => mk16 V.toNat h s2 [(decide (vO h p n * 2 ^ k.toNat = V.toNat), true), (okSh h p n c k, true), (decide (0 < n), true)]
    | false, _ => some (nilS, h, s', [(rowP h p n c, true), (decide (0 < n), false)])
    | _, _ => none
  | _, _ => none
theorem gUshlT_ok : AnsHOk 75 gUshlT := by
  intro vals h s v h' s' lg hg hl
  unfold gUshlT at hg
  split at hg
  · rename_i p n c k d s2
    split at hg
    · rename_i V s3
      unfold mk16 at hg
      cases hg
      obtain ⟨l1, l2⟩ := log_tlT hl
      have l1 := of_decide_eq_true l1
      refine gUshl_ok _ h [cmp true] _ _ [] _ ?_ l2
      simp only [gUshl, mk16, l1]
      rfl
    · cases hg
      exact gUshl_ok _ h [cmp false] _ _ [] _ rfl hl
    · cases hg
  · cases hg
def gUcmpT : AnsH := fun vals h s =>
  match vals, s with
  | [.slice p n c, .slice q n' c'], .inr (.inl k) :: s' => some (.int .i64 k, h, s', [(decide (cmpZ (vO h p n) (vO h q n') = k), true), (two16 h p q n c n' c', true)])
  | _, _ => none
theorem gUcmpT_ok : AnsHOk 79 gUcmpT := by
  intro vals h s v h' s' lg hg hl
  unfold gUcmpT at hg
  split at hg
  · rename_i p n c q n' c' V s3
    cases hg
    obtain ⟨l1, l2⟩ := log_tlT hl
    have l1 := of_decide_eq_true l1
    refine gUcmp_ok _ h [] _ _ [] _ ?_ l2
    simp only [gUcmp, l1]
  · cases hg
def gRrT : AnsH := fun vals h s =>
  match vals, s with
  | [.agg cs, .int .i64 M], .inr (.inl T) :: s' =>
    match cs.toList with
    | [.bool neg, .int .i64 E, .slice (some ⟨b, o, none⟩) n c] => some (.tuple #[.int .u64 (sS neg (Go.Rn.rnP M neg T.toNat E)), .int .i64 (Go.Rn.rnF M neg T.toNat E)], h, s', [(decide (vO h (some ⟨b, o, none⟩) n = T.toNat), true), (okRo h (some ⟨b, o, none⟩) n c E, true)])
    | _ => none
  | _, _ => none
theorem gRrT_ok : AnsHOk 28 gRrT := by
  intro vals h s v h' s' lg hg hl
  unfold gRrT at hg
  split at hg
  · rename_i cs M T s2
    split at hg
    · rename_i neg E b o n c hcs
      cases hg
      obtain ⟨l1, l2⟩ := log_tlT hl
      have l1 := of_decide_eq_true l1
      refine gRr_ok _ h [] _ _ [] _ ?_ l2
      simp only [gRr, hcs, l1]
    · cases hg
  · cases hg

def hcTq : Hc := altH 80 gUaddT (altH 75 gUshlT (altH 79 gUcmpT (altH 34 gUof (altH 56 gUlen (altH 28 gRrT hcN)))))
theorem hcTq_ok : HcOk hcTq := altH_ok Try.func80 rfl gUaddT_ok (altH_ok Try.func75 rfl gUshlT_ok (altH_ok Try.func79 rfl gUcmpT_ok (altH_ok Try.func34 rfl gUof_ok (altH_ok Try.func56 rfl gUlen_ok (altH_ok Try.func28 rfl gRrT_ok hcN_ok)))))
/-! ### what is asked of a row that is the number V -/
section
variable {h : Hp} {b b' V W : Nat}
def L16 (V : Nat) : Nat := (d16 V).length
theorem oSh {k : Nat} (hb : h.blk? b = some (wU (d16 V), tU)) (hl : (d16 V).length < 100000) (hk : k < 100000) : okSh h (some ⟨b, 0, none⟩) (d16 V).length (d16 V).length (k : Int) = true := by
  unfold okSh
  rw [rowP_d16 hb (by omega), dgB_d16 hb, blt_iff.2 (by rw [Int.toNat_natCast]; omega), decide_eq_true (by omega)]
  rfl
theorem oTwo (hb : h.blk? b = some (wU (d16 V), tU)) (hc : h.blk? b' = some (wU (d16 W), tU)) (hl : (d16 V).length < 100000) (hm : (d16 W).length < 100000) : two16 h (some ⟨b, 0, none⟩) (some ⟨b', 0, none⟩) (d16 V).length (d16 V).length (d16 W).length (d16 W).length = true := by
  unfold two16
  rw [rowP_d16 hb (by omega), dgB_d16 hb, rowP_d16 hc (by omega), dgB_d16 hc, blt_iff.2 (by omega)]
  rfl
end
end Go.Proofs.Ytehfjljnaencjaa

/-
  What is asked of rows that are numbers.
-/
namespace Go.Proofs.Ytehfjljnaencjaa
open Go.KRun Go.Nt Go.Wd Go.Pt Go.Rn
set_option maxRecDepth 100000

/-- a block, by its number -/
def aP16 (b : Nat) : Option Addr := some ⟨b, 0, none⟩
def bPt (p : Int) : List Value × TypeId := ([.bool (sgn p), .int .i64 (cl p), .int .i64 (xp p), .int .u64 (sg p)], 63)
def w16 (X : Nat) : List Value × TypeId := (wU (d16 X), tU)
theorem wU_calm1 (L : List Int) : (wU L).all calm1 = true := by
  unfold wU
  rw [List.all_eq_true]
  intro v hv
  obtain ⟨x, _, rfl⟩ := List.mem_map.1 hv
  rfl
section
variable {h : Hp} {b V : Nat}
theorem vO_aP (hb : h.blk? b = some (wU (d16 V), tU)) : vO h (aP16 b) (d16 V).length = V := vO_d16 hb
theorem d16_iff : 0 < (d16 V).length ↔ 0 < V := by
  unfold d16
  rw [List.length_pos_iff, ne_eq, db_nil (by omega)]
  omega
theorem oRo {E : Int} (hb : h.blk? b = some (wU (d16 V), tU)) (hl : (d16 V).length < 20000) (hE : -400000 ≤ E ∧ E ≤ 400000) : okRo h (aP16 b) (d16 V).length (d16 V).length E = true := by
  unfold okRo aP16
  rw [rowP_d16 hb (by omega), rowOf_d16 hb, show canB (d16 V) = true from canB_mk (can_db (by omega) V), blt_iff.2 hl, decide_eq_true hE]
  rfl
end
end Go.Proofs.Ytehfjljnaencjaa

/-
  The document's Round of nothing, as a call in every world.
-/
namespace Go.Proofs.Ytehfjljnaencjaa
open Go.KRun Go.Nt Go.Wd Go.Rn Go.Pt
set_option maxRecDepth 100000
set_option linter.unusedVariables false

/-! ### Round of nothing -/
def r0V (neg : Bool) : Value := .tuple #[.int .u64 (sS neg 0), .int .i64 0]
theorem r0a (neg : Bool) (E M : Int) : Fits (reckon (tabOf Try.prog extY conN true) 200 28 [vRN neg E nilS, .int .i64 M] [cmp true, cmp true]) (r0V neg) [(((0 : Nat) : Int) == 0, true), (decide (M < 0), true)] := by
  cases neg <;> exact ⟨by kernel_rfl, by kernel_rfl, by kernel_rfl, by kernel_rfl⟩
theorem r0b (neg : Bool) (E M : Int) : Fits (reckon (tabOf Try.prog extY conN true) 200 28 [vRN neg E nilS, .int .i64 M] [cmp false, cmp true, cmp true]) (r0V neg) [(((0 : Nat) : Int) == 0, true), (decide (M > 4), true), (decide (M < 0), false)] := by
  cases neg <;> exact ⟨by kernel_rfl, by kernel_rfl, by kernel_rfl, by kernel_rfl⟩
theorem r0c (neg : Bool) (E M : Int) : Fits (reckon (tabOf Try.prog extY conN true) 200 28 [vRN neg E nilS, .int .i64 M] [cmp false, cmp false, cmp true]) (r0V neg) [(((0 : Nat) : Int) == 0, true), (decide (M > 4), false), (decide (M < 0), false)] := by
  cases neg <;> exact ⟨by kernel_rfl, by kernel_rfl, by kernel_rfl, by kernel_rfl⟩
def gR0 : Ans := fun vals s =>
  match vals with
  | [.agg cs, .int .i64 M] =>
    match cs.toList with
    | [.bool neg, .int .i64 E, .slice none 0 0] => some (r0V neg, s, [])
    | _ => none
  | _ => none
theorem gR0_ok : AnsOk 28 gR0 := by
  intro vals s v s' lg h hl w
  unfold gR0 at h
  split at h
  · rename_i cs M
    split at h
    · rename_i neg E hcs
      have ecs : cs = #[.bool neg, .int .i64 E, nilS] := by
        have := congrArg List.toArray hcs
        simpa [nilS] using this
      cases h
      rw [ecs]
      by_cases h0 : M < 0
      · exact fits_calls (tabY_ok conN_ok) (r0a neg E M) (okCons rfl (okL1 (decide_eq_true h0))) (by rfl) (by rfl) w
      · by_cases h4 : M > 4
        · exact fits_calls (tabY_ok conN_ok) (r0b neg E M) (okCons rfl (okCons (decide_eq_true h4) (okL1 (decide_eq_false h0)))) (by rfl) (by rfl) w
        · exact fits_calls (tabY_ok conN_ok) (r0c neg E M) (okCons rfl (okCons (decide_eq_false h4) (okL1 (decide_eq_false h0)))) (by rfl) (by rfl) w
    · cases h
  · cases h

end Go.Proofs.Ytehfjljnaencjaa
