/-
  Logs, entry by entry.
-/
import Derived.Test.YtppakongkjdlbaaDoorG01
import Derived.Test.YtppakongkjdlbaaDoorG10
import Derived.Test.YtppakongkjdlbaaDoorG12
import Derived.Test.YtppakongkjdlbaaDoorG14
namespace Go.Proofs.YtppakongkjdlbaaDoor
open Go.KRun

theorem okL1 {a b : Bool} (h : a = b) : okLog [(a, b)] := fun p hp => by rw [List.mem_singleton.1 hp]; exact h
theorem okCons {a b : Bool} {l : Log} (h : a = b) (hl : okLog l) : okLog ((a, b) :: l) := fun p hp => by
  rcases List.mem_cons.1 hp with rfl | hp
  · exact h
  · exact hl p hp
theorem okCs {a b : Bool} {l : Log} : okLog ((a, b) :: l) ↔ a = b ∧ okLog l := ⟨fun h => ⟨h _ (List.mem_cons_self), fun x hx => h x (List.mem_cons_of_mem _ hx)⟩, fun h => okCons h.1 h.2⟩
theorem okNl : okLog [] := fun x hx => by cases hx
end Go.Proofs.YtppakongkjdlbaaDoor

/-
  nat's calls with rows or nothing, told by their places alone (letters): Check, checkBoth, compare, Add, Sub; the law's own 'is' and 'words'; the document's From.
-/
namespace Go.Proofs.YtppakongkjdlbaaDoor
open Go.KRun Go.Nt
set_option maxRecDepth 100000
set_option linter.unusedVariables false

/-- a row or nothing, its capacity known -/
def rowX (h : Hp) (p : Option Addr) (n c : Nat) : Bool :=
  match p with
  | none => Nat.beq n 0 && Nat.beq c 0
  | some a =>
    match a.spot, h.blk? a.block with
    | none, some x => rowOk x.2 x.1 a.off n c
    | _, _ => false
theorem rowX_cases {h : Hp} {p : Option Addr} {n c : Nat} (hr : rowX h p n c = true) : (p = none ∧ n = 0 ∧ c = 0 ∧ rowOf h p n = []) ∨ ∃ b o x, p = some ⟨b, o, none⟩ ∧ h.blk? b = some x ∧ rowOk x.2 x.1 o n c = true ∧ rowOf h p n = cutI x.1 o n := by
  unfold rowX at hr
  split at hr
  · simp only [Bool.and_eq_true] at hr
    exact .inl ⟨rfl, Nat.eq_of_beq_eq_true hr.1, Nat.eq_of_beq_eq_true hr.2, rfl⟩
  · rename_i a
    split at hr
    · rename_i x hs hx
      obtain ⟨b, o, sp⟩ := a
      simp only at hs hx
      subst hs
      exact .inr ⟨b, o, x, rfl, hx, hr, by simp [rowOf, hx]⟩
    · cases hr
theorem badL_nil : badL [] = false := rfl
/-! ### Check -/
def gChkU : AnsH := fun vals h s =>
  match vals, s with
  | [.slice p n c], .inr (.inr (.inr (.inl d))) :: s' => some (errD d, h, s', [(rowX h p n c, true), (badL (rowOf h p n), d)])
  | _, _ => none
theorem gChkU_ok : AnsHOk 13 gChkU := by
  intro vals h s v h' s' lg hg hl m B w E hv
  unfold gChkU at hg
  split at hg
  · rename_i p n c d s2
    cases hg
    have l1 := hl _ (List.mem_cons_self)
    have l2 := hl _ (List.mem_cons_of_mem _ (List.mem_singleton.2 rfl))
    simp only at l1 l2
    rcases rowX_cases l1 with ⟨rfl, rfl, rfl, e0⟩ | ⟨b, o, x, rfl, hx, r1, e0⟩
    · rw [e0, badL_nil] at l2
      subst l2
      exact gChk_ok _ h [] _ _ _ _ rfl (fun x hx => by cases hx) m B w E hv
    · rw [e0] at l2
      exact gChk_ok _ h [cmp d] (errD d) h [] [(rowOk x.2 x.1 o n c, true), (badL (cutI x.1 o n), d)] (by simp only [gChk, hx]) (okCons r1 (okL1 l2)) m B w E hv
  · cases hg
/-! ### checkBoth -/
def gBothU : AnsH := fun vals h s =>
  match vals, s with
  | [.slice p n c, .slice q n' c'], .inr (.inr (.inr (.inl d))) :: s' => some (errD d, h, s', [(rowX h p n c, true), (rowX h q n' c', true), (badL (rowOf h p n) || badL (rowOf h q n'), d)])
  | _, _ => none
theorem log3 {a b c : Bool × Bool} (h : okLog [a, b, c]) : a.1 = a.2 ∧ b.1 = b.2 ∧ c.1 = c.2 := ⟨h _ (by simp), h _ (by simp), h _ (by simp)⟩
theorem gBothU_ok : AnsHOk 36 gBothU := by
  intro vals h s v h' s' lg hg hl m B w E hv
  unfold gBothU at hg
  split at hg
  · rename_i p n c q n' c' d s2
    cases hg
    obtain ⟨l1, l2, l3⟩ := log3 hl
    simp only at l1 l2 l3
    rcases rowX_cases l1 with ⟨rfl, rfl, rfl, e0⟩ | ⟨b, o, x, rfl, hx, r1, e0⟩ <;> rcases rowX_cases l2 with ⟨rfl, rfl, rfl, f0⟩ | ⟨b', o', y, rfl, hy, t1, f0⟩ <;> simp only [e0, f0] at l3
    · rw [badL_nil, Bool.or_self] at l3
      subst l3
      exact gBoth_ok _ h [] _ _ _ _ rfl (fun x hx => by cases hx) m B w E hv
    · rw [badL_nil, Bool.false_or] at l3
      exact gBoth_ok _ h [cmp d] (errD d) h [] [(rowOk y.2 y.1 o' n' c', true), (badL (cutI y.1 o' n'), d)] (by simp only [gBoth, hy]) (okCons t1 (okL1 l3)) m B w E hv
    · rw [badL_nil, Bool.or_false] at l3
      exact gBoth_ok _ h [cmp d] (errD d) h [] [(rowOk x.2 x.1 o n c, true), (badL (cutI x.1 o n), d)] (by simp only [gBoth, hx]) (okCons r1 (okL1 l3)) m B w E hv
    · exact gBoth_ok _ h [cmp d] (errD d) h [] [(rowOk x.2 x.1 o n c, true), (rowOk y.2 y.1 o' n' c', true), (badL (cutI x.1 o n) || badL (cutI y.1 o' n'), d)] (by simp only [gBoth, hx, hy]) (okCons r1 (okCons t1 (okL1 l3))) m B w E hv
  · cases hg
/-! ### compare -/
def gCmpU : AnsH := fun vals h s =>
  match vals with
  | [.slice p n c, .slice q n' c'] => some (i6' (cmpL (rowOf h p n) (rowOf h q n')), h, s, [(rowX h p n c, true), (rowX h q n' c', true)])
  | _ => none
theorem cmp0_l {L : List Int} {n : Nat} (h : L.length = n) : cmpL [] L = cmp0 0 n := by
  unfold cmpL cmp0
  rw [h, List.length_nil]
  split
  · rfl
  · rfl
theorem cmp0_r {L : List Int} {n : Nat} (h : L.length = n) : cmpL L [] = cmp0 n 0 := by
  unfold cmpL cmp0
  rw [h, List.length_nil]
  split
  · rename_i h0; rw [h0]; rfl
  · rfl
theorem gCmpU_ok : AnsHOk 39 gCmpU := by
  intro vals h s v h' s' lg hg hl m B w E hv
  unfold gCmpU at hg
  split at hg
  · rename_i p n c q n' c'
    cases hg
    have l1 := hl _ (List.mem_cons_self)
    have l2 := hl _ (List.mem_cons_of_mem _ (List.mem_singleton.2 rfl))
    simp only at l1 l2
    rcases rowX_cases l1 with ⟨rfl, rfl, rfl, e0⟩ | ⟨b, o, x, rfl, hx, r1, e0⟩ <;> rcases rowX_cases l2 with ⟨rfl, rfl, rfl, f0⟩ | ⟨b', o', y, rfl, hy, t1, f0⟩ <;> simp only [e0, f0]
    · exact gCmp_ok _ h s _ _ _ _ rfl (fun x hx => by cases hx) m B w E hv
    · rw [cmp0_l (row_of t1).2.1]
      exact gCmp_ok _ h s _ _ _ _ rfl (fun x hx => by cases hx) m B w E hv
    · rw [cmp0_r (row_of r1).2.1]
      exact gCmp_ok _ h s _ _ _ _ rfl (fun x hx => by cases hx) m B w E hv
    · exact gCmp_ok _ h s _ h s [(rowOk x.2 x.1 o n c, true), (rowOk y.2 y.1 o' n' c', true)] (by simp only [gCmp, hx, hy]) (okCons r1 (okL1 t1)) m B w E hv
  · cases hg
/-! ### Add -/
def gAddU : AnsH := fun vals h s =>
  match vals, s with
  | [.slice p n c, .slice q n' c'], .inr (.inr (.inr (.inl true))) :: s' => some (.tuple #[nilS, errV 1], h, s', [(rowX h p n c, true), (rowX h q n' c', true), (badL (rowOf h p n) || badL (rowOf h q n'), true)])
  | [.slice p n c, .slice q n' c'], .inr (.inr (.inr (.inl false))) :: s' => some (.tuple #[sl h.n 0 (trimN (sumR (rowOf h p n) (rowOf h q n'))) (mxN n n' + 1), .nilIface], h.push (wU (sumR (rowOf h p n) (rowOf h q n'))) tU, s', [(rowX h p n c, true), (rowX h q n' c', true), (badL (rowOf h p n) || badL (rowOf h q n') || decide ((trimN (sumR (rowOf h p n) (rowOf h q n')) : Int) > 8192), false)])
  | _, _ => none
theorem gAddU_ok : AnsHOk 10 gAddU := by
  intro vals h s v h' s' lg hg hl m B w E hv
  unfold gAddU at hg
  split at hg
  · rename_i p n c q n' c' s2
    cases hg
    obtain ⟨l1, l2, l3⟩ := log3 hl
    simp only at l1 l2 l3
    rcases rowX_cases l1 with ⟨rfl, rfl, rfl, e0⟩ | ⟨b, o, x, rfl, hx, r1, e0⟩ <;> rcases rowX_cases l2 with ⟨rfl, rfl, rfl, f0⟩ | ⟨b', o', y, rfl, hy, t1, f0⟩ <;> simp only [e0, f0] at l3
    · cases l3
    · rw [badL_nil, Bool.false_or] at l3
      exact gAddX_ok _ h [cmp true] _ _ [] [(rowOk y.2 y.1 o' n' c', true), (badL (cutI y.1 o' n'), true)] (by simp only [gAddX, hy]) (okCons t1 (okL1 l3)) m B w E hv
    · rw [badL_nil, Bool.or_false] at l3
      exact gAddX_ok _ h [cmp true] _ _ [] [(rowOk x.2 x.1 o n c, true), (badL (cutI x.1 o n), true)] (by simp only [gAddX, hx]) (okCons r1 (okL1 l3)) m B w E hv
    · exact gAddX_ok _ h [cmp true] _ _ [] [(rowOk x.2 x.1 o n c, true), (rowOk y.2 y.1 o' n' c', true), (badL (cutI x.1 o n) || badL (cutI y.1 o' n'), true)] (by simp only [gAddX, gAdd, hx, hy]) (okCons r1 (okCons t1 (okL1 l3))) m B w E hv
  · rename_i p n c q n' c' s2
    cases hg
    obtain ⟨l1, l2, l3⟩ := log3 hl
    simp only [Bool.or_eq_false_iff] at l1 l2 l3
    obtain ⟨⟨l3, l4⟩, l5⟩ := l3
    rcases rowX_cases l1 with ⟨rfl, rfl, rfl, e0⟩ | ⟨b, o, x, rfl, hx, r1, e0⟩ <;> rcases rowX_cases l2 with ⟨rfl, rfl, rfl, f0⟩ | ⟨b', o', y, rfl, hy, t1, f0⟩ <;> simp only [e0, f0] at l3 l4 l5 ⊢
    · exact gAddX_ok _ h [] _ _ [] [] (by kernel_rfl) (fun x hx => by cases hx) m B w E hv
    · exact gAddX_ok _ h [cmp false, cmp false] _ _ [] [(rowOk y.2 y.1 o' n' c', true), (badL (cutI y.1 o' n'), false), (decide ((trimN (sumR [] (cutI y.1 o' n')) : Int) > 8192), false)] (by simp only [gAddX, hy]) (okCons t1 (okCons l4 (okL1 l5))) m B w E hv
    · exact gAddX_ok _ h [cmp false, cmp false] _ _ [] [(rowOk x.2 x.1 o n c, true), (badL (cutI x.1 o n), false), (decide ((trimN (sumR (cutI x.1 o n) []) : Int) > 8192), false)] (by simp only [gAddX, hx]) (okCons r1 (okCons l3 (okL1 l5))) m B w E hv
    · exact gAddX_ok _ h [cmp false, cmp false] _ _ [] [(rowOk x.2 x.1 o n c, true), (rowOk y.2 y.1 o' n' c', true), (badL (cutI x.1 o n) || badL (cutI y.1 o' n'), false), (decide ((trimN (sumR (cutI x.1 o n) (cutI y.1 o' n')) : Int) > 8192), false)] (by simp only [gAddX, gAdd, hx, hy]) (okCons r1 (okCons t1 (okCons (by rw [l3, l4]; rfl) (okL1 l5)))) m B w E hv
  · cases hg
/-! ### Sub -/
def gSubU : AnsH := fun vals h s =>
  match vals, s with
  | [.slice p n c, .slice q n' c'], .inr (.inr (.inr (.inl true))) :: s' => some (.tuple #[nilS, errV 1], h, s', [(rowX h p n c, true), (rowX h q n' c', true), (badL (rowOf h p n) || badL (rowOf h q n'), true)])
  | [.slice p n c, .slice q n' c'], .inr (.inr (.inr (.inl false))) :: .inr (.inr (.inr (.inl true))) :: s' => some (.tuple #[nilS, errV 4], h, s', [(rowX h p n c, true), (rowX h q n' c', true), (!(badL (rowOf h p n) || badL (rowOf h q n')) && decide (cmpL (rowOf h p n) (rowOf h q n') < 0), true)])
  | [.slice p n c, .slice q n' c'], .inr (.inr (.inr (.inl false))) :: .inr (.inr (.inr (.inl false))) :: s' => some (.tuple #[sl h.n 0 (trimN (difL (rowOf h p n) (rowOf h q n'))) n, .nilIface], h.push (wU (difL (rowOf h p n) (rowOf h q n'))) tU, s', [(rowX h p n c, true), (rowX h q n' c', true), (badL (rowOf h p n) || badL (rowOf h q n') || decide (cmpL (rowOf h p n) (rowOf h q n') < 0), false)])
  | _, _ => none
theorem difL_nil {L : List Int} (h : wds L) : difL L [] = L := by
  unfold difL
  rw [show vN [] = 0 from rfl, Int.sub_zero]
  exact dg_vN L h
theorem cmp_nl {L : List Int} {n : Nat} (h : L.length = n) : cmpL [] L < 0 ↔ 0 < n := by
  rw [cmp0_l h]
  unfold cmp0
  split
  · omega
  · split <;> omega
theorem cmp_ln {L : List Int} {n : Nat} (h : L.length = n) : ¬ cmpL L [] < 0 := by
  rw [cmp0_r h]
  unfold cmp0
  split
  · omega
  · split <;> omega
theorem gSubU_ok : AnsHOk 11 gSubU := by
  intro vals h s v h' s' lg hg hl m B w E hv
  unfold gSubU at hg
  split at hg
  · rename_i p n c q n' c' s2
    cases hg
    obtain ⟨l1, l2, l3⟩ := log3 hl
    simp only at l1 l2 l3
    rcases rowX_cases l1 with ⟨rfl, rfl, rfl, e0⟩ | ⟨b, o, x, rfl, hx, r1, e0⟩ <;> rcases rowX_cases l2 with ⟨rfl, rfl, rfl, f0⟩ | ⟨b', o', y, rfl, hy, t1, f0⟩ <;> simp only [e0, f0] at l3
    · cases l3
    · rw [badL_nil, Bool.false_or] at l3
      exact gSubX_ok _ h [cmp true] _ _ [] [(rowOk y.2 y.1 o' n' c', true), (badL (cutI y.1 o' n'), true)] (by simp only [gSubX, hy]) (okCons t1 (okL1 l3)) m B w E hv
    · rw [badL_nil, Bool.or_false] at l3
      exact gSubX_ok _ h [cmp true] _ _ [] [(rowOk x.2 x.1 o n c, true), (badL (cutI x.1 o n), true)] (by simp only [gSubX, hx]) (okCons r1 (okL1 l3)) m B w E hv
    · exact gSubX_ok _ h [cmp true] _ _ [] [(rowOk x.2 x.1 o n c, true), (rowOk y.2 y.1 o' n' c', true), (badL (cutI x.1 o n) || badL (cutI y.1 o' n'), true)] (by simp only [gSubX, gSub, hx, hy]) (okCons r1 (okCons t1 (okL1 l3))) m B w E hv
  · rename_i p n c q n' c' s2
    cases hg
    obtain ⟨l1, l2, l3⟩ := log3 hl
    simp only [Bool.and_eq_true, Bool.not_eq_true', Bool.or_eq_false_iff, decide_eq_true_eq] at l1 l2 l3
    obtain ⟨⟨l3, l4⟩, l5⟩ := l3
    rcases rowX_cases l1 with ⟨rfl, rfl, rfl, e0⟩ | ⟨b, o, x, rfl, hx, r1, e0⟩ <;> rcases rowX_cases l2 with ⟨rfl, rfl, rfl, f0⟩ | ⟨b', o', y, rfl, hy, t1, f0⟩ <;> simp only [e0, f0] at l3 l4 l5
    · exact absurd l5 (by decide)
    · exact gSubX_ok _ h [cmp false, cmp true] _ _ [] [(rowOk y.2 y.1 o' n' c', true), (badL (cutI y.1 o' n'), false), (decide (0 < n'), true)] (by simp only [gSubX, hy]) (okCons t1 (okCons l4 (okL1 (decide_eq_true ((cmp_nl (row_of t1).2.1).1 l5))))) m B w E hv
    · exact absurd l5 (cmp_ln (row_of r1).2.1)
    · exact gSubX_ok _ h [cmp false, cmp true] _ _ [] [(rowOk x.2 x.1 o n c, true), (rowOk y.2 y.1 o' n' c', true), (badL (cutI x.1 o n) || badL (cutI y.1 o' n'), false), (decide (cmpL (cutI x.1 o n) (cutI y.1 o' n') < 0), true)] (by simp only [gSubX, gSub, hx, hy]) (okCons r1 (okCons t1 (okCons (by rw [l3, l4]; rfl) (okL1 (decide_eq_true l5))))) m B w E hv
  · rename_i p n c q n' c' s2
    cases hg
    obtain ⟨l1, l2, l3⟩ := log3 hl
    simp only [Bool.or_eq_false_iff, decide_eq_false_iff_not] at l1 l2 l3
    obtain ⟨⟨l3, l4⟩, l5⟩ := l3
    rcases rowX_cases l1 with ⟨rfl, rfl, rfl, e0⟩ | ⟨b, o, x, rfl, hx, r1, e0⟩ <;> rcases rowX_cases l2 with ⟨rfl, rfl, rfl, f0⟩ | ⟨b', o', y, rfl, hy, t1, f0⟩ <;> simp only [e0, f0] at l3 l4 l5 ⊢
    · exact gSubX_ok _ h [] _ _ [] [] (by kernel_rfl) (fun x hx => by cases hx) m B w E hv
    · have h0 : ¬ 0 < n' := fun h0 => l5 ((cmp_nl (row_of t1).2.1).2 h0)
      exact gSubX_ok _ h [cmp false, cmp false] _ _ [] [(rowOk y.2 y.1 o' n' c', true), (badL (cutI y.1 o' n'), false), (decide (0 < n'), false)] (by simp only [gSubX, hy]; rfl) (okCons t1 (okCons l4 (okL1 (decide_eq_false h0)))) m B w E hv
    · rw [difL_nil (row_of r1).1.rng]
      exact gSubX_ok _ h [cmp false] _ _ [] [(rowOk x.2 x.1 o n c, true), (badL (cutI x.1 o n), false)] (by simp only [gSubX, hx]) (okCons r1 (okL1 l3)) m B w E hv
    · exact gSubX_ok _ h [cmp false, cmp false] _ _ [] [(rowOk x.2 x.1 o n c, true), (rowOk y.2 y.1 o' n' c', true), (badL (cutI x.1 o n) || badL (cutI y.1 o' n'), false), (decide (cmpL (cutI x.1 o n) (cutI y.1 o' n') < 0), false)] (by simp only [gSubX, gSub, hx, hy]) (okCons r1 (okCons t1 (okCons (by rw [l3, l4]; rfl) (okL1 (decide_eq_false l5))))) m B w E hv
  · cases hg
end Go.Proofs.YtppakongkjdlbaaDoor

/-
  The document's rows of parts of 16 bits (tillerref02): a caller's row in the smallest memory; Add, as a call with rows or nothing.
-/
namespace Go.Proofs.YtppakongkjdlbaaDoor
open Go.KRun Go.Nt
set_option maxRecDepth 100000

/-- a row or nothing, in block i of a small memory -/
structure Nu (i : Nat) (x : List Value × TypeId) (p : Option Addr) (n c : Nat) (A : List Int) : Prop where
  row : ∀ h : Hp, h.blk? i = some x → rowP h p n c = true ∧ rowOf h p n = A
  pos : p = none ∨ ∃ o, p = some ⟨i, o, none⟩
  st : ∀ v ∈ x.1, still v = true
  lt0 : ∀ v ∈ x.1, still v = true
  ros : ro x.2 = true ∧ ab x.2 = false
theorem Nu.rn {i : Nat} {x : List Value × TypeId} {p : Option Addr} {n c : Nat} {A : List Int} (h : Nu i x p n c A) {f : Nat → Nat} (hf : f i = i) : KRun.rn f (.slice p n c) = .slice p n c := by
  rcases h.pos with rfl | ⟨o, rfl⟩
  · rfl
  · show Value.slice (some ⟨f i, o, none⟩) n c = _
    rw [hf]
theorem Nu.lt {i : Nat} {x : List Value × TypeId} {p : Option Addr} {n c : Nat} {A : List Int} (h : Nu i x p n c A) {k : Nat} (hk : i < k) : KRun.lt k (.slice p n c) = true := by
  rcases h.pos with rfl | ⟨o, rfl⟩
  · rfl
  · exact blt_iff.2 hk
/-- a caller's row in the smallest memory -/
theorem nu_of {h : Hp} {p : Option Addr} {n c : Nat} (i : Nat) (hr : rowP h p n c = true) : ∃ x p' b, Nu i x p' n c (rowOf h p n) ∧ (∀ s : Nat → Nat, s i = b → rn s (.slice p' n c) = .slice p n c) ∧ (tomb x.2 = false → ∃ y r, h.blk? b = some y ∧ tomb y.2 = false ∧ rt y.2 = rt x.2 ∧ y.1 = x.1 ++ r) := by
  rcases rowP_cases hr with ⟨rfl, rfl, rfl, e0⟩ | ⟨b, o, x, rfl, hx, q1, q2, e0⟩
  · refine ⟨([], 2 * dead), none, 0, ⟨fun h' _ => ⟨rfl, by rw [e0]; rfl⟩, .inl rfl, (fun v hv => by cases hv), (fun v hv => by cases hv), (by kernel_rfl), (by kernel_rfl)⟩, fun s _ => rfl, fun ht => ?_⟩
    rw [show tomb (2 * dead) = true from by kernel_rfl] at ht
    cases ht
  · obtain ⟨h1, h2, h3, h4, h5, h6, h7⟩ := rowC_of q1
    refine ⟨(x.1, tR), some ⟨i, o, none⟩, b, ⟨fun h' hb => ⟨?_, ?_⟩, .inr ⟨o, rfl⟩, q2, h7, tR_ro, tR_ab⟩, fun s hs => ?_, fun _ => ⟨x, [], hx, h5, by rw [h6]; exact tR_rt.symm, by simp⟩⟩
    · simp only [rowP, hb, Bool.and_eq_true]
      refine ⟨?_, List.all_eq_true.2 q2⟩
      unfold rowC at q1 ⊢
      simp only [Bool.and_eq_true, Bool.not_eq_true'] at q1 ⊢
      obtain ⟨⟨⟨⟨⟨⟨_, _⟩, p3⟩, p4⟩, p5⟩, p6⟩, p7⟩ := q1
      exact ⟨⟨⟨⟨⟨⟨tR_tomb, by kernel_rfl⟩, p3⟩, p4⟩, p5⟩, p6⟩, p7⟩
    · rw [e0]
      simp [rowOf, hb]
    · show Value.slice (some ⟨s i, o, none⟩) n c = _
      rw [hs]
/-- digits to the base 65536 -/
def dgB (L : List Int) : Bool := L.all fun x => decide (0 ≤ x ∧ x < 65536)
theorem dgB_of {L : List Int} (h : dgB L = true) : ∀ x ∈ L, Dg 65536 x := fun x hx => of_decide_eq_true (List.all_eq_true.1 h x hx)
theorem dgB_mk {L : List Int} (h : ∀ x ∈ L, Dg 65536 x) : dgB L = true := List.all_eq_true.2 fun x hx => decide_eq_true (h x hx)
theorem rowOf_len {h : Hp} {p : Option Addr} {n c : Nat} (hr : rowP h p n c = true) : (rowOf h p n).length = n := by
  rcases rowP_cases hr with ⟨rfl, rfl, rfl, e0⟩ | ⟨b, o, x, rfl, hx, q1, q2, e0⟩
  · rw [e0]; rfl
  · rw [e0]; exact (rowC_of q1).2.1
theorem at_dg {L : List Int} (h : ∀ x ∈ L, Dg 65536 x) (i : Nat) : Dg 65536 (L.getD i 0) := by
  by_cases hi : i < L.length
  · rw [getD_get hi]; exact h _ (List.getElem_mem hi)
  · rw [show L.getD i 0 = 0 from by simp [List.getD, List.getElem?_eq_none (show L.length ≤ i by omega)]]
    exact ⟨by omega, by omega⟩
theorem atN_nat (L : List Int) (i : Nat) : atN L (i : Int) = L.getD i 0 := by unfold atN; rw [if_pos (by omega), Int.toNat_natCast]

/-! ### Add -/
def aPreV (F : Func) : List Code := [cFst (cBody F), cFst (cSnd (cBody F)), cFst (cSnd (cSnd (cBody F)))]
def aR3 (F : Func) : Code := cFst (cFst (cSnd (cSnd (cSnd (cBody F)))))
def aLoop (F : Func) : Code := cIn (cIn (cSnd (cFst (cSnd (cSnd (cSnd (cBody F)))))))
def aEnd (F : Func) : Code := cSnd (cSnd (cSnd (cSnd (cBody F))))
theorem uadd_body : Tryd.f20.body = some (seqs (aPreV Tryd.f20) (.seq (.seq (aR3 Tryd.f20) (.block 0 (.loop (aLoop Tryd.f20)))) (aEnd Tryd.f20))) := by kernel_rfl
theorem uadd_pre (a b : Value) (h : Hp) : GoesT (evL (tabH Tryd.prog extY conN hcV) 100 (aPreV Tryd.f20) ([a, b] ++ List.replicate 40 undef, h, []) ⟨[], [], []⟩) 7 35 none [a, b, undef, undef, nilS, nilS, .int .u32 0] h [] := ⟨by kernel_rfl, by kernel_rfl, by kernel_rfl⟩
theorem uadd_r3 (a b : Value) (h : Hp) (g : Nat → Value) : GoesT (evC (tabH Tryd.prog extY conN hcV) 100 false (aR3 Tryd.f20) ([a, b, undef, undef, nilS, nilS, .int .u32 0] ++ tl 35 g, h, []) ⟨[], [], []⟩) 8 34 none [a, b, undef, undef, nilS, nilS, .int .u32 0, .int .i64 0] h [] := ⟨by kernel_rfl, by kernel_rfl, by kernel_rfl⟩
def sm (A B : List Int) (k i : Int) : Int := IntKind.u32.wrap (IntKind.u32.wrap (k + atN A i) + atN B i)
def hu3 (lo : List Value) (y x : List Value × TypeId) : Hp := ⟨3, [(lo, tU), y, x]⟩
def hp2 (y x : List Value × TypeId) : Hp := ⟨2, [y, x]⟩
/-- how the condition of Add's loop comes to be true: the first row, the second, the carry -/
def aScr (w : Nat) : List Dec := match w with | 0 => [cmp true] | 1 => [cmp false, cmp true] | _ => [cmp false, cmp false, cmp true]
def aLog (w : Nat) (n n' : Nat) (k i : Int) : Log := match w with | 0 => [(decide (i < n), true)] | 1 => [(decide (i < n'), true), (decide (i < n), false)] | _ => [(decide (k > 0), true), (decide (i < n'), false), (decide (i < n), false)]
def rP (h : Hp) (p : Option Addr) (n c : Nat) : Bool × Bool := (rowP h p n c, true)
theorem uadd_nil0 (p q : Option Addr) (n c n' c' : Nat) (k i : Int) (x y : List Value × TypeId) (g : Nat → Value) : GoesT (evC (tabH Tryd.prog extY conN hcV) 100 false (aLoop Tryd.f20) ([.slice p n c, .slice q n' c', undef, undef, nilS, nilS, .int .u32 k, .int .i64 i] ++ tl 34 g, hp2 y x, aScr 0 ++ [cmp true]) ⟨[], [], []⟩) 8 34 none [.slice p n c, .slice q n' c', undef, undef, nilS, sl 3 0 1 grown, .int .u32 (IntKind.u32.wrap ((sm (rowOf (hp2 y x) p n) (rowOf (hp2 y x) q n') k i).tdiv 65536)), .int .i64 (IntKind.i64.wrap (i + 1))] ⟨4, [([.int .u32 ((sm (rowOf (hp2 y x) p n) (rowOf (hp2 y x) q n') k i).tmod 65536)], tU), ([.int .u32 ((sm (rowOf (hp2 y x) p n) (rowOf (hp2 y x) q n') k i).tmod 65536)], tU), y, x]⟩ ((decide ((65536 : Int) = 0), false) :: rP (hp2 y x) q n' c' :: rP (hp2 y x) p n c :: aLog 0 n n' k i) := ⟨by kernel_rfl, by kernel_rfl, by kernel_rfl⟩
theorem uadd_nil1 (p q : Option Addr) (n c n' c' : Nat) (k i : Int) (x y : List Value × TypeId) (g : Nat → Value) : GoesT (evC (tabH Tryd.prog extY conN hcV) 100 false (aLoop Tryd.f20) ([.slice p n c, .slice q n' c', undef, undef, nilS, nilS, .int .u32 k, .int .i64 i] ++ tl 34 g, hp2 y x, aScr 1 ++ [cmp true]) ⟨[], [], []⟩) 8 34 none [.slice p n c, .slice q n' c', undef, undef, nilS, sl 3 0 1 grown, .int .u32 (IntKind.u32.wrap ((sm (rowOf (hp2 y x) p n) (rowOf (hp2 y x) q n') k i).tdiv 65536)), .int .i64 (IntKind.i64.wrap (i + 1))] ⟨4, [([.int .u32 ((sm (rowOf (hp2 y x) p n) (rowOf (hp2 y x) q n') k i).tmod 65536)], tU), ([.int .u32 ((sm (rowOf (hp2 y x) p n) (rowOf (hp2 y x) q n') k i).tmod 65536)], tU), y, x]⟩ ((decide ((65536 : Int) = 0), false) :: rP (hp2 y x) q n' c' :: rP (hp2 y x) p n c :: aLog 1 n n' k i) := ⟨by kernel_rfl, by kernel_rfl, by kernel_rfl⟩
theorem uadd_some0 (p q : Option Addr) (n c n' c' z : Nat) (k i : Int) (x y : List Value × TypeId) (lo : List Value) (g : Nat → Value) : GoesT (evC (tabH Tryd.prog extY conN hcV) 100 false (aLoop Tryd.f20) ([.slice p n c, .slice q n' c', undef, undef, nilS, sl 2 0 z grown, .int .u32 k, .int .i64 i] ++ tl 34 g, hu3 lo y x, aScr 0 ++ [cmp true, at_]) ⟨[], [], []⟩) 8 34 none [.slice p n c, .slice q n' c', undef, undef, nilS, sl 4 0 (z + 1) grown, .int .u32 (IntKind.u32.wrap ((sm (rowOf (hu3 lo y x) p n) (rowOf (hu3 lo y x) q n') k i).tdiv 65536)), .int .i64 (IntKind.i64.wrap (i + 1))] ⟨5, [(lo ++ [.int .u32 ((sm (rowOf (hu3 lo y x) p n) (rowOf (hu3 lo y x) q n') k i).tmod 65536)], tU), ([.int .u32 ((sm (rowOf (hu3 lo y x) p n) (rowOf (hu3 lo y x) q n') k i).tmod 65536)], tU), ([], 2 * dead), y, x]⟩ ((appChk tU (lo, tU) ([.int .u32 ((sm (rowOf (hu3 lo y x) p n) (rowOf (hu3 lo y x) q n') k i).tmod 65536)], tU) z 0 1, true) :: (decide ((65536 : Int) = 0), false) :: rP (hu3 lo y x) q n' c' :: rP (hu3 lo y x) p n c :: aLog 0 n n' k i) := ⟨by kernel_rfl, by kernel_rfl, by kernel_rfl⟩
theorem uadd_some1 (p q : Option Addr) (n c n' c' z : Nat) (k i : Int) (x y : List Value × TypeId) (lo : List Value) (g : Nat → Value) : GoesT (evC (tabH Tryd.prog extY conN hcV) 100 false (aLoop Tryd.f20) ([.slice p n c, .slice q n' c', undef, undef, nilS, sl 2 0 z grown, .int .u32 k, .int .i64 i] ++ tl 34 g, hu3 lo y x, aScr 1 ++ [cmp true, at_]) ⟨[], [], []⟩) 8 34 none [.slice p n c, .slice q n' c', undef, undef, nilS, sl 4 0 (z + 1) grown, .int .u32 (IntKind.u32.wrap ((sm (rowOf (hu3 lo y x) p n) (rowOf (hu3 lo y x) q n') k i).tdiv 65536)), .int .i64 (IntKind.i64.wrap (i + 1))] ⟨5, [(lo ++ [.int .u32 ((sm (rowOf (hu3 lo y x) p n) (rowOf (hu3 lo y x) q n') k i).tmod 65536)], tU), ([.int .u32 ((sm (rowOf (hu3 lo y x) p n) (rowOf (hu3 lo y x) q n') k i).tmod 65536)], tU), ([], 2 * dead), y, x]⟩ ((appChk tU (lo, tU) ([.int .u32 ((sm (rowOf (hu3 lo y x) p n) (rowOf (hu3 lo y x) q n') k i).tmod 65536)], tU) z 0 1, true) :: (decide ((65536 : Int) = 0), false) :: rP (hu3 lo y x) q n' c' :: rP (hu3 lo y x) p n c :: aLog 1 n n' k i) := ⟨by kernel_rfl, by kernel_rfl, by kernel_rfl⟩
theorem uadd_some2 (p q : Option Addr) (n c n' c' z : Nat) (k i : Int) (x y : List Value × TypeId) (lo : List Value) (g : Nat → Value) : GoesT (evC (tabH Tryd.prog extY conN hcV) 100 false (aLoop Tryd.f20) ([.slice p n c, .slice q n' c', undef, undef, nilS, sl 2 0 z grown, .int .u32 k, .int .i64 i] ++ tl 34 g, hu3 lo y x, aScr 2 ++ [cmp true, at_]) ⟨[], [], []⟩) 8 34 none [.slice p n c, .slice q n' c', undef, undef, nilS, sl 4 0 (z + 1) grown, .int .u32 (IntKind.u32.wrap ((sm (rowOf (hu3 lo y x) p n) (rowOf (hu3 lo y x) q n') k i).tdiv 65536)), .int .i64 (IntKind.i64.wrap (i + 1))] ⟨5, [(lo ++ [.int .u32 ((sm (rowOf (hu3 lo y x) p n) (rowOf (hu3 lo y x) q n') k i).tmod 65536)], tU), ([.int .u32 ((sm (rowOf (hu3 lo y x) p n) (rowOf (hu3 lo y x) q n') k i).tmod 65536)], tU), ([], 2 * dead), y, x]⟩ ((appChk tU (lo, tU) ([.int .u32 ((sm (rowOf (hu3 lo y x) p n) (rowOf (hu3 lo y x) q n') k i).tmod 65536)], tU) z 0 1, true) :: (decide ((65536 : Int) = 0), false) :: rP (hu3 lo y x) q n' c' :: rP (hu3 lo y x) p n c :: aLog 2 n n' k i) := ⟨by kernel_rfl, by kernel_rfl, by kernel_rfl⟩
theorem uadd_out (p q : Option Addr) (n c n' c' : Nat) (v : Value) (k i : Int) (h : Hp) (g : Nat → Value) : GoesT (evC (tabH Tryd.prog extY conN hcV) 100 false (aLoop Tryd.f20) ([.slice p n c, .slice q n' c', undef, undef, nilS, v, .int .u32 k, .int .i64 i] ++ tl 34 g, h, [cmp false, cmp false, cmp false]) ⟨[], [], []⟩) 8 34 (some (some 0)) [.slice p n c, .slice q n' c', undef, undef, nilS, v, .int .u32 k, .int .i64 i] h [(decide (k > 0), false), (decide (i < n'), false), (decide (i < n), false)] := ⟨by kernel_rfl, by kernel_rfl, by kernel_rfl⟩
theorem uadd_end (a b : Value) (z : Nat) (k i : Int) (x y : List Value × TypeId) (lo : List Value) (g : Nat → Value) : GoesT (evC (tabH Tryd.prog extY conN hcV) 100 false (aEnd Tryd.f20) ([a, b, undef, undef, nilS, sl 2 0 z grown, .int .u32 k, .int .i64 i] ++ tl 34 g, hu3 lo y x, []) ⟨[], [], []⟩) 5 37 (some none) [a, b, undef, undef, sl 2 0 (trimN (cutI lo 0 z)) (trimN (cutI lo 0 z))] (hu3 lo y x) [(rowC tU lo 0 z grown, true)] := ⟨by kernel_rfl, by kernel_rfl, by kernel_rfl⟩
theorem uadd_empty (p q : Option Addr) (n c n' c' : Nat) (h : Hp) : GoesT (evC (tabH Tryd.prog extY conN hcV) 100 false (cBody Tryd.f20) ([.slice p n c, .slice q n' c'] ++ List.replicate 40 undef, h, [cmp false, cmp false, cmp false]) ⟨[], [], []⟩) 5 37 (some none) [.slice p n c, .slice q n' c', undef, undef, nilS] h [(decide ((0 : Int) > 0), false), (decide ((0 : Int) < n'), false), (decide ((0 : Int) < n), false)] := ⟨by kernel_rfl, by kernel_rfl, by kernel_rfl⟩
end Go.Proofs.YtppakongkjdlbaaDoor
