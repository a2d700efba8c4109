/-
  nat.DivMod: the ways that divide nothing.
-/
import Derived.Test.YtecemjilmlagdaaDoorG34
import Derived.Test.YtecemjilmlagdaaDoorG16
import Derived.Test.YtecemjilmlagdaaDoorG15
import Derived.Test.YtecemjilmlagdaaDoorG30
namespace Go.Proofs.YtecemjilmlagdaaDoor
open Go.KRun Go.Nt
set_option maxRecDepth 100000
set_option linter.unusedVariables false

def hcE : Hc := altH 36 gBothU (altH 39 gCmpU (altH 41 gTrim hcN))
theorem hcE_ok : HcOk hcE := altH_ok Tryd.func36 rfl gBothU_ok (altH_ok Tryd.func39 rfl gCmpU_ok (altH_ok Tryd.func41 rfl gTrim_ok hcN_ok))
theorem dm_bad (p q : Option Addr) (n c n' c' : Nat) (h : Hp) : GoesT (evC (tabH Tryd.prog extY conN hcE) 300 false (cBody Tryd.f24) ([.slice p n c, .slice q n' c'] ++ List.replicate 87 undef, h, [cmp true]) ⟨[], [], []⟩) 7 82 (some none) [.slice p n c, .slice q n' c', undef, undef, nilS, nilS, errV 1] h [(rowX h p n c, true), (rowX h q n' c', true), (badL (rowOf h p n) || badL (rowOf h q n'), true)] := ⟨by kernel_rfl, by kernel_rfl, by kernel_rfl⟩
theorem dm_zero (p q : Option Addr) (n c n' c' : Nat) (h : Hp) : GoesT (evC (tabH Tryd.prog extY conN hcE) 300 false (cBody Tryd.f24) ([.slice p n c, .slice q n' c'] ++ List.replicate 87 undef, h, [cmp false, cmp true]) ⟨[], [], []⟩) 7 82 (some none) [.slice p n c, .slice q n' c', undef, undef, nilS, nilS, errV 5] h [((n' : Int) == 0, true), (rowX h p n c, true), (rowX h q n' c', true), (badL (rowOf h p n) || badL (rowOf h q n'), false)] := ⟨by kernel_rfl, by kernel_rfl, by kernel_rfl⟩
theorem dm_less (o n c o' n' c' : Nat) (la lb : List Value) : GoesT (evC (tabH Tryd.prog extY conN hcE) 300 false (cBody Tryd.f24) ([sl 0 o n c, sl 1 o' n' c'] ++ List.replicate 87 undef, h2 la lb, [cmp false, cmp false, at_, at_, cmp true]) ⟨[], [], []⟩) 7 82 (some none) [sl 0 o n c, sl 1 o' n' c', undef, undef, nilS, sl 2 0 (trimN (cutI (cpy la o n) 0 (nP n).toNat)) (nP n).toNat, .nilIface] (h3 la lb (cpy la o n))
    [(rowOk tU (cpy la o n) 0 (nP n).toNat (nP n).toNat, true), (decide (cmpL (cutI la o n) (cutI lb o' n') < 0), true), (rowOk tR la o n c, true), (rowOk tR lb o' n' c', true), (cpOk la o n, true), (okMakeB 4 (nP n) (nP n), true), ((n' : Int) == 0, false), (rowOk tR la o n c, true), (rowOk tR lb o' n' c', true), (badL (cutI la o n) || badL (cutI lb o' n'), false)] := ⟨by kernel_rfl, by kernel_rfl, by kernel_rfl⟩
end Go.Proofs.YtecemjilmlagdaaDoor

/-
  nat.DivMod as a contract; its numbers told ahead.
-/
namespace Go.Proofs.YtecemjilmlagdaaDoor
open Go.KRun Go.Nt
set_option maxRecDepth 100000
set_option linter.unusedVariables false

theorem dm_nless (o n c : Nat) (lb : List Value) : GoesT (evC (tabH Tryd.prog extY conN hcE) 300 false (cBody Tryd.f24) ([nilS, sl 0 o n c] ++ List.replicate 87 undef, ⟨1, [(lb, tR)]⟩, [cmp false, cmp false, cmp true]) ⟨[], [], []⟩) 7 82 (some none) [nilS, sl 0 o n c, undef, undef, nilS, sl 1 0 0 1, .nilIface] ⟨2, [(wU [0], tU), (lb, tR)]⟩
    [(rowOk tU (wU [0]) 0 1 1, true), (decide (cmpL [] (cutI lb o n) < 0), true), (true, true), (rowOk tR lb o n c, true), ((n : Int) == 0, false), (true, true), (rowOk tR lb o n c, true), (badL (cutI lb o n), false)] := ⟨by kernel_rfl, by kernel_rfl, by kernel_rfl⟩
def gDm : AnsH := fun vals h s =>
  match vals, s with
  | [.slice p n c, .slice q n' c'], .inr (.inr (.inr (.inl true))) :: s' => some (.tuple #[nilS, nilS, errV 1], h, s', [(rowX h p n c, true), (rowX h q n' c', true), (badL (rowOf h p n) || badL (rowOf h q n'), true)])
  | [.slice p n c, .slice q n' c'], .inr (.inr (.inr (.inl false))) :: .inr (.inr (.inr (.inl true))) :: s' => some (.tuple #[nilS, nilS, errV 5], h, s', [(rowX h p n c, true), (rowX h q n' c', true), (!(badL (rowOf h p n) || badL (rowOf h q n')) && decide (n' = 0), true)])
  | [.slice p n c, .slice q n' c'], .inr (.inr (.inr (.inl false))) :: .inr (.inr (.inr (.inl false))) :: .inr (.inr (.inr (.inl true))) :: s' => some (.tuple #[nilS, sl h.n 0 (trimN (rowOf h p n ++ [0])) (n + 1), .nilIface], h.push (wU (rowOf h p n ++ [0])) tU, s', [(rowX h p n c, true), (rowX h q n' c', true), (!(badL (rowOf h p n) || badL (rowOf h q n')) && decide (0 < n' ∧ cmpL (rowOf h p n) (rowOf h q n') < 0), true)])
  | [.slice p n c, .slice q n' c'], .inr (.inr (.inr (.inl false))) :: .inr (.inr (.inr (.inl false))) :: .inr (.inr (.inr (.inl false))) :: .inr (.inl V) :: .inr (.inl U) :: s' => some (.tuple #[sl h.n 0 (trimN (dg (n - n' + 1) V)) (n - n' + 1), sl (h.n + 1) 0 (trimN (dg (n + 1) U)) (n + 1), .nilIface], (h.push (wU (dg (n - n' + 1) V)) tU).push (wU (dg (n + 1) U)) tU, s', [(decide (vN (rowOf h p n) / vN (rowOf h q n') = V ∧ vN (rowOf h p n) % vN (rowOf h q n') = U), true), (rowX h p n c, true), (rowX h q n' c', true), (!(badL (rowOf h p n) || badL (rowOf h q n')) && decide (0 < n' ∧ ¬ cmpL (rowOf h p n) (rowOf h q n') < 0), true)])
  | _, _ => none
theorem log4 {a b c d : Bool × Bool} (h : okLog [a, b, c, d]) : a.1 = a.2 ∧ b.1 = b.2 ∧ c.1 = c.2 ∧ d.1 = d.2 := ⟨h _ (by simp), h _ (by simp), h _ (by simp), h _ (by simp)⟩
theorem gDm_ok : AnsHOk 24 gDm := by
  intro vals h s v h' s' lg hg hl m B w E hv
  unfold gDm at hg
  split at hg
  · rename_i p n c q n' c' s2
    cases hg
    have r := goesT_runs (s0 := []) (tabH_ok conN_ok hcE_ok) (dm_bad p q n c n' c' h) hl
    exact hcalls_keep (T := tabH Tryd.prog extY conN hcE) Tryd.func24 dm_cbody (vals := [.slice p n c, .slice q n' c']) (v := .tuple #[nilS, nilS, errV 1]) (h := h) (by rfl) (r.mono fun e y he => by
      obtain ⟨rfl, ⟨g, e1⟩, e2⟩ := he
      exact ⟨.inr rfl, by rw [e1, e2]; rfl, e2⟩) m B w E hv
  · rename_i p n c q n' c' s2
    cases hg
    obtain ⟨l1, l2, l3⟩ := log3 hl
    simp only [Bool.and_eq_true, Bool.not_eq_true', decide_eq_true_eq] at l1 l2 l3
    have r := goesT_runs (s0 := []) (tabH_ok conN_ok hcE_ok) (dm_zero p q n c n' c' h) (okTwo (by simp [l3.2]) (okTwo l1 (okTwo l2 (okOne l3.1))))
    exact hcalls_keep (T := tabH Tryd.prog extY conN hcE) Tryd.func24 dm_cbody (vals := [.slice p n c, .slice q n' c']) (v := .tuple #[nilS, nilS, errV 5]) (h := h) (by rfl) (r.mono fun e y he => by
      obtain ⟨rfl, ⟨g, e1⟩, e2⟩ := he
      exact ⟨.inr rfl, by rw [e1, e2]; rfl, e2⟩) m B w E hv
  · rename_i p n c q n' c' s2
    cases hg
    obtain ⟨l1, l2, l3⟩ := log3 hl
    simp only [Bool.and_eq_true, Bool.not_eq_true', Bool.or_eq_false_iff, decide_eq_true_eq] at l1 l2 l3
    obtain ⟨⟨l3, l4⟩, l5, l6⟩ := l3
    rcases rowX_cases l2 with ⟨_, h0, _⟩ | ⟨b', o', y, rfl, hy, t1, f0⟩
    · omega
    rw [f0] at l4 l6
    have tR1 := rowOk_R t1
    obtain ⟨b1, b2, b3, b4, b5, b6, b7⟩ := row_of t1
    rcases rowX_cases l1 with ⟨rfl, rfl, rfl, e0⟩ | ⟨b, o, x, rfl, hx, r1, e0⟩
    · rw [e0] at l6 ⊢
      have r : Runs (tabH Tryd.prog extY conN hcE) (cBody Tryd.f24) ([nilS, sl 0 o' n' c'] ++ List.replicate 87 undef, ⟨1, [(y.1, tR)]⟩, []) fun e z => (e = none ∨ e = some none) ∧ resS Tryd.prog Tryd.f24 z.1 z.2.1 = some (.tuple #[nilS, sl 1 0 0 1, .nilIface]) ∧ ∃ r, z.2.1.blk? 1 = some (wU [0] ++ r, tU) := by
        refine (goesT_runs (tabH_ok conN_ok hcE_ok) (dm_nless o' n' c' y.1) (okTwo (by kernel_rfl) (okTwo (decide_eq_true l6) (okTwo rfl (okTwo tR1 (okTwo (by simpa using (show n' ≠ 0 by omega)) (okTwo rfl (okTwo tR1 (okOne l4))))))))).mono fun e z he => ?_
        obtain ⟨rfl, ⟨g, e1⟩, e2⟩ := he
        exact ⟨.inr rfl, by rw [e1, e2]; rfl, [], by rw [e2]; rfl⟩
      have evals : List.map (rn fun _ => b') [nilS, sl 0 o' n' c'] = [.slice none 0 0, .slice (some ⟨b', o', none⟩) n' c'] := by simp [rn, rn2, rn1, sl, nilS]
      have e1 : ∀ k M : Nat, rn (fun _ => h.n) (.tuple #[nilS, sl 1 0 k M, .nilIface]) = .tuple #[nilS, sl h.n 0 k M, .nilIface] := fun k M => by simp [rn, rn2, rn1, sl, nilS]
      have := row_calls1 (T := tabH Tryd.prog extY conN hcE) Tryd.func24 dm_cbody (rows1 b7) (vals := [nilS, sl 0 o' n' c']) (fun v hv => by
        simp only [List.mem_cons, List.not_mem_nil, or_false] at hv
        rcases hv with rfl | rfl <;> rfl) (k := 1) (wU_calm _) tU_own r.w (by rfl) E (s := fun _ => b') (fitsR1 hy b5 b6 rfl)
      rw [evals, e1] at this
      exact this
    · rw [e0] at l3 l6 ⊢
      have tR0 := rowOk_R r1
      obtain ⟨a1, a2, a3, a4, a5, a6, a7⟩ := row_of r1
      have n8 := badL_len l3
      have g0 := dm_less o n c o' n' c' x.1 y.1
      have eP := cpy_eq a1 n8
      have eO := cpOk_eq a1 n8
      rw [a2] at eP eO
      rw [a2] at n8
      rw [nP_nat n8, eP] at g0
      have hw := wds_zero a1.rng
      have hl1 : (cutI x.1 o n ++ [0]).length = n + 1 := by simp [a2]
      rw [cut_all _ hl1] at g0
      have r : Runs (tabH Tryd.prog extY conN hcE) (cBody Tryd.f24) ([sl 0 o n c, sl 1 o' n' c'] ++ List.replicate 87 undef, h2 x.1 y.1, []) fun e z => (e = none ∨ e = some none) ∧ resS Tryd.prog Tryd.f24 z.1 z.2.1 = some (.tuple #[nilS, sl 2 0 (trimN (cutI x.1 o n ++ [0])) (n + 1), .nilIface]) ∧ ∃ r, z.2.1.blk? 2 = some (wU (cutI x.1 o n ++ [0]) ++ r, tU) := by
        refine (goesT_runs (tabH_ok conN_ok hcE_ok) g0 (okTwo (wU_rowAt hw (by rw [hl1]; omega) (Nat.le_refl _) (smallC_le (by omega))) (okTwo (decide_eq_true l6) (okTwo tR0 (okTwo tR1 (okTwo eO (okTwo (mk_ok n8) (okTwo (by simpa using (show n' ≠ 0 by omega)) (okTwo tR0 (okTwo tR1 (okOne (by rw [l3, l4]; rfl)))))))))))).mono fun e z he => ?_
        obtain ⟨rfl, ⟨g, e1⟩, e2⟩ := he
        exact ⟨.inr rfl, by rw [e1, e2]; rfl, [], by rw [e2, List.append_nil]; rfl⟩
      have e1 : ∀ k M : Nat, rn (fun _ => h.n) (.tuple #[nilS, sl 2 0 k M, .nilIface]) = .tuple #[nilS, sl h.n 0 k M, .nilIface] := fun k M => by simp [rn, rn2, rn1, sl, nilS]
      have := row_calls1 (T := tabH Tryd.prog extY conN hcE) Tryd.func24 dm_cbody (rows2 a7 b7) (vals := [sl 0 o n c, sl 1 o' n' c']) (fun v hv => by
        simp only [List.mem_cons, List.not_mem_nil, or_false] at hv
        rcases hv with rfl | rfl <;> rfl) (k := 2) (wU_calm _) tU_own r.w (by rfl) E (s := pair b b') (fitsR2 hx a5 a6 hy b5 b6)
      rw [e1] at this
      exact this
  · rename_i p n c q n' c' V U s2
    cases hg
    obtain ⟨l0, l1, l2, l3⟩ := log4 hl
    simp only [Bool.and_eq_true, Bool.not_eq_true', Bool.or_eq_false_iff, decide_eq_true_eq] at l0 l1 l2 l3
    obtain ⟨⟨l3, l4⟩, l5, l6⟩ := l3
    obtain ⟨rfl, rfl⟩ := l0
    rcases rowX_cases l2 with ⟨_, h0, _⟩ | ⟨b', o', y, rfl, hy, t1, f0⟩
    · omega
    rw [f0] at l4 l6 ⊢
    have tR1 := rowOk_R t1
    obtain ⟨b1, b2, b3, b4, b5, b6, b7⟩ := row_of t1
    rcases rowX_cases l1 with ⟨rfl, rfl, rfl, e0⟩ | ⟨b, o, x, rfl, hx, r1, e0⟩
    · rw [e0] at l6
      exact absurd ((cmp_nl b2).2 l5) l6
    · rw [e0] at l3 l6 ⊢
      have tR0 := rowOk_R r1
      obtain ⟨a1, a2, a3, a4, a5, a6, a7⟩ := row_of r1
      have r := dm_runs (c := c) (c' := c') a1 b1 (by rw [a2]; exact tR0) (by rw [b2]; exact tR1) l3 l4 (by omega) l6
      rw [a2, b2] at r
      have fin := row_callsT (T := tabH Tryd.prog extY conL hcD) Tryd.func24 dm_body (rows2 a7 b7) (vals := [sl 0 o n c, sl 1 o' n' c']) (fun v hv => by
        simp only [List.mem_cons, List.not_mem_nil, or_false] at hv
        rcases hv with h1 | h1 <;> rw [h1] <;> rfl) (v := fun k j => .tuple #[sl k 0 (trimN (dg (n - n' + 1) (vN (cutI x.1 o n) / vN (cutI y.1 o' n')))) (n - n' + 1), sl j 0 (trimN (dg (n + 1) (vN (cutI x.1 o n) % vN (cutI y.1 o' n')))) (n + 1), .nilIface]) (wU_calm _) (wU_calm _) tU_own (r.w.mono fun e z hz => ⟨hz.1, 4, 2, by omega, hz.2.1, ⟨[], by rw [List.append_nil]; exact hz.2.2.1⟩, [], by rw [List.append_nil]; exact hz.2.2.2⟩) (fun k j => by simp [oc, oc2, oc1, sl]) E (s := pair b b') (fitsR2 hx a5 a6 hy b5 b6) (fun k j g => by simp [rn, rn2, rn1, sl])
      exact fin
  · cases hg
end Go.Proofs.YtecemjilmlagdaaDoor

/-
  Rows that are numbers, wherever they lie; quotients told ahead.
-/
namespace Go.Proofs.YtecemjilmlagdaaDoor
open Go.KRun Go.Nt
set_option maxRecDepth 100000
set_option linter.unusedVariables false

def gDmN : AnsH := fun vals h s =>
  match vals, s with
  | [.slice p n c, .slice q n' c'], .inr (.inr (.inr (.inl true))) :: s' => some (.tuple #[nilS, nilS, errV 1], h, s', [(rowX h p n c, true), (rowX h q n' c', true), (badL (rowOf h p n) || badL (rowOf h q n'), true)])
  | [.slice p n c, .slice q n' c'], .inr (.inr (.inr (.inl false))) :: .inr (.inr (.inr (.inl true))) :: s' => some (.tuple #[nilS, nilS, errV 5], h, s', [(rowX h p n c, true), (rowX h q n' c', true), (!(badL (rowOf h p n) || badL (rowOf h q n')) && decide (n' = 0), true)])
  | [.slice p n c, .slice q n' c'], .inr (.inr (.inr (.inl false))) :: .inr (.inr (.inr (.inl false))) :: .inr (.inr (.inr (.inl true))) :: .inr (.inl U) :: s' => some (.tuple #[nilS, sl h.n 0 (trimN (dg (n + 1) U)) (n + 1), .nilIface], h.push (wU (dg (n + 1) U)) tU, s', [(decide (rowOf h p n ++ [0] = dg (n + 1) U), true), (rowX h p n c, true), (rowX h q n' c', true), (!(badL (rowOf h p n) || badL (rowOf h q n')) && decide (0 < n' ∧ cmpL (rowOf h p n) (rowOf h q n') < 0), true)])
  | [.slice p n c, .slice q n' c'], .inr (.inr (.inr (.inl false))) :: .inr (.inr (.inr (.inl false))) :: .inr (.inr (.inr (.inl false))) :: .inr (.inl V) :: .inr (.inl U) :: s' => some (.tuple #[sl h.n 0 (trimN (dg (n - n' + 1) V)) (n - n' + 1), sl (h.n + 1) 0 (trimN (dg (n + 1) U)) (n + 1), .nilIface], (h.push (wU (dg (n - n' + 1) V)) tU).push (wU (dg (n + 1) U)) tU, s', [(decide (vN (rowOf h p n) / vN (rowOf h q n') = V ∧ vN (rowOf h p n) % vN (rowOf h q n') = U), true), (rowX h p n c, true), (rowX h q n' c', true), (!(badL (rowOf h p n) || badL (rowOf h q n')) && decide (0 < n' ∧ ¬ cmpL (rowOf h p n) (rowOf h q n') < 0), true)])
  | _, _ => none
theorem gDmN_ok : AnsHOk 24 gDmN := by
  intro vals h s v h' s' lg hg hl
  unfold gDmN at hg
  split at hg
  · cases hg
    exact gDm_ok _ h [cmp true] _ _ [] _ rfl hl
  · cases hg
    exact gDm_ok _ h [cmp false, cmp true] _ _ [] _ rfl hl
  · rename_i p n c q n' c' U s3
    cases hg
    obtain ⟨l1, l2⟩ := log_tl hl
    have l1 := of_decide_eq_true l1
    refine gDm_ok _ h [cmp false, cmp false, cmp true] _ _ [] _ ?_ l2
    simp only [gDm, l1]
  · cases hg
    exact gDm_ok _ h [cmp false, cmp false, cmp false, num _, num _] _ _ [] _ rfl hl
  · cases hg
def hcN4 : Hc := altH 24 gDmN hcN3
theorem hcN4_ok : HcOk hcN4 := altH_ok Tryd.func24 rfl gDmN_ok hcN3_ok
theorem tabN4 : TabOk (tabH Tryd.prog extY conLw hcN4) := tabH_ok conLw_ok hcN4_ok
def IsR (H : Hp) (p : Option Addr) (n c V : Nat) : Prop := rowX H p n c = true ∧ rowP H p n c = true ∧ rowOf H p n = d32 V ∧ n = (d32 V).length ∧ n ≤ 1000
theorem isRn (H : Hp) : IsR H none 0 0 0 := ⟨rfl, rfl, (db_zero 4294967296).symm, by unfold d32; rw [db_zero]; rfl, by omega⟩
theorem isRd {H : Hp} {b V m : Nat} (hb : H.blk? b = some (wU (dg m (V : Int)), tU)) (hV : V < 4294967296 ^ m) (hm : m ≤ 1000) : IsR H (some ⟨b, 0, none⟩) (trimN (dg m (V : Int))) m V := by
  have h32 := is32d hb hV hm
  have ht := trimN_le (dg m (V : Int))
  have hl := dg_len m (V : Int)
  refine ⟨?_, h32.1, h32.2, ?_, by omega⟩
  · unfold rowX
    simp only [hb]
    exact wU_rowAt (dg_wds _ _) (by omega) (by omega) (smallC_le (by omega))
  · rw [← h32.2]
    have := rowOf_len h32.1
    omega
theorem isRa {w : World} {i : Nat} {v : Value} {x : List Value × TypeId} {k : Nat × Nat} {p : Option Addr} {n c : Nat} {L : List Int} (h : Arg w i v x k p n c L) {H : Hp} (hb : H.blk? i = some x) (hg : badL L = false) {V : Nat} (hV : vb 4294967296 L = V) (hn : n ≤ 1000) : IsR H p n c V := by
  obtain ⟨r1, r2, r3, r4⟩ := h.row hb
  have hc := badL_canon r4 hg
  have hcan : Canon 4294967296 L := by
    refine ⟨r4, trimN_uniq (fun i hi => ?_) ?_⟩
    · simp [List.getD, List.getElem?_eq_none hi]
    · rcases hc.2 with h0 | h0
      · exact .inl h0
      · exact .inr h0
  have eL : d32 V = L := by
    unfold d32
    rw [← hV]
    exact db_can (by omega) hcan
  refine ⟨r1, ?_, by rw [r2, eL], by rw [eL, r3], hn⟩
  rcases rowX_cases r1 with ⟨rfl, rfl, rfl, _⟩ | ⟨b, o, y, rfl, hy, q1, _⟩
  · rfl
  · obtain ⟨c1, c2⟩ := rowC_X hy q1
    unfold rowP
    simp only [hy]
    rw [c1, List.all_eq_true.2 c2]
    rfl
section
variable {H : Hp} {p q : Option Addr} {n c n' c' V W : Nat}
theorem vN_d32 (V : Nat) : vN (d32 V) = (V : Int) := by
  rw [vN_vb (d32_wds V)]
  exact congrArg _ (vb_db (by omega) V)
theorem d32_canon (V : Nat) : canon (d32 V) := by
  have h := can_db (b := 4294967296) (by omega) V
  refine ⟨d32_wds V, ?_⟩
  have ht := trimN_top (d32 V)
  rw [show trimN (d32 V) = (d32 V).length from h.2] at ht
  exact ht
theorem IsR.good (h : IsR H p n c V) : badL (rowOf H p n) = false := by
  have hl : (rowOf H p n).length = n := by rw [h.2.2.1]; exact h.2.2.2.1.symm
  have h8 := h.2.2.2.2
  have hc := d32_canon V
  rw [← h.2.2.1] at hc
  unfold badL
  rw [decide_eq_false (by omega), Bool.false_or]
  rcases hc.2 with h0 | h0
  · rw [decide_eq_false (by omega)]
    rfl
  · rw [beq_eq_false_iff_ne.2 h0, Bool.and_false]
theorem rX (h : IsR H p n c V) : rowX H p n c = true := h.1
theorem rPw (h : IsR H p n c V) : rowP H p n c = true := h.2.1
theorem rOr (h : IsR H p n c V) (g : IsR H q n' c' W) : (badL (rowOf H p n) || badL (rowOf H q n')) = false := by rw [h.good, g.good]; rfl
theorem rIs (h : IsR H p n c V) : (!badL (rowOf H p n)) = true := by rw [h.good]; rfl
theorem rMul (h : IsR H p n c V) (g : IsR H q n' c' W) : decide (mulR (rowOf H p n) (rowOf H q n') = dg (n + n') ((V * W : Nat) : Int)) = true := by
  refine decide_eq_true ?_
  unfold mulR
  rw [h.2.2.1, g.2.2.1, vN_d32, vN_d32, ← h.2.2.2.1, ← g.2.2.2.1, Int.natCast_mul]
theorem rAdd (h : IsR H p n c V) (g : IsR H q n' c' W) {S : Nat} (hS : V + W = S) : decide (sumR (rowOf H p n) (rowOf H q n') = dg (mxN n n' + 1) (S : Int)) = true := by
  refine decide_eq_true ?_
  unfold sumR
  rw [h.2.2.1, g.2.2.1, vN_d32, vN_d32, ← h.2.2.2.1, ← g.2.2.2.1, ← hS, Int.natCast_add]
theorem rMx (h : IsR H p n c V) (g : IsR H q n' c' W) : mxN n n' + 1 ≤ 1001 := by
  have := h.2.2.2.2
  have := g.2.2.2.2
  unfold mxN
  split <;> omega
theorem rOrT (h : IsR H p n c V) (g : IsR H q n' c' W) (S : Int) : (badL (rowOf H p n) || badL (rowOf H q n') || decide ((trimN (dg (mxN n n' + 1) S) : Int) > 8192)) = false := by
  have h1 := trimN_le (dg (mxN n n' + 1) S)
  have h2 := rMx h g
  rw [dg_len] at h1
  rw [h.good, g.good, decide_eq_false (by omega)]
  rfl
theorem rCmpV (h : IsR H p n c V) (g : IsR H q n' c' W) : cmpL (rowOf H p n) (rowOf H q n') = cmpZ V W := by
  rw [h.2.2.1, g.2.2.1, cmpL_vb (d32_canon V) (d32_canon W), show vb 4294967296 (d32 V) = V from vb_db (by omega) V, show vb 4294967296 (d32 W) = W from vb_db (by omega) W]
  rfl
theorem rCmp (h : IsR H p n c V) (g : IsR H q n' c' W) {k : Int} (hk : cmpZ V W = k) : decide (cmpL (rowOf H p n) (rowOf H q n') = k) = true := by
  rw [rCmpV h g, hk]
  exact decide_eq_true rfl
theorem rEq (h : IsR H p n c V) (g : IsR H q n' c' V) : decide (rowOf H p n = rowOf H q n') = true := by
  rw [h.2.2.1, g.2.2.1]
  exact decide_eq_true rfl
theorem rZ (h : IsR H p n c V) (g : IsR H q n' c' W) (hz : n' = 0) : (!(badL (rowOf H p n) || badL (rowOf H q n')) && decide (n' = 0)) = true := by
  rw [rOr h g, decide_eq_true hz]
  rfl
theorem rL (h : IsR H p n c V) (g : IsR H q n' c' W) (hp : 0 < n') (hlt : V < W) : (!(badL (rowOf H p n) || badL (rowOf H q n')) && decide (0 < n' ∧ cmpL (rowOf H p n) (rowOf H q n') < 0)) = true := by
  rw [rOr h g, rCmpV h g, decide_eq_true ⟨hp, by unfold cmpZ; rw [if_pos hlt]; omega⟩]
  rfl
theorem rG (h : IsR H p n c V) (g : IsR H q n' c' W) (hp : 0 < n') (hle : W ≤ V) : (!(badL (rowOf H p n) || badL (rowOf H q n')) && decide (0 < n' ∧ ¬ cmpL (rowOf H p n) (rowOf H q n') < 0)) = true := by
  rw [rOr h g, rCmpV h g, decide_eq_true ⟨hp, by unfold cmpZ; rw [if_neg (by omega)]; split <;> omega⟩]
  rfl
theorem rRest (h : IsR H p n c V) : decide (rowOf H p n ++ [0] = dg (n + 1) (V : Int)) = true := by
  refine decide_eq_true ?_
  have hw : wds (rowOf H p n ++ [0]) := wds_zero (by rw [h.2.2.1]; exact d32_wds V)
  have hl : (rowOf H p n ++ [0]).length = n + 1 := by rw [List.length_append, h.2.2.1, ← h.2.2.2.1]; rfl
  have := dg_vN _ hw
  rw [hl, vN_snoc, Int.mul_zero, Int.add_zero, h.2.2.1, vN_d32] at this
  rw [h.2.2.1]
  exact this.symm
theorem rDiv (h : IsR H p n c V) (g : IsR H q n' c' W) : decide (vN (rowOf H p n) / vN (rowOf H q n') = ((V / W : Nat) : Int) ∧ vN (rowOf H p n) % vN (rowOf H q n') = ((V % W : Nat) : Int)) = true := by
  rw [h.2.2.1, g.2.2.1, vN_d32, vN_d32]
  exact decide_eq_true ⟨(Int.natCast_ediv V W).symm, (Int.natCast_emod V W).symm⟩
theorem rLt (h : IsR H p n c V) : V < 4294967296 ^ n := by
  have := vb_lt (b := 4294967296) (by omega) (d32 V) (d32_wds V)
  rw [show vb 4294967296 (d32 V) = V from vb_db (by omega) V, ← h.2.2.2.1] at this
  exact this
end
end Go.Proofs.YtecemjilmlagdaaDoor
