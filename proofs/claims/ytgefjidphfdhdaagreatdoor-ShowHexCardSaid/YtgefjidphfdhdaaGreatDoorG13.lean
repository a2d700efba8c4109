/-
  ConOB, SlK, PwD, PwE, R16, PwF, ConNK, PwB
-/
import Derived.Test.YtgefjidphfdhdaaGreatDoorG12
namespace Go.Proofs.YtgefjidphfdhdaaGreatDoor.Na
open Go.KRun Go.Nt
set_option maxRecDepth 100000
set_option linter.unusedVariables false
theorem dm_nless (o n c : Nat) (lb : List Value) : GoesT (evC (tabH Tryz.prog extY conN hcE) 300 false (cBody Tryz.f152) ([nilS, sl 0 o n c] ++ List.replicate 87 undef, ⟨1, [(lb, tR)]⟩, [cmp false, cmp false, cmp true]) ⟨[], [], []⟩) 7 82 (some none) [nilS, sl 0 o n c, undef, undef, nilS, sl 1 0 0 1, .nilIface] ⟨2, [(wU [0], tU), (lb, tR)]⟩
    [(rowOk tU (wU [0]) 0 1 1, true), (decide (cmpL [] (cutI lb o n) < 0), true), (true, true), (rowOk tR lb o n c, true), ((n : Int) == 0, false), (true, true), (rowOk tR lb o n c, true), (badL (cutI lb o n), false)] := ⟨by kernel_rfl, by kernel_rfl, by kernel_rfl⟩
def gDm : AnsH := fun vals h s =>
  match vals, s with
  | [.slice p n c, .slice q n' c'], .inr (.inr (.inr (.inl true))) :: s' => some (.tuple #[nilS, nilS, errV 1], h, s', [(rowX h p n c, true), (rowX h q n' c', true), (badL (rowOf h p n) || badL (rowOf h q n'), true)])
  | [.slice p n c, .slice q n' c'], .inr (.inr (.inr (.inl false))) :: .inr (.inr (.inr (.inl true))) :: s' => some (.tuple #[nilS, nilS, errV 5], h, s', [(rowX h p n c, true), (rowX h q n' c', true), (!(badL (rowOf h p n) || badL (rowOf h q n')) && decide (n' = 0), true)])
  | [.slice p n c, .slice q n' c'], .inr (.inr (.inr (.inl false))) :: .inr (.inr (.inr (.inl false))) :: .inr (.inr (.inr (.inl true))) :: s' => some (.tuple #[nilS, sl h.n 0 (trimN (rowOf h p n ++ [0])) (n + 1), .nilIface], h.push (wU (rowOf h p n ++ [0])) tU, s', [(rowX h p n c, true), (rowX h q n' c', true), (!(badL (rowOf h p n) || badL (rowOf h q n')) && decide (0 < n' ∧ cmpL (rowOf h p n) (rowOf h q n') < 0), true)])
  | [.slice p n c, .slice q n' c'], .inr (.inr (.inr (.inl false))) :: .inr (.inr (.inr (.inl false))) :: .inr (.inr (.inr (.inl false))) :: .inr (.inl V) :: .inr (.inl U) :: s' => some (.tuple #[sl h.n 0 (trimN (dg (n - n' + 1) V)) (n - n' + 1), sl (h.n + 1) 0 (trimN (dg (n + 1) U)) (n + 1), .nilIface], (h.push (wU (dg (n - n' + 1) V)) tU).push (wU (dg (n + 1) U)) tU, s', [(decide (vN (rowOf h p n) / vN (rowOf h q n') = V ∧ vN (rowOf h p n) % vN (rowOf h q n') = U), true), (rowX h p n c, true), (rowX h q n' c', true), (!(badL (rowOf h p n) || badL (rowOf h q n')) && decide (0 < n' ∧ ¬ cmpL (rowOf h p n) (rowOf h q n') < 0), true)])
  | _, _ => none
theorem log4 {a b c d : Bool × Bool} (h : okLog [a, b, c, d]) : a.1 = a.2 ∧ b.1 = b.2 ∧ c.1 = c.2 ∧ d.1 = d.2 := ⟨h _ (by simp), h _ (by simp), h _ (by simp), h _ (by simp)⟩
theorem gDm_ok : AnsHOk 152 gDm := by
  intro vals h s v h' s' lg hg hl m B w E hv
  unfold gDm at hg
  split at hg
  · rename_i p n c q n' c' s2
    cases hg
    have r := goesT_runs (s0 := []) (tabH_ok conN_ok hcE_ok) (dm_bad p q n c n' c' h) hl
    exact hcalls_keep (T := tabH Tryz.prog extY conN hcE) Tryz.func152 dm_cbody (vals := [.slice p n c, .slice q n' c']) (v := .tuple #[nilS, nilS, errV 1]) (h := h) (by rfl) (r.mono fun e y he => by
      obtain ⟨rfl, ⟨g, e1⟩, e2⟩ := he
      exact ⟨.inr rfl, by rw [e1, e2]; rfl, e2⟩) m B w E hv
  · rename_i p n c q n' c' s2
    cases hg
    obtain ⟨l1, l2, l3⟩ := log3 hl
    simp only [Bool.and_eq_true, Bool.not_eq_true', decide_eq_true_eq] at l1 l2 l3
    have r := goesT_runs (s0 := []) (tabH_ok conN_ok hcE_ok) (dm_zero p q n c n' c' h) (okTwo (by simp [l3.2]) (okTwo l1 (okTwo l2 (okOne l3.1))))
    exact hcalls_keep (T := tabH Tryz.prog extY conN hcE) Tryz.func152 dm_cbody (vals := [.slice p n c, .slice q n' c']) (v := .tuple #[nilS, nilS, errV 5]) (h := h) (by rfl) (r.mono fun e y he => by
      obtain ⟨rfl, ⟨g, e1⟩, e2⟩ := he
      exact ⟨.inr rfl, by rw [e1, e2]; rfl, e2⟩) m B w E hv
  · rename_i p n c q n' c' s2
    cases hg
    obtain ⟨l1, l2, l3⟩ := log3 hl
    simp only [Bool.and_eq_true, Bool.not_eq_true', Bool.or_eq_false_iff, decide_eq_true_eq] at l1 l2 l3
    obtain ⟨⟨l3, l4⟩, l5, l6⟩ := l3
    rcases rowX_cases l2 with ⟨_, h0, _⟩ | ⟨b', o', y, rfl, hy, t1, f0⟩
    · omega
    rw [f0] at l4 l6
    have tR1 := rowOk_R t1
    obtain ⟨b1, b2, b3, b4, b5, b6, b7⟩ := row_of t1
    rcases rowX_cases l1 with ⟨rfl, rfl, rfl, e0⟩ | ⟨b, o, x, rfl, hx, r1, e0⟩
    · rw [e0] at l6 ⊢
      have r : Runs (tabH Tryz.prog extY conN hcE) (cBody Tryz.f152) ([nilS, sl 0 o' n' c'] ++ List.replicate 87 undef, ⟨1, [(y.1, tR)]⟩, []) fun e z => (e = none ∨ e = some none) ∧ resS Tryz.prog Tryz.f152 z.1 z.2.1 = some (.tuple #[nilS, sl 1 0 0 1, .nilIface]) ∧ ∃ r, z.2.1.blk? 1 = some (wU [0] ++ r, tU) := by
        refine (goesT_runs (tabH_ok conN_ok hcE_ok) (dm_nless o' n' c' y.1) (okTwo (by kernel_rfl) (okTwo (decide_eq_true l6) (okTwo rfl (okTwo tR1 (okTwo (by simpa using (show n' ≠ 0 by omega)) (okTwo rfl (okTwo tR1 (okOne l4))))))))).mono fun e z he => ?_
        obtain ⟨rfl, ⟨g, e1⟩, e2⟩ := he
        exact ⟨.inr rfl, by rw [e1, e2]; rfl, [], by rw [e2]; rfl⟩
      have evals : List.map (rn fun _ => b') [nilS, sl 0 o' n' c'] = [.slice none 0 0, .slice (some ⟨b', o', none⟩) n' c'] := by simp [rn, rn2, rn1, sl, nilS]
      have e1 : ∀ k M : Nat, rn (fun _ => h.n) (.tuple #[nilS, sl 1 0 k M, .nilIface]) = .tuple #[nilS, sl h.n 0 k M, .nilIface] := fun k M => by simp [rn, rn2, rn1, sl, nilS]
      have := row_calls1 (T := tabH Tryz.prog extY conN hcE) Tryz.func152 dm_cbody (rows1 b7) (vals := [nilS, sl 0 o' n' c']) (fun v hv => by
        simp only [List.mem_cons, List.not_mem_nil, or_false] at hv
        rcases hv with rfl | rfl <;> rfl) (k := 1) (wU_calm _) tU_own r.w (by rfl) E (s := fun _ => b') (fitsR1 hy b5 b6 rfl)
      rw [evals, e1] at this
      exact this
    · rw [e0] at l3 l6 ⊢
      have tR0 := rowOk_R r1
      obtain ⟨a1, a2, a3, a4, a5, a6, a7⟩ := row_of r1
      have n8 := badL_len l3
      have g0 := dm_less o n c o' n' c' x.1 y.1
      have eP := cpy_eq a1 n8
      have eO := cpOk_eq a1 n8
      rw [a2] at eP eO
      rw [a2] at n8
      rw [nP_nat n8, eP] at g0
      have hw := wds_zero a1.rng
      have hl1 : (cutI x.1 o n ++ [0]).length = n + 1 := by simp [a2]
      rw [cut_all _ hl1] at g0
      have r : Runs (tabH Tryz.prog extY conN hcE) (cBody Tryz.f152) ([sl 0 o n c, sl 1 o' n' c'] ++ List.replicate 87 undef, h2 x.1 y.1, []) fun e z => (e = none ∨ e = some none) ∧ resS Tryz.prog Tryz.f152 z.1 z.2.1 = some (.tuple #[nilS, sl 2 0 (trimN (cutI x.1 o n ++ [0])) (n + 1), .nilIface]) ∧ ∃ r, z.2.1.blk? 2 = some (wU (cutI x.1 o n ++ [0]) ++ r, tU) := by
        refine (goesT_runs (tabH_ok conN_ok hcE_ok) g0 (okTwo (wU_rowAt hw (by rw [hl1]; omega) (Nat.le_refl _) (smallC_le (by omega))) (okTwo (decide_eq_true l6) (okTwo tR0 (okTwo tR1 (okTwo eO (okTwo (mk_ok n8) (okTwo (by simpa using (show n' ≠ 0 by omega)) (okTwo tR0 (okTwo tR1 (okOne (by rw [l3, l4]; rfl)))))))))))).mono fun e z he => ?_
        obtain ⟨rfl, ⟨g, e1⟩, e2⟩ := he
        exact ⟨.inr rfl, by rw [e1, e2]; rfl, [], by rw [e2, List.append_nil]; rfl⟩
      have e1 : ∀ k M : Nat, rn (fun _ => h.n) (.tuple #[nilS, sl 2 0 k M, .nilIface]) = .tuple #[nilS, sl h.n 0 k M, .nilIface] := fun k M => by simp [rn, rn2, rn1, sl, nilS]
      have := row_calls1 (T := tabH Tryz.prog extY conN hcE) Tryz.func152 dm_cbody (rows2 a7 b7) (vals := [sl 0 o n c, sl 1 o' n' c']) (fun v hv => by
        simp only [List.mem_cons, List.not_mem_nil, or_false] at hv
        rcases hv with rfl | rfl <;> rfl) (k := 2) (wU_calm _) tU_own r.w (by rfl) E (s := pair b b') (fitsR2 hx a5 a6 hy b5 b6)
      rw [e1] at this
      exact this
  · rename_i p n c q n' c' V U s2
    cases hg
    obtain ⟨l0, l1, l2, l3⟩ := log4 hl
    simp only [Bool.and_eq_true, Bool.not_eq_true', Bool.or_eq_false_iff, decide_eq_true_eq] at l0 l1 l2 l3
    obtain ⟨⟨l3, l4⟩, l5, l6⟩ := l3
    obtain ⟨rfl, rfl⟩ := l0
    rcases rowX_cases l2 with ⟨_, h0, _⟩ | ⟨b', o', y, rfl, hy, t1, f0⟩
    · omega
    rw [f0] at l4 l6 ⊢
    have tR1 := rowOk_R t1
    obtain ⟨b1, b2, b3, b4, b5, b6, b7⟩ := row_of t1
    rcases rowX_cases l1 with ⟨rfl, rfl, rfl, e0⟩ | ⟨b, o, x, rfl, hx, r1, e0⟩
    · rw [e0] at l6
      exact absurd ((cmp_nl b2).2 l5) l6
    · rw [e0] at l3 l6 ⊢
      have tR0 := rowOk_R r1
      obtain ⟨a1, a2, a3, a4, a5, a6, a7⟩ := row_of r1
      have r := dm_runs (c := c) (c' := c') a1 b1 (by rw [a2]; exact tR0) (by rw [b2]; exact tR1) l3 l4 (by omega) l6
      rw [a2, b2] at r
      have fin := row_callsT (T := tabH Tryz.prog extY conL hcD) Tryz.func152 dm_body (rows2 a7 b7) (vals := [sl 0 o n c, sl 1 o' n' c']) (fun v hv => by
        simp only [List.mem_cons, List.not_mem_nil, or_false] at hv
        rcases hv with h1 | h1 <;> rw [h1] <;> rfl) (v := fun k j => .tuple #[sl k 0 (trimN (dg (n - n' + 1) (vN (cutI x.1 o n) / vN (cutI y.1 o' n')))) (n - n' + 1), sl j 0 (trimN (dg (n + 1) (vN (cutI x.1 o n) % vN (cutI y.1 o' n')))) (n + 1), .nilIface]) (wU_calm _) (wU_calm _) tU_own (r.w.mono fun e z hz => ⟨hz.1, 4, 2, by omega, hz.2.1, ⟨[], by rw [List.append_nil]; exact hz.2.2.1⟩, [], by rw [List.append_nil]; exact hz.2.2.2⟩) (fun k j => by simp [oc, oc2, oc1, sl]) E (s := pair b b') (fitsR2 hx a5 a6 hy b5 b6) (fun k j g => by simp [rn, rn2, rn1, sl])
      exact fin
  · cases hg
def gDmN : AnsH := fun vals h s =>
  match vals, s with
  | [.slice p n c, .slice q n' c'], .inr (.inr (.inr (.inl true))) :: s' => some (.tuple #[nilS, nilS, errV 1], h, s', [(rowX h p n c, true), (rowX h q n' c', true), (badL (rowOf h p n) || badL (rowOf h q n'), true)])
  | [.slice p n c, .slice q n' c'], .inr (.inr (.inr (.inl false))) :: .inr (.inr (.inr (.inl true))) :: s' => some (.tuple #[nilS, nilS, errV 5], h, s', [(rowX h p n c, true), (rowX h q n' c', true), (!(badL (rowOf h p n) || badL (rowOf h q n')) && decide (n' = 0), true)])
  | [.slice p n c, .slice q n' c'], .inr (.inr (.inr (.inl false))) :: .inr (.inr (.inr (.inl false))) :: .inr (.inr (.inr (.inl true))) :: .inr (.inl U) :: s' => some (.tuple #[nilS, sl h.n 0 (trimN (dg (n + 1) U)) (n + 1), .nilIface], h.push (wU (dg (n + 1) U)) tU, s', [(decide (rowOf h p n ++ [0] = dg (n + 1) U), true), (rowX h p n c, true), (rowX h q n' c', true), (!(badL (rowOf h p n) || badL (rowOf h q n')) && decide (0 < n' ∧ cmpL (rowOf h p n) (rowOf h q n') < 0), true)])
  | [.slice p n c, .slice q n' c'], .inr (.inr (.inr (.inl false))) :: .inr (.inr (.inr (.inl false))) :: .inr (.inr (.inr (.inl false))) :: .inr (.inl V) :: .inr (.inl U) :: s' => some (.tuple #[sl h.n 0 (trimN (dg (n - n' + 1) V)) (n - n' + 1), sl (h.n + 1) 0 (trimN (dg (n + 1) U)) (n + 1), .nilIface], (h.push (wU (dg (n - n' + 1) V)) tU).push (wU (dg (n + 1) U)) tU, s', [(decide (vN (rowOf h p n) / vN (rowOf h q n') = V ∧ vN (rowOf h p n) % vN (rowOf h q n') = U), true), (rowX h p n c, true), (rowX h q n' c', true), (!(badL (rowOf h p n) || badL (rowOf h q n')) && decide (0 < n' ∧ ¬ cmpL (rowOf h p n) (rowOf h q n') < 0), true)])
  | _, _ => none
theorem gDmN_ok : AnsHOk 152 gDmN := by
  intro vals h s v h' s' lg hg hl
  unfold gDmN at hg
  split at hg
  · cases hg
    exact gDm_ok _ h [cmp true] _ _ [] _ rfl hl
  · cases hg
    exact gDm_ok _ h [cmp false, cmp true] _ _ [] _ rfl hl
  · rename_i p n c q n' c' U s3
    cases hg
    obtain ⟨l1, l2⟩ := log_tl hl
    have l1 := of_decide_eq_true l1
    refine gDm_ok _ h [cmp false, cmp false, cmp true] _ _ [] _ ?_ l2
    simp only [gDm, l1]
  · cases hg
    exact gDm_ok _ h [cmp false, cmp false, cmp false, num _, num _] _ _ [] _ rfl hl
  · cases hg
def IsR (H : Hp) (p : Option Addr) (n c V : Nat) : Prop := rowX H p n c = true ∧ rowP H p n c = true ∧ rowOf H p n = d32 V ∧ n = (d32 V).length ∧ n ≤ 1000
theorem isRd {H : Hp} {b V m : Nat} (hb : H.blk? b = some (wU (dg m (V : Int)), tU)) (hV : V < 4294967296 ^ m) (hm : m ≤ 1000) : IsR H (some ⟨b, 0, none⟩) (trimN (dg m (V : Int))) m V := by
  have h32 := is32d hb hV hm
  have ht := trimN_le (dg m (V : Int))
  have hl := dg_len m (V : Int)
  refine ⟨?_, h32.1, h32.2, ?_, by omega⟩
  · unfold rowX
    simp only [hb]
    exact wU_rowAt (dg_wds _ _) (by omega) (by omega) (smallC_le (by omega))
  · rw [← h32.2]
    have := rowOf_len h32.1
    omega
section
variable {H : Hp} {p q : Option Addr} {n c n' c' V W : Nat}
theorem vN_d32 (V : Nat) : vN (d32 V) = (V : Int) := by
  rw [vN_vb (d32_wds V)]
  exact congrArg _ (vb_db (by omega) V)
theorem d32_canon (V : Nat) : canon (d32 V) := by
  have h := can_db (b := 4294967296) (by omega) V
  refine ⟨d32_wds V, ?_⟩
  have ht := trimN_top (d32 V)
  rw [show trimN (d32 V) = (d32 V).length from h.2] at ht
  exact ht
theorem IsR.good (h : IsR H p n c V) : badL (rowOf H p n) = false := by
  have hl : (rowOf H p n).length = n := by rw [h.2.2.1]; exact h.2.2.2.1.symm
  have h8 := h.2.2.2.2
  have hc := d32_canon V
  rw [← h.2.2.1] at hc
  unfold badL
  rw [decide_eq_false (by omega), Bool.false_or]
  rcases hc.2 with h0 | h0
  · rw [decide_eq_false (by omega)]
    rfl
  · rw [beq_eq_false_iff_ne.2 h0, Bool.and_false]
theorem rX (h : IsR H p n c V) : rowX H p n c = true := h.1
theorem rOr (h : IsR H p n c V) (g : IsR H q n' c' W) : (badL (rowOf H p n) || badL (rowOf H q n')) = false := by rw [h.good, g.good]; rfl
theorem rMul (h : IsR H p n c V) (g : IsR H q n' c' W) : decide (mulR (rowOf H p n) (rowOf H q n') = dg (n + n') ((V * W : Nat) : Int)) = true := by
  refine decide_eq_true ?_
  unfold mulR
  rw [h.2.2.1, g.2.2.1, vN_d32, vN_d32, ← h.2.2.2.1, ← g.2.2.2.1, Int.natCast_mul]
theorem rCmpV (h : IsR H p n c V) (g : IsR H q n' c' W) : cmpL (rowOf H p n) (rowOf H q n') = cmpZ V W := by
  rw [h.2.2.1, g.2.2.1, cmpL_vb (d32_canon V) (d32_canon W), show vb 4294967296 (d32 V) = V from vb_db (by omega) V, show vb 4294967296 (d32 W) = W from vb_db (by omega) W]
  rfl
theorem rG (h : IsR H p n c V) (g : IsR H q n' c' W) (hp : 0 < n') (hle : W ≤ V) : (!(badL (rowOf H p n) || badL (rowOf H q n')) && decide (0 < n' ∧ ¬ cmpL (rowOf H p n) (rowOf H q n') < 0)) = true := by
  rw [rOr h g, rCmpV h g, decide_eq_true ⟨hp, by unfold cmpZ; rw [if_neg (by omega)]; split <;> omega⟩]
  rfl
theorem rDiv (h : IsR H p n c V) (g : IsR H q n' c' W) : decide (vN (rowOf H p n) / vN (rowOf H q n') = ((V / W : Nat) : Int) ∧ vN (rowOf H p n) % vN (rowOf H q n') = ((V % W : Nat) : Int)) = true := by
  rw [h.2.2.1, g.2.2.1, vN_d32, vN_d32]
  exact decide_eq_true ⟨(Int.natCast_ediv V W).symm, (Int.natCast_emod V W).symm⟩
end
theorem lns_0 (u : Int) : Fits (reckon (tabOf Tryz.prog extY conN true) 3000 126 [.int .u64 u] [tst false, tst false, tst false, tst false]) (lenE 0 u) [lt8 u, geq u 256 false, geq u 65536 false, geq u 4294967296 false, nz] := ⟨by kernel_rfl, by kernel_rfl, by kernel_rfl, by kernel_rfl⟩
theorem lns_1 (u : Int) : Fits (reckon (tabOf Tryz.prog extY conN true) 3000 126 [.int .u64 u] [tst false, tst false, tst false, tst true]) (lenE 8 (shd u 8)) [lt8 (shd u 8), nz, geq u 256 true, geq u 65536 false, geq u 4294967296 false, nz] := ⟨by kernel_rfl, by kernel_rfl, by kernel_rfl, by kernel_rfl⟩
theorem lns_calls (u : Int) (h0 : 0 ≤ u) (h1 : u < 65536) (w : World) : Calls Tryz.prog 126 #[.int .u64 u] w fun e w' => e = .returned (.int .i64 (bitLen u.toNat : Nat)) ∧ Tidy w w' := by
  obtain ⟨U, rfl⟩ := Int.eq_ofNat_of_zero_le h0
  rw [Int.toNat_natCast]
  have p8 : (2 : Nat) ^ 8 = 256 := rfl
  have step : ∀ {v : Value} {s : List Dec} {cs : Log}, Fits (reckon (tabOf Tryz.prog extY conN true) 3000 126 [.int .u64 (U : Int)] s) v cs → okLog cs → v = .int .i64 (bitLen U : Nat) → Calls Tryz.prog 126 #[.int .u64 (U : Int)] w fun e w' => e = .returned (.int .i64 (bitLen U : Nat)) ∧ Tidy w w' :=
    fun {v s cs} hf hc hv => by subst hv; exact fits_calls (tabY_ok conN_ok) hf hc (by rfl) (by rfl) w
  by_cases c : U < 256
  · obtain ⟨e1, e2⟩ := lenE_eq (m := 0) (by omega) (by omega) c
    exact step (lns_0 U) (okTwo e2 (okTwo (geq_f (by omega)) (okTwo (geq_f (by omega)) (okTwo (geq_f (by omega)) (okOne nz_ok))))) (by rw [e1]; congr 1; omega)
  · have l := len_up U 8 (by omega)
    obtain ⟨e1, e2⟩ := lenE_eq (m := 8) (Z := U / 2 ^ 8) (by omega) (by omega) (by omega)
    rw [← shd_eq] at e1 e2
    exact step (lns_1 U) (okTwo e2 (okTwo nz_ok (okTwo (geq_t (by omega)) (okTwo (geq_f (by omega)) (okTwo (geq_f (by omega)) (okOne nz_ok)))))) (by rw [e1]; congr 1; omega)
def gLenS : Ans := fun vals s =>
  match vals with
  | [.int .u64 x] => some (.int .i64 (bitLen x.toNat : Nat), s, [(decide (0 ≤ x ∧ x < 65536), true)])
  | _ => none
theorem gLenS_ok : AnsOk 126 gLenS := by
  intro vals s v s' lg h hl w
  unfold gLenS at h
  split at h
  · cases h
    have hr := hl _ (List.mem_singleton.2 rfl)
    simp only [decide_eq_true_eq] at hr
    exact lns_calls _ hr.1 hr.2 w
  · cases h
def conPw : Con := alt 126 gLenS conN
theorem conPw_ok : ConOk conPw := alt_ok Tryz.func126 rfl gLenS_ok conN_ok
/-! ### nat.Of -/
def hcOf : Hc := altH 131 gTrim hcN
theorem hcOf_ok : HcOk hcOf := altH_ok Tryz.func131 rfl gTrim_ok hcN_ok
theorem of_body : Tryz.f79.body = some (cBody Tryz.f79) := by kernel_rfl
def o2 (x : Int) : List Int := [IntKind.u32.wrap x, IntKind.u32.wrap (x.fdiv (2 ^ min (32 : Int).toNat 64))]
theorem of_go (x : Int) : GoesT (evC (tabH Tryz.prog extY conN hcOf) 100 false (cBody Tryz.f79) ([.int .u64 x] ++ List.replicate 9 undef, ⟨0, []⟩, []) ⟨[], [], []⟩) 3 7 (some none) [.int .u64 x, .tuple #[], sl 0 0 (trimN (cutI (wU (o2 x)) 0 2)) 2] ⟨1, [(wU (o2 x), tU)]⟩ [(rowOk tU (wU (o2 x)) 0 2 2, true), (decide ((32 : Int) < 0), false)] := ⟨by kernel_rfl, by kernel_rfl, by kernel_rfl⟩
theorem o2_eq {x : Int} (h0 : 0 ≤ x) (h1 : x < 18446744073709551616) : o2 x = dg 2 x := by
  have e : (2 : Int) ^ min (32 : Int).toNat 64 = 4294967296 := rfl
  unfold o2
  rw [e, Int.fdiv_eq_ediv_of_nonneg _ (by omega)]
  simp only [dg]
  have w : ∀ z : Int, IntKind.u32.wrap z = z % 4294967296 := fun z => by simp [IntKind.wrap, IntKind.bits, IntKind.signed]
  rw [w, w]
def gOfX : AnsH := fun vals h s =>
  match vals with
  | [.int .u64 x] => some (sl h.n 0 (trimN (dg 2 x)) 2, h.push (wU (dg 2 x)) tU, s, [(decide (0 ≤ x ∧ x < 18446744073709551616), true)])
  | _ => none
theorem gOfX_ok : AnsHOk 79 gOfX := by
  intro vals h s v h' s' lg hg hl m B w E hv
  have hr0 : (⟨0, []⟩ : Hp).rows := ⟨rfl, fun b x hx => by have : b < 0 := Hp.blk_lt hx; omega⟩
  unfold gOfX at hg
  split at hg
  · rename_i x
    cases hg
    have q := of_decide_eq_true (hl _ (List.mem_singleton.2 rfl))
    have hg := of_go x
    have hl2 := dg_len 2 x
    have ec : cutI (wU (dg 2 x)) 0 2 = dg 2 x := by
      have := cut_wU (dg 2 x)
      rw [hl2] at this
      exact this
    rw [o2_eq q.1 q.2, ec] at hg
    have hok : rowOk tU (wU (dg 2 x)) 0 2 2 = true := wU_rowAt (dg_wds _ _) (by omega) (by omega) (smallC_le (by omega))
    have r : RunsW (tabH Tryz.prog extY conN hcOf) (cBody Tryz.f79) ([.int .u64 x] ++ List.replicate 9 undef, ⟨0, []⟩, []) fun e z => (e = none ∨ e = some none) ∧ resS Tryz.prog Tryz.f79 z.1 z.2.1 = some (sl 0 0 (trimN (dg 2 x)) 2) ∧ ∃ r, z.2.1.blk? 0 = some (wU (dg 2 x) ++ r, tU) := by
      refine (goesT_runsW (tabH_ok conN_ok hcOf_ok) hg (okCons hok (okL1 (by decide)))).mono fun e z he => ?_
      obtain ⟨rfl, ⟨g, e1⟩, e2⟩ := he
      exact ⟨.inr rfl, by rw [e1, e2]; rfl, [], by rw [e2, List.append_nil]; rfl⟩
    exact row_calls1 (T := tabH Tryz.prog extY conN hcOf) Tryz.func79 of_body hr0 (vals := [.int .u64 x]) (fun v hv => by rw [List.mem_singleton.1 hv]; rfl) (k := 0) (cs := wU (dg 2 x)) (ty := tU) (wU_lt _) (by kernel_rfl) r (by simp [oc, oc2, oc1, sl]) E (s := fun i => i) (fun i x hx _ => by have : i < 0 := Hp.blk_lt hx; omega)
  · cases hg
def hcQ : Hc := altH 79 gOfX (altH 127 gPdN hcN)
theorem hcQ_ok : HcOk hcQ := altH_ok Tryz.func79 rfl gOfX_ok (altH_ok Tryz.func127 rfl gPdN_ok hcN_ok)
end Go.Proofs.YtgefjidphfdhdaaGreatDoor.Na
namespace Go.Proofs.YtgefjidphfdhdaaGreatDoor
open Go.KRun Go.Nt
set_option maxRecDepth 100000
/-! ### rows that were made -/
theorem d16_len {A k : Nat} (h : A < 2 ^ (16 * k)) : (d16 A).length ≤ k := db_len (by omega) k A (by rw [pow16]; exact h)
theorem rowOf_d16 {h : Hp} {b A : Nat} {ty : TypeId} (hb : h.blk? b = some (wU (d16 A), ty)) : rowOf h (some ⟨b, 0, none⟩) (d16 A).length = d16 A := by
  simp only [rowOf, hb]
  exact cut_wU _
theorem vO_d16 {h : Hp} {b A : Nat} {ty : TypeId} (hb : h.blk? b = some (wU (d16 A), ty)) : vO h (some ⟨b, 0, none⟩) (d16 A).length = A := by
  unfold vO
  rw [rowOf_d16 hb]
  exact vb_db (by omega) A
theorem rowP_d16 {h : Hp} {b A : Nat} (hb : h.blk? b = some (wU (d16 A), tU)) (hl : (d16 A).length < 1073741824) : rowP h (some ⟨b, 0, none⟩) (d16 A).length (d16 A).length = true := by
  simp only [rowP, hb, Bool.and_eq_true]
  refine ⟨rowC_wU (fun x hx => ⟨(d16_dg A x hx).1, by have := (d16_dg A x hx).2; omega⟩) (by omega) ?_, List.all_eq_true.2 (wU_still _)⟩
  unfold capOk
  simp only [Bool.or_eq_true, Bool.and_eq_true]
  exact .inl ⟨blt_iff.2 (by unfold dead; omega), Nat.ble_eq_true_of_le (Nat.le_refl _)⟩
end Go.Proofs.YtgefjidphfdhdaaGreatDoor
namespace Go.Proofs.YtgefjidphfdhdaaGreatDoor.Na
open Go.KRun Go.Nt
set_option maxRecDepth 100000
set_option linter.unusedVariables false
def qsn (k : Nat) (F : Func) : Code := match k with | 0 => cBody F | k + 1 => cSnd (qsn k F)
def qP (F : Func) : List Code := [cFst (qsn 0 F), cFst (qsn 1 F), cFst (qsn 2 F), cFst (qsn 3 F)]
def qI (F : Func) : Code := cFst (cFst (qsn 4 F))
def qL (F : Func) : Code := cIn (cIn (cSnd (cFst (qsn 4 F))))
def qE (F : Func) : Code := qsn 5 F
theorem np_body : Tryz.f76.body = some (seqs (qP Tryz.f76) (.seq (.seq (qI Tryz.f76) (.block 0 (.loop (qL Tryz.f76)))) (qE Tryz.f76))) := by kernel_rfl
theorem np_body1 : Tryz.f76.body = some (cBody Tryz.f76) := by kernel_rfl
def w32 (m : Nat) (V : Nat) : List Value × TypeId := (wU (dg m (V : Int)), tU)
def s32 (k m V : Nat) : Value := sl k 0 (trimN (dg m (V : Int))) m
def qF (b n : Int) (P O : Value) (i : Int) : List Value := [.int .u32 b, .int .i64 n, .tuple #[], .tuple #[], nilS, .nilIface, P, O, .nilIface, .int .i64 i]
def Q2 (b : Nat) : Hp := ⟨2, [w32 2 b, w32 2 1]⟩
def Q3 (b m V : Nat) : Hp := ⟨3, [w32 m V, w32 2 b, w32 2 1]⟩
def Q4 (b m V M S : Nat) : Hp := ⟨4, [w32 M S, w32 m V, w32 2 b, w32 2 1]⟩
def bitE (n i : Int) : Int := IntKind.i64.wrap ((BitVec.ofInt 64 (n.fdiv (2 ^ min i.toNat 64)) &&& BitVec.ofInt 64 1).toNat : Nat)
def q0F (b n : Int) (O : Value) : List Value := [.int .u32 b, .int .i64 n, .tuple #[], .tuple #[], nilS, .nilIface, s32 0 2 1, O, .nilIface]
theorem np_pre (b : Nat) (n : Int) : GoesT (evL (tabH Tryz.prog extY conPw hcQ) 100 (qP Tryz.f76) ([.int .u32 (b : Int), .int .i64 n] ++ List.replicate 54 undef, ⟨0, []⟩, [cmp false, cmp false]) ⟨[], [], []⟩) 9 47 none (q0F b n (sl 1 0 (trimN (dg 2 (IntKind.u64.wrap (b : Int)))) 2)) ⟨2, [(wU (dg 2 (IntKind.u64.wrap (b : Int))), tU), w32 2 1]⟩ [(decide (0 ≤ IntKind.u64.wrap (b : Int) ∧ IntKind.u64.wrap (b : Int) < 18446744073709551616), true), (decide (0 ≤ (1 : Int) ∧ (1 : Int) < 18446744073709551616), true), (decide (n > 1000000), false), (decide (n < 0), false)] := ⟨by kernel_rfl, by kernel_rfl, by kernel_rfl⟩
theorem np_i (b : Nat) (n : Int) (O : Value) (g : Nat → Value) (h : Hp) : GoesT (evC (tabH Tryz.prog extY conPw hcQ) 100 false (qI Tryz.f76) (q0F b n O ++ tl 47 g, h, []) ⟨[], [], []⟩) 10 46 none (qF b n (s32 0 2 1) O (IntKind.i64.wrap (((bitLen (IntKind.u64.wrap n).toNat : Nat) : Int) - 1))) h [(decide (0 ≤ IntKind.u64.wrap n ∧ IntKind.u64.wrap n < 65536), true)] := ⟨by kernel_rfl, by kernel_rfl, by kernel_rfl⟩
theorem np_bad0 (b n : Int) : GoesT (evC (tabH Tryz.prog extY conPw hcQ) 100 false (cBody Tryz.f76) ([.int .u32 b, .int .i64 n] ++ List.replicate 54 undef, ⟨0, []⟩, [cmp true]) ⟨[], [], []⟩) 6 50 (some none) [.int .u32 b, .int .i64 n, .tuple #[], undef, nilS, errV 1] ⟨0, []⟩ [(decide (n < 0), true)] := ⟨by kernel_rfl, by kernel_rfl, by kernel_rfl⟩
theorem np_bad1 (b n : Int) : GoesT (evC (tabH Tryz.prog extY conPw hcQ) 100 false (cBody Tryz.f76) ([.int .u32 b, .int .i64 n] ++ List.replicate 54 undef, ⟨0, []⟩, [cmp false, cmp true]) ⟨[], [], []⟩) 6 50 (some none) [.int .u32 b, .int .i64 n, .tuple #[], undef, nilS, errV 1] ⟨0, []⟩ [(decide (n > 1000000), true), (decide (n < 0), false)] := ⟨by kernel_rfl, by kernel_rfl, by kernel_rfl⟩
theorem np_a1 (n i : Int) (b m V S : Nat) (g : Nat → Value) : GoesT (evC (tabH Tryz.prog extY conPw hcQ) 100 false (qL Tryz.f76) (qF b n (s32 2 m V) (s32 1 2 b) i ++ tl 46 g, Q3 b m V, [cmp true, cmp false, num S, cmp false]) ⟨[], [], []⟩) 10 46 none (qF b n (s32 3 (trimN (dg m (V : Int)) + trimN (dg m (V : Int))) S) (s32 1 2 b) (IntKind.i64.wrap (i - 1))) (Q4 b m V (trimN (dg m (V : Int)) + trimN (dg m (V : Int))) S) [(bitE n i == 1, false), (decide (i < 0), false), (decide (mulR (rowOf (Q3 b m V) (some ⟨2, 0, none⟩) (trimN (dg m (V : Int)))) (rowOf (Q3 b m V) (some ⟨2, 0, none⟩) (trimN (dg m (V : Int)))) = dg (trimN (dg m (V : Int)) + trimN (dg m (V : Int))) (S : Int)), true), (rowX (Q3 b m V) (some ⟨2, 0, none⟩) (trimN (dg m (V : Int))) (m), true), (rowX (Q3 b m V) (some ⟨2, 0, none⟩) (trimN (dg m (V : Int))) (m), true), (!decide (trimN (dg m (V : Int)) = 0 ∨ trimN (dg m (V : Int)) = 0) && Nat.ble (trimN (dg m (V : Int)) + trimN (dg m (V : Int))) 8192, true), (decide (i ≥ 0), true)] := ⟨by kernel_rfl, by kernel_rfl, by kernel_rfl⟩
theorem np_a2 (n i : Int) (b m V S W : Nat) (g : Nat → Value) : GoesT (evC (tabH Tryz.prog extY conPw hcQ) 100 false (qL Tryz.f76) (qF b n (s32 2 m V) (s32 1 2 b) i ++ tl 46 g, Q3 b m V, [cmp true, cmp false, num S, cmp true, cmp false, num W]) ⟨[], [], []⟩) 10 46 none (qF b n (s32 4 (trimN (dg (trimN (dg m (V : Int)) + trimN (dg m (V : Int))) (S : Int)) + trimN (dg 2 (b : Int))) W) (s32 1 2 b) (IntKind.i64.wrap (i - 1))) ⟨5, [w32 (trimN (dg (trimN (dg m (V : Int)) + trimN (dg m (V : Int))) (S : Int)) + trimN (dg 2 (b : Int))) W, w32 (trimN (dg m (V : Int)) + trimN (dg m (V : Int))) S, w32 m V, w32 2 b, w32 2 1]⟩ [(decide (mulR (rowOf (Q4 b m V (trimN (dg m (V : Int)) + trimN (dg m (V : Int))) S) (some ⟨3, 0, none⟩) (trimN (dg (trimN (dg m (V : Int)) + trimN (dg m (V : Int))) (S : Int)))) (rowOf (Q4 b m V (trimN (dg m (V : Int)) + trimN (dg m (V : Int))) S) (some ⟨1, 0, none⟩) (trimN (dg 2 (b : Int)))) = dg (trimN (dg (trimN (dg m (V : Int)) + trimN (dg m (V : Int))) (S : Int)) + trimN (dg 2 (b : Int))) (W : Int)), true), (rowX (Q4 b m V (trimN (dg m (V : Int)) + trimN (dg m (V : Int))) S) (some ⟨3, 0, none⟩) (trimN (dg (trimN (dg m (V : Int)) + trimN (dg m (V : Int))) (S : Int))) (trimN (dg m (V : Int)) + trimN (dg m (V : Int))), true), (rowX (Q4 b m V (trimN (dg m (V : Int)) + trimN (dg m (V : Int))) S) (some ⟨1, 0, none⟩) (trimN (dg 2 (b : Int))) (2), true), (!decide (trimN (dg (trimN (dg m (V : Int)) + trimN (dg m (V : Int))) (S : Int)) = 0 ∨ trimN (dg 2 (b : Int)) = 0) && Nat.ble (trimN (dg (trimN (dg m (V : Int)) + trimN (dg m (V : Int))) (S : Int)) + trimN (dg 2 (b : Int))) 8192, true), (bitE n i == 1, true), (decide (i < 0), false), (decide (mulR (rowOf (Q3 b m V) (some ⟨2, 0, none⟩) (trimN (dg m (V : Int)))) (rowOf (Q3 b m V) (some ⟨2, 0, none⟩) (trimN (dg m (V : Int)))) = dg (trimN (dg m (V : Int)) + trimN (dg m (V : Int))) (S : Int)), true), (rowX (Q3 b m V) (some ⟨2, 0, none⟩) (trimN (dg m (V : Int))) (m), true), (rowX (Q3 b m V) (some ⟨2, 0, none⟩) (trimN (dg m (V : Int))) (m), true), (!decide (trimN (dg m (V : Int)) = 0 ∨ trimN (dg m (V : Int)) = 0) && Nat.ble (trimN (dg m (V : Int)) + trimN (dg m (V : Int))) 8192, true), (decide (i ≥ 0), true)] := ⟨by kernel_rfl, by kernel_rfl, by kernel_rfl⟩
theorem np_a3 (n i : Int) (b S W : Nat) (g : Nat → Value) : GoesT (evC (tabH Tryz.prog extY conPw hcQ) 100 false (qL Tryz.f76) (qF b n (s32 0 2 1) (s32 1 2 b) i ++ tl 46 g, Q2 b, [cmp true, cmp false, num S, cmp true, cmp false, num W]) ⟨[], [], []⟩) 10 46 none (qF b n (s32 3 (trimN (dg (trimN (dg 2 ((1 : Nat) : Int)) + trimN (dg 2 ((1 : Nat) : Int))) (S : Int)) + trimN (dg 2 (b : Int))) W) (s32 1 2 b) (IntKind.i64.wrap (i - 1))) ⟨4, [w32 (trimN (dg (trimN (dg 2 ((1 : Nat) : Int)) + trimN (dg 2 ((1 : Nat) : Int))) (S : Int)) + trimN (dg 2 (b : Int))) W, w32 (trimN (dg 2 ((1 : Nat) : Int)) + trimN (dg 2 ((1 : Nat) : Int))) S, w32 2 b, w32 2 1]⟩ [(decide (mulR (rowOf (Q3 b (trimN (dg 2 ((1 : Nat) : Int)) + trimN (dg 2 ((1 : Nat) : Int))) S) (some ⟨2, 0, none⟩) (trimN (dg (trimN (dg 2 ((1 : Nat) : Int)) + trimN (dg 2 ((1 : Nat) : Int))) (S : Int)))) (rowOf (Q3 b (trimN (dg 2 ((1 : Nat) : Int)) + trimN (dg 2 ((1 : Nat) : Int))) S) (some ⟨1, 0, none⟩) (trimN (dg 2 (b : Int)))) = dg (trimN (dg (trimN (dg 2 ((1 : Nat) : Int)) + trimN (dg 2 ((1 : Nat) : Int))) (S : Int)) + trimN (dg 2 (b : Int))) (W : Int)), true), (rowX (Q3 b (trimN (dg 2 ((1 : Nat) : Int)) + trimN (dg 2 ((1 : Nat) : Int))) S) (some ⟨2, 0, none⟩) (trimN (dg (trimN (dg 2 ((1 : Nat) : Int)) + trimN (dg 2 ((1 : Nat) : Int))) (S : Int))) (trimN (dg 2 ((1 : Nat) : Int)) + trimN (dg 2 ((1 : Nat) : Int))), true), (rowX (Q3 b (trimN (dg 2 ((1 : Nat) : Int)) + trimN (dg 2 ((1 : Nat) : Int))) S) (some ⟨1, 0, none⟩) (trimN (dg 2 (b : Int))) (2), true), (!decide (trimN (dg (trimN (dg 2 ((1 : Nat) : Int)) + trimN (dg 2 ((1 : Nat) : Int))) (S : Int)) = 0 ∨ trimN (dg 2 (b : Int)) = 0) && Nat.ble (trimN (dg (trimN (dg 2 ((1 : Nat) : Int)) + trimN (dg 2 ((1 : Nat) : Int))) (S : Int)) + trimN (dg 2 (b : Int))) 8192, true), (bitE n i == 1, true), (decide (i < 0), false), (decide (mulR (rowOf (Q2 b) (some ⟨0, 0, none⟩) (trimN (dg 2 ((1 : Nat) : Int)))) (rowOf (Q2 b) (some ⟨0, 0, none⟩) (trimN (dg 2 ((1 : Nat) : Int)))) = dg (trimN (dg 2 ((1 : Nat) : Int)) + trimN (dg 2 ((1 : Nat) : Int))) (S : Int)), true), (rowX (Q2 b) (some ⟨0, 0, none⟩) (trimN (dg 2 ((1 : Nat) : Int))) (2), true), (rowX (Q2 b) (some ⟨0, 0, none⟩) (trimN (dg 2 ((1 : Nat) : Int))) (2), true), (!decide (trimN (dg 2 ((1 : Nat) : Int)) = 0 ∨ trimN (dg 2 ((1 : Nat) : Int)) = 0) && Nat.ble (trimN (dg 2 ((1 : Nat) : Int)) + trimN (dg 2 ((1 : Nat) : Int))) 8192, true), (decide (i ≥ 0), true)] := ⟨by kernel_rfl, by kernel_rfl, by kernel_rfl⟩
theorem np_a4 (n i : Int) (b S : Nat) (g : Nat → Value) : GoesT (evC (tabH Tryz.prog extY conPw hcQ) 100 false (qL Tryz.f76) (qF b n (s32 0 2 1) (s32 1 2 b) i ++ tl 46 g, Q2 b, [cmp true, cmp false, num S, cmp true, cmp true]) ⟨[], [], []⟩) 10 46 none (qF b n nilS (s32 1 2 b) (IntKind.i64.wrap (i - 1))) (Q3 b (trimN (dg 2 ((1 : Nat) : Int)) + trimN (dg 2 ((1 : Nat) : Int))) S) [(decide (trimN (dg (trimN (dg 2 ((1 : Nat) : Int)) + trimN (dg 2 ((1 : Nat) : Int))) (S : Int)) = 0 ∨ trimN (dg 2 (b : Int)) = 0), true), (bitE n i == 1, true), (decide (i < 0), false), (decide (mulR (rowOf (Q2 b) (some ⟨0, 0, none⟩) (trimN (dg 2 ((1 : Nat) : Int)))) (rowOf (Q2 b) (some ⟨0, 0, none⟩) (trimN (dg 2 ((1 : Nat) : Int)))) = dg (trimN (dg 2 ((1 : Nat) : Int)) + trimN (dg 2 ((1 : Nat) : Int))) (S : Int)), true), (rowX (Q2 b) (some ⟨0, 0, none⟩) (trimN (dg 2 ((1 : Nat) : Int))) (2), true), (rowX (Q2 b) (some ⟨0, 0, none⟩) (trimN (dg 2 ((1 : Nat) : Int))) (2), true), (!decide (trimN (dg 2 ((1 : Nat) : Int)) = 0 ∨ trimN (dg 2 ((1 : Nat) : Int)) = 0) && Nat.ble (trimN (dg 2 ((1 : Nat) : Int)) + trimN (dg 2 ((1 : Nat) : Int))) 8192, true), (decide (i ≥ 0), true)] := ⟨by kernel_rfl, by kernel_rfl, by kernel_rfl⟩
theorem np_a5 (n i : Int) (b m V : Nat) (g : Nat → Value) : GoesT (evC (tabH Tryz.prog extY conPw hcQ) 100 false (qL Tryz.f76) (qF b n nilS (s32 1 2 b) i ++ tl 46 g, Q3 b m V, [cmp true, cmp true, cmp false]) ⟨[], [], []⟩) 10 46 none (qF b n nilS (s32 1 2 b) (IntKind.i64.wrap (i - 1))) (Q3 b m V) [(bitE n i == 1, false), (decide (i < 0), false), (decide (0 = 0 ∨ 0 = 0), true), (decide (i ≥ 0), true)] := ⟨by kernel_rfl, by kernel_rfl, by kernel_rfl⟩
theorem np_a6 (n i : Int) (b m V : Nat) (g : Nat → Value) : GoesT (evC (tabH Tryz.prog extY conPw hcQ) 100 false (qL Tryz.f76) (qF b n nilS (s32 1 2 b) i ++ tl 46 g, Q3 b m V, [cmp true, cmp true, cmp true, cmp true]) ⟨[], [], []⟩) 10 46 none (qF b n nilS (s32 1 2 b) (IntKind.i64.wrap (i - 1))) (Q3 b m V) [(decide (0 = 0 ∨ trimN (dg 2 (b : Int)) = 0), true), (bitE n i == 1, true), (decide (i < 0), false), (decide (0 = 0 ∨ 0 = 0), true), (decide (i ≥ 0), true)] := ⟨by kernel_rfl, by kernel_rfl, by kernel_rfl⟩
theorem np_x (n i : Int) (b : Nat) (P O : Value) (h : Hp) (g : Nat → Value) : GoesT (evC (tabH Tryz.prog extY conPw hcQ) 100 false (qL Tryz.f76) (qF b n P O i ++ tl 46 g, h, [cmp false]) ⟨[], [], []⟩) 10 46 (some (some 0)) (qF b n P O i) h [(decide (i ≥ 0), false)] := ⟨by kernel_rfl, by kernel_rfl, by kernel_rfl⟩
theorem np_e (n i : Int) (b : Nat) (P O : Value) (h : Hp) (g : Nat → Value) : GoesT (evC (tabH Tryz.prog extY conPw hcQ) 100 false (qE Tryz.f76) (qF b n P O i ++ tl 46 g, h, []) ⟨[], [], []⟩) 6 50 (some none) [.int .u32 (b : Int), .int .i64 n, .tuple #[], .tuple #[], P, .nilIface] h [] := ⟨by kernel_rfl, by kernel_rfl, by kernel_rfl⟩
/-! ### its numbers -/
def nw (V : Nat) : Nat := (d32 V).length
def pM (b j : Nat) : Nat := if j = 0 then 2 else if j % 2 = 1 then nw (b ^ (j - 1)) + nw b else nw (b ^ (j / 2)) + nw (b ^ (j / 2))
theorem tabQ : TabOk (tabH Tryz.prog extY conPw hcQ) := tabH_ok conPw_ok hcQ_ok
theorem nw_le {V k : Nat} (h : V < 4294967296 ^ k) : nw V ≤ k := db_len (by omega) k V h
theorem nw_lt (V : Nat) : V < 4294967296 ^ nw V := by
  have := vb_lt (b := 4294967296) (by omega) (d32 V) (db_dg (by omega) V)
  rw [show vb 4294967296 (d32 V) = V from vb_db (by omega) V] at this
  exact this
theorem nw_pos {V : Nat} (h : 0 < V) : 0 < nw V := (db_pos_len (by omega)).2 h
theorem nw_zero : nw 0 = 0 := by unfold nw d32; rw [db_zero]; rfl
theorem tn_nw {m V : Nat} (h : V < 4294967296 ^ m) (hm : m ≤ 1000) : trimN (dg m (V : Int)) = nw V :=
  (isRd (H := ⟨1, [w32 m V]⟩) (b := 0) rfl h hm).2.2.2.1
theorem pow_w {b j : Nat} (hb : b < 4294967296) (hj : 1 ≤ j) : b ^ j < 4294967296 ^ j := Nat.pow_lt_pow_left hb (by omega)
theorem nw_pow {b j : Nat} (hb : b < 4294967296) : nw (b ^ j) ≤ j + 1 := by
  by_cases h : 1 ≤ j
  · have := nw_le (pow_w hb h); omega
  · have : j = 0 := by omega
    subst this
    rw [Nat.pow_zero]
    exact nw_le (by decide)
theorem bitE_eq {n i : Nat} (hn : n < 65536) (hi : i < 64) : bitE (n : Int) (i : Int) = ((n / 2 ^ i % 2 : Nat) : Int) := by
  have e : (n : Int).fdiv (2 ^ min (i : Int).toNat 64) = ((n / 2 ^ i : Nat) : Int) := by
    rw [Int.toNat_natCast, show min i 64 = i by omega, Int.fdiv_eq_ediv_of_nonneg _ (Int.le_of_lt (Int.pow_pos (by omega)))]
    simp
  have hl : n / 2 ^ i ≤ n := Nat.div_le_self _ _
  unfold bitE
  rw [e, BitVec.toNat_and, show (BitVec.ofInt 64 1).toNat = 1 from rfl, Nat.and_one_is_mod, BitVec.toNat_ofInt]
  have h2 : ((2 ^ 64 : Nat) : Int) = 18446744073709551616 := rfl
  rw [wrapI (by omega) (by omega)]
  omega
theorem base2 (b : Nat) {h : Hp} (h0 : h.blk? 0 = some (w32 2 1)) (h1 : h.blk? 1 = some (w32 2 b)) : ∀ i x, (⟨2, [w32 2 b, w32 2 1]⟩ : Hp).blk? i = some x → h.blk? i = some x ∧ ∀ v ∈ x.1, still v = true := by
  intro i x hx
  have hi : i < 2 := Hp.blk_lt hx
  match i, hi, hx with
  | 0, _, hx =>
    have e : x = w32 2 1 := (Option.some.inj hx).symm
    subst e
    exact ⟨h0, wU_still _⟩
  | 1, _, hx =>
    have e : x = w32 2 b := (Option.some.inj hx).symm
    subst e
    exact ⟨h1, wU_still _⟩
theorem qF_lt (b n : Int) {P O : Value} (i : Int) (hP : lt 3 P = true) (hO : lt 3 O = true) : ∀ v ∈ qF b n P O i, lt 3 v = true := by
  intro v hv
  unfold qF at hv
  simp only [List.mem_cons, List.not_mem_nil, or_false] at hv
  rcases hv with rfl | rfl | rfl | rfl | rfl | rfl | rfl | rfl | rfl | rfl <;> first | rfl | exact hP | exact hO
/-- what there is with k bits to come -/
def nS (b n k : Nat) (y : Lf) : Prop := ∃ g, (n / 2 ^ k = 0 ∧ y.1 = qF b n (s32 0 2 1) (s32 1 2 b) ((k : Int) - 1) ++ tl 46 g ∧ y.2.1 = Q2 b) ∨
  (1 ≤ n / 2 ^ k ∧ 0 < b ∧ y.1 = qF b n (s32 2 (pM b (n / 2 ^ k)) (b ^ (n / 2 ^ k))) (s32 1 2 b) ((k : Int) - 1) ++ tl 46 g ∧ y.2.1 = Q3 b (pM b (n / 2 ^ k)) (b ^ (n / 2 ^ k))) ∨
  (1 ≤ n / 2 ^ k ∧ b = 0 ∧ ∃ m V, y.1 = qF b n nilS (s32 1 2 b) ((k : Int) - 1) ++ tl 46 g ∧ y.2.1 = Q3 b m V)
/-- powers of a small base, or of a small count, are short enough -/
theorem wd_small {b n : Nat} (hb : b < 4294967296) (hn : n ≤ 300) : ∀ j, j ≤ n → nw (b ^ j) ≤ 400 := fun j hj => by
  have := nw_pow (b := b) (j := j) hb
  omega
theorem wd_ten {n : Nat} (hn : n ≤ 2000) : ∀ j, j ≤ n → nw (10 ^ j) ≤ 400 := fun j hj => by
  have h : (10 : Nat) ^ j < 4294967296 ^ (j / 9 + 1) := by
    refine Nat.lt_of_le_of_lt (Nat.pow_le_pow_right (by omega) (show j ≤ 9 * (j / 9 + 1) by omega)) ?_
    rw [Nat.pow_mul]
    exact Nat.pow_lt_pow_left (by decide) (by omega)
  have := nw_le h
  omega
theorem pM_ok {b j n : Nat} (hw : ∀ j, j ≤ n → nw (b ^ j) ≤ 400) (hb : b < 4294967296) (hj : j ≤ n) (hj0 : 1 ≤ j) : b ^ j < 4294967296 ^ pM b j ∧ pM b j ≤ 1000 := by
  unfold pM
  rw [if_neg (by omega)]
  by_cases h : j % 2 = 1
  · rw [if_pos h]
    have e : b ^ j = b ^ (j - 1) * b := by rw [← Nat.pow_succ]; congr 1; omega
    have l1 := nw_lt (b ^ (j - 1))
    have l2 := nw_lt b
    have k1 := hw (j - 1) (by omega)
    have k2 : nw b ≤ 1 := nw_le (by omega)
    refine ⟨?_, by omega⟩
    rw [e, Nat.pow_add]
    exact Nat.mul_lt_mul'' l1 l2
  · rw [if_neg h]
    have e : b ^ j = b ^ (j / 2) * b ^ (j / 2) := by rw [← Nat.pow_add]; congr 1; omega
    have l1 := nw_lt (b ^ (j / 2))
    have k1 := hw (j / 2) (by omega)
    refine ⟨?_, by omega⟩
    rw [e, Nat.pow_add]
    exact Nat.mul_lt_mul'' l1 l1
theorem nz_ok2 {x y : Nat} (hx : 0 < x) (hy : 0 < y) (h : x + y ≤ 8192) : (!decide (x = 0 ∨ y = 0) && Nat.ble (x + y) 8192) = true := by
  rw [decide_eq_false (by omega), Nat.ble_eq_true_of_le h]
  rfl
theorem np_round {b n k : Nat} (hb : b < 4294967296) (hn : n ≤ 2000) (hw : ∀ j, j ≤ n → nw (b ^ j) ≤ 400) (hk : k ≤ 20) {y : Lf} (h : nS b n (k + 1) y) (ht : n / 2 ^ (k + 1) = 0 → n / 2 ^ k % 2 = 1) : RunsW (tabH Tryz.prog extY conPw hcQ) (qL Tryz.f76) y fun e z => e = none ∧ nS b n k z := by
  obtain ⟨t, h', s⟩ := y
  obtain ⟨i, hi⟩ : ∃ i : Int, i = ((k + 1 : Nat) : Int) - 1 := ⟨_, rfl⟩
  have hik : i = (k : Int) := by omega
  have hi0 : i ≥ 0 := by omega
  have hiF : decide (i < 0) = false := decide_eq_false (by omega)
  have ei : IntKind.i64.wrap (i - 1) = (k : Int) - 1 := by rw [wrapI (by omega) (by omega)]; omega
  have eb : bitE (n : Int) i = ((n / 2 ^ k % 2 : Nat) : Int) := by rw [hik]; exact bitE_eq (by omega) (by omega)
  have dd : n / 2 ^ k = 2 * (n / 2 ^ (k + 1)) + n / 2 ^ k % 2 := by
    rw [Nat.pow_succ, ← Nat.div_div_eq_div_mul]
    omega
  have jn : n / 2 ^ k ≤ n := Nat.div_le_self _ _
  have kb : nw b ≤ 1 := nw_le (by omega)
  have tb := tn_nw (m := 2) (V := b) (by have : (4294967296 : Nat) ^ 2 = 18446744073709551616 := rfl; omega) (by omega)
  have lt1 : KRun.lt 3 (s32 1 2 b) = true := rfl
  have bN : b < 4294967296 ^ 2 := by have : (4294967296 : Nat) ^ 2 = 18446744073709551616 := rfl; omega
  generalize hj : n / 2 ^ (k + 1) = j at *
  generalize hj' : n / 2 ^ k = j' at *
  obtain ⟨g, hy⟩ := h
  rw [hj] at hy
  rcases hy with ⟨j0, ht', hh⟩ | ⟨j1, b0, ht', hh⟩ | ⟨j1, b0, m, V, ht', hh⟩
  · have hbit := ht j0
    have j'1 : j' = 1 := by omega
    simp only at ht' hh
    rw [← hi] at ht'
    subst ht' hh
    have hbt : (bitE (n : Int) i == 1) = true := by rw [eb, hbit]; rfl
    have n1 : trimN (dg 2 ((1 : Nat) : Int)) = 1 := by decide
    have r1 := isRd (H := Q2 b) (b := 0) (V := 1) (m := 2) rfl (by decide) (by omega)
    have z1 : (!decide (trimN (dg 2 ((1 : Nat) : Int)) = 0 ∨ trimN (dg 2 ((1 : Nat) : Int)) = 0) && Nat.ble (trimN (dg 2 ((1 : Nat) : Int)) + trimN (dg 2 ((1 : Nat) : Int))) 8192) = true := nz_ok2 (by omega) (by omega) (by omega)
    by_cases b0 : 0 < b
    · have e2 : trimN (dg (trimN (dg 2 ((1 : Nat) : Int)) + trimN (dg 2 ((1 : Nat) : Int))) ((1 : Nat) : Int)) = 1 := by decide
      have r2 := isRd (H := Q3 b (trimN (dg 2 ((1 : Nat) : Int)) + trimN (dg 2 ((1 : Nat) : Int))) 1) (b := 2) (V := 1) (m := trimN (dg 2 ((1 : Nat) : Int)) + trimN (dg 2 ((1 : Nat) : Int))) rfl (by decide) (by omega)
      have r3 := isRd (H := Q3 b (trimN (dg 2 ((1 : Nat) : Int)) + trimN (dg 2 ((1 : Nat) : Int))) 1) (b := 1) (V := b) (m := 2) rfl bN (by omega)
      have pb := nw_pos b0
      have hg := np_a3 n i b 1 (1 * b) g
      rw [ei] at hg
      have z2 := nz_ok2 (x := trimN (dg (trimN (dg 2 ((1 : Nat) : Int)) + trimN (dg 2 ((1 : Nat) : Int))) ((1 : Nat) : Int))) (y := trimN (dg 2 (b : Int))) (by omega) (by omega) (by omega)
      have hp : pM b 1 = trimN (dg (trimN (dg 2 ((1 : Nat) : Int)) + trimN (dg 2 ((1 : Nat) : Int))) ((1 : Nat) : Int)) + trimN (dg 2 (b : Int)) := by
        rw [e2, tb]
        unfold pM
        rw [if_neg (by omega), if_pos (by omega), Nat.sub_self, Nat.pow_zero]
        rw [show nw 1 = 1 from by
          have := tn_nw (m := 2) (V := 1) (by decide) (by omega)
          rw [← this]
          exact n1]
      have run := goesT_runsW (s0 := s) tabQ hg (okCons (rMul r2 r3) (okCons (rX r2) (okCons (rX r3) (okCons z2 (okCons hbt (okCons hiF (okCons (rMul r1 r1) (okCons (rX r1) (okCons (rX r1) (okCons z1 (okL1 (decide_eq_true hi0))))))))))))
      rw [← hp, Nat.one_mul] at run
      have := run.kept (k := 2) (b := 3) (base := [w32 2 b, w32 2 1]) (y := w32 (pM b 1) b) (front' := qF b n (s32 2 (pM b 1) b) (s32 1 2 b) ((k : Int) - 1)) rfl (by kernel_rfl) (base2 b rfl rfl) rfl (by omega) (wU_still _) (qF_lt _ _ _ rfl rfl)
      refine this.mono fun e z hz => ?_
      obtain ⟨rfl, ⟨g', e1⟩, e2'⟩ := hz
      refine ⟨rfl, g', .inr (.inl ⟨by omega, b0, ?_, ?_⟩)⟩
      · rw [hj', j'1, Nat.pow_one]; exact e1
      · rw [hj', j'1, Nat.pow_one]; exact e2'
    · have bz : b = 0 := by omega
      have hg := np_a4 n i b 1 g
      rw [ei] at hg
      have run := goesT_runsW (s0 := s) tabQ hg (okCons (decide_eq_true (.inr (by rw [tb, bz, nw_zero]))) (okCons hbt (okCons hiF (okCons (rMul r1 r1) (okCons (rX r1) (okCons (rX r1) (okCons z1 (okL1 (decide_eq_true hi0)))))))))
      refine run.mono fun e z hz => ?_
      obtain ⟨rfl, ⟨g', e1⟩, e2'⟩ := hz
      exact ⟨rfl, g', .inr (.inr ⟨by rw [hj']; omega, bz, _, _, e1, e2'⟩)⟩
  · simp only at ht' hh
    rw [← hi] at ht'
    have hm : pM b j = pM b j := rfl
    obtain ⟨m, em⟩ : ∃ m, m = pM b j := ⟨_, rfl⟩
    obtain ⟨V, eV⟩ : ∃ V, V = b ^ j := ⟨_, rfl⟩
    rw [← em, ← eV] at ht' hh
    obtain ⟨p1, p2⟩ := pM_ok hw hb (show j ≤ n by omega) j1
    rw [← em, ← eV] at p1
    rw [← em] at p2
    subst ht' hh
    have V0 : 0 < V := by rw [eV]; exact Nat.pow_pos b0
    have tV := tn_nw p1 p2
    have pV := nw_pos V0
    have lV : nw V ≤ 400 := by rw [eV]; exact hw j (by omega)
    have r1 := isRd (H := Q3 b m V) (b := 2) (V := V) (m := m) rfl p1 p2
    have z1 := nz_ok2 (x := trimN (dg m (V : Int))) (y := trimN (dg m (V : Int))) (by omega) (by omega) (by omega)
    have eS : V * V = b ^ (2 * j) := by rw [eV, ← Nat.pow_add]; congr 1; omega
    by_cases hbit : j' % 2 = 1
    · have hbt : (bitE (n : Int) i == 1) = true := by rw [eb, hbit]; rfl
      have j'e : j' = 2 * j + 1 := by omega
      have pb := nw_pos b0
      obtain ⟨S, hS⟩ : ∃ S, S = V * V := ⟨_, rfl⟩
      have sB : S < 4294967296 ^ (trimN (dg m (V : Int)) + trimN (dg m (V : Int))) := by
        rw [hS, Nat.pow_add, tV]
        exact Nat.mul_lt_mul'' (nw_lt V) (nw_lt V)
      have sm : trimN (dg m (V : Int)) + trimN (dg m (V : Int)) ≤ 1000 := by omega
      have tS := tn_nw sB sm
      have S0 : 0 < S := by rw [hS]; exact Nat.mul_pos V0 V0
      have pS := nw_pos S0
      have lS : nw S ≤ 400 := by rw [hS, eS]; exact hw (2 * j) (by omega)
      have r2 := isRd (H := Q4 b m V (trimN (dg m (V : Int)) + trimN (dg m (V : Int))) S) (b := 3) (V := S) (m := trimN (dg m (V : Int)) + trimN (dg m (V : Int))) rfl sB sm
      have r3 := isRd (H := Q4 b m V (trimN (dg m (V : Int)) + trimN (dg m (V : Int))) S) (b := 1) (V := b) (m := 2) rfl bN (by omega)
      have z2 := nz_ok2 (x := trimN (dg (trimN (dg m (V : Int)) + trimN (dg m (V : Int))) (S : Int))) (y := trimN (dg 2 (b : Int))) (by omega) (by omega) (by omega)
      have rm := rMul r1 r1
      rw [← hS] at rm
      have hg := np_a2 n i b m V S (S * b) g
      rw [ei] at hg
      have hp : pM b j' = trimN (dg (trimN (dg m (V : Int)) + trimN (dg m (V : Int))) (S : Int)) + trimN (dg 2 (b : Int)) := by
        rw [tS, tb]
        unfold pM
        rw [if_neg (by omega), if_pos hbit, hS, eS, j'e, Nat.add_sub_cancel]
      have run := goesT_runsW (s0 := s) tabQ hg (okCons (rMul r2 r3) (okCons (rX r2) (okCons (rX r3) (okCons z2 (okCons hbt (okCons hiF (okCons rm (okCons (rX r1) (okCons (rX r1) (okCons z1 (okL1 (decide_eq_true hi0))))))))))))
      have hW : S * b = b ^ j' := by rw [hS, eS, j'e, Nat.pow_succ]
      rw [← hp, hW] at run
      have := run.kept (k := 2) (b := 4) (base := [w32 2 b, w32 2 1]) (y := w32 (pM b j') (b ^ j')) (front' := qF b n (s32 2 (pM b j') (b ^ j')) (s32 1 2 b) ((k : Int) - 1)) rfl (by kernel_rfl) (base2 b rfl rfl) rfl (by omega) (wU_still _) (qF_lt _ _ _ rfl rfl)
      refine this.mono fun e z hz => ?_
      obtain ⟨rfl, ⟨g', e1⟩, e2'⟩ := hz
      refine ⟨rfl, g', .inr (.inl ⟨by omega, b0, ?_, ?_⟩)⟩
      · rw [hj']; exact e1
      · rw [hj']; exact e2'
    · have hbt : (bitE (n : Int) i == 1) = false := by rw [eb, show j' % 2 = 0 by omega]; rfl
      have j'e : j' = 2 * j := by omega
      have hg := np_a1 n i b m V (V * V) g
      rw [ei] at hg
      have hp : pM b j' = trimN (dg m (V : Int)) + trimN (dg m (V : Int)) := by
        rw [tV, eV]
        unfold pM
        rw [if_neg (by omega), if_neg hbit, j'e, Nat.mul_div_cancel_left _ (by omega)]
      have run := goesT_runsW (s0 := s) tabQ hg (okCons hbt (okCons hiF (okCons (rMul r1 r1) (okCons (rX r1) (okCons (rX r1) (okCons z1 (okL1 (decide_eq_true hi0))))))))
      have hW : V * V = b ^ j' := by rw [eS, j'e]
      rw [← hp, hW] at run
      have := run.kept (k := 2) (b := 3) (base := [w32 2 b, w32 2 1]) (y := w32 (pM b j') (b ^ j')) (front' := qF b n (s32 2 (pM b j') (b ^ j')) (s32 1 2 b) ((k : Int) - 1)) rfl (by kernel_rfl) (base2 b rfl rfl) rfl (by omega) (wU_still _) (qF_lt _ _ _ rfl rfl)
      refine this.mono fun e z hz => ?_
      obtain ⟨rfl, ⟨g', e1⟩, e2'⟩ := hz
      refine ⟨rfl, g', .inr (.inl ⟨by omega, b0, ?_, ?_⟩)⟩
      · rw [hj']; exact e1
      · rw [hj']; exact e2'
  · simp only at ht' hh
    rw [← hi] at ht'
    subst ht' hh
    by_cases hbit : j' % 2 = 1
    · have hbt : (bitE (n : Int) i == 1) = true := by rw [eb, hbit]; rfl
      have hg := np_a6 n i b m V g
      rw [ei] at hg
      refine (goesT_runsW (s0 := s) tabQ hg (okCons (decide_eq_true (.inl rfl)) (okCons hbt (okCons hiF (okCons (by decide) (okL1 (decide_eq_true hi0))))))).mono fun e z hz => ?_
      obtain ⟨rfl, ⟨g', e1⟩, e2'⟩ := hz
      exact ⟨rfl, g', .inr (.inr ⟨by rw [hj']; omega, b0, m, V, e1, e2'⟩)⟩
    · have hbt : (bitE (n : Int) i == 1) = false := by rw [eb, show j' % 2 = 0 by omega]; rfl
      have hg := np_a5 n i b m V g
      rw [ei] at hg
      refine (goesT_runsW (s0 := s) tabQ hg (okCons hbt (okCons hiF (okCons (by decide) (okL1 (decide_eq_true hi0)))))).mono fun e z hz => ?_
      obtain ⟨rfl, ⟨g', e1⟩, e2'⟩ := hz
      exact ⟨rfl, g', .inr (.inr ⟨by rw [hj']; omega, b0, m, V, e1, e2'⟩)⟩
end Go.Proofs.YtgefjidphfdhdaaGreatDoor.Na
namespace Go.Proofs.YtgefjidphfdhdaaGreatDoor.Na
open Go.KRun Go.Nt
set_option maxRecDepth 100000
def fN (k : Int) (e : Value) : List Value := [nilS, i6' k, undef, undef, nilS, e]
theorem shlN_neg (k : Int) : GoesT (evC (tabH Tryz.prog extY conN hcS) 200 false (cBody Tryz.f77) ([nilS, i6' k] ++ List.replicate 45 undef, ⟨0, []⟩, [cmp true]) ⟨[], [], []⟩) 6 41 (some none) (fN k (errV 1)) ⟨0, []⟩ [(decide (k < 0), true)] := ⟨by kernel_rfl, by kernel_rfl, by kernel_rfl⟩
theorem shlN_nil (k : Int) : GoesT (evC (tabH Tryz.prog extY conN hcS) 200 false (cBody Tryz.f77) ([nilS, i6' k] ++ List.replicate 45 undef, ⟨0, []⟩, [cmp false]) ⟨[], [], []⟩) 6 41 (some none) (fN k .nilIface) ⟨0, []⟩ [(decide (k < 0), false)] := ⟨by kernel_rfl, by kernel_rfl, by kernel_rfl⟩
def shlE (d : Bool) : Value := match d with | true => errV 1 | false => .nilIface
theorem shlN_runs (k : Int) (d : Bool) (hd : decide (k < 0) = d) : Runs (tabH Tryz.prog extY conN hcS) (cBody Tryz.f77) ([nilS, i6' k] ++ List.replicate 45 undef, ⟨0, []⟩, []) fun e' y => (e' = none ∨ e' = some none) ∧ resS Tryz.prog Tryz.f77 y.1 y.2.1 = some (.tuple #[nilS, shlE d]) := by
  cases d with
  | true =>
    refine (goesT_runs (tabH_ok conN_ok hcS_ok) (shlN_neg k) (okOne hd)).mono fun e' y he => ?_
    obtain ⟨rfl, ⟨g, e2⟩, e3⟩ := he
    refine ⟨.inr rfl, ?_⟩
    rw [e2, e3]
    rfl
  | false =>
    refine (goesT_runs (tabH_ok conN_ok hcS_ok) (shlN_nil k) (okOne hd)).mono fun e' y he => ?_
    obtain ⟨rfl, ⟨g, e2⟩, e3⟩ := he
    refine ⟨.inr rfl, ?_⟩
    rw [e2, e3]
    rfl
def gShlX : AnsH := fun vals h s =>
  match vals with
  | [.slice none 0 0, .int .i64 k] =>
    match s with
    | .inr (.inr (.inr (.inl d))) :: s' => some (.tuple #[nilS, shlE d], h, s', [(decide (k < 0), d)])
    | _ => none
  | _ => gShl vals h s
theorem gShlX_ok : AnsHOk 77 gShlX := by
  intro vals h s v h' s' lg hg hl m B w E hv
  unfold gShlX at hg
  split at hg
  · rename_i k
    split at hg
    · rename_i d s2
      cases hg
      have hd := hl _ (List.mem_singleton.2 rfl)
      have e0 : rn (fun b => b) (.tuple #[nilS, shlE d]) = .tuple #[nilS, shlE d] := by cases d <;> exact rn_still (by rfl)
      have := row_calls (T := tabH Tryz.prog extY conN hcS) Tryz.func77 shl_body (h0 := ⟨0, []⟩) ⟨rfl, fun b x hb => absurd (Hp.blk_lt hb) (Nat.not_lt_zero _)⟩ (vals := [nilS, i6' k]) (fun v hv => by
        simp only [List.mem_cons, List.not_mem_nil, or_false] at hv
        rcases hv with rfl | rfl <;> rfl) (by cases d <;> rfl) (shlN_runs k d hd) E (s := fun b => b) (fun i hi => absurd hi (Nat.not_lt_zero _)) (fun i x hi => absurd (Hp.blk_lt hi) (Nat.not_lt_zero _))
      rw [e0] at this
      exact this.mono fun e w' he => ⟨m, he.1, he.2⟩
    · cases hg
  · exact gShl_ok _ _ _ _ _ _ _ hg hl m B w E hv
end Go.Proofs.YtgefjidphfdhdaaGreatDoor.Na
namespace Go.Proofs.YtgefjidphfdhdaaGreatDoor.Na
open Go.KRun Go.Nt
set_option maxRecDepth 100000
set_option linter.unusedVariables false
def sM (n : Nat) (k : Int) : Nat := k.toNat / 32 + (n + 1)
def gShlT : AnsH := fun vals h s =>
  match vals, s with
  | [.slice p n c, .int .i64 k], .inr (.inr (.inr (.inl true))) :: s' => some (.tuple #[nilS, errV 1], h, s', [(rowX h p n c, true), (badL (rowOf h p n) || decide (k < 0), true)])
  | [.slice p n c, .int .i64 k], .inr (.inr (.inr (.inl false))) :: .inr (.inr (.inr (.inl true))) :: s' => some (.tuple #[nilS, .nilIface], h, s', [(rowX h p n c, true), (badL (rowOf h p n) || decide (k < 0), false), (decide (n = 0), true)])
  | [.slice p n c, .int .i64 k], .inr (.inr (.inr (.inl false))) :: .inr (.inr (.inr (.inl false))) :: .inr (.inr (.inr (.inl true))) :: s' => some (.tuple #[nilS, errV 2], h, s', [(rowX h p n c, true), (badL (rowOf h p n) || decide (k < 0), false), (decide (n = 0), false), (decide (k > 262144 - lenN (rowOf h p n)), true)])
  | [.slice p n c, .int .i64 k], .inr (.inr (.inr (.inl false))) :: .inr (.inr (.inr (.inl false))) :: .inr (.inr (.inr (.inl false))) :: .inr (.inl V) :: s' => some (.tuple #[sl h.n 0 (trimN (dg (sM n k) V)) (sM n k), .nilIface], h.push (wU (dg (sM n k) V)) tU, s', [(decide (shlR (rowOf h p n) k.toNat = dg (sM n k) V), true), (rowX h p n c, true), (badL (rowOf h p n) || decide (k < 0), false), (decide (n = 0), false), (decide (k > 262144 - lenN (rowOf h p n)), false)])
  | _, _ => none
theorem gShlT_ok : AnsHOk 77 gShlT := by
  intro vals h s v h' s' lg hg hl m B w E hv
  unfold gShlT at hg
  split at hg
  · rename_i p n c k s2
    cases hg
    have l1 := hl _ (List.mem_cons_self)
    have l2 := hl _ (List.mem_cons_of_mem _ (List.mem_singleton.2 rfl))
    simp only at l1 l2
    rcases rowX_cases l1 with ⟨rfl, rfl, rfl, e0⟩ | ⟨b, o, x, rfl, hx, r1, e0⟩ <;> rw [e0] at l2
    · rw [badL_nil, Bool.false_or] at l2
      exact gShlX_ok _ h [cmp true] _ _ [] [(decide (k < 0), true)] rfl (okL1 l2) m B w E hv
    · exact gShlX_ok _ h [cmp true] _ _ [] [(rowOk x.2 x.1 o n c, true), (badL (cutI x.1 o n) || decide (k < 0), true)] (by simp only [gShlX, gShl, hx]) (okCons r1 (okL1 l2)) m B w E hv
  · rename_i p n c k s2
    cases hg
    have l1 := hl _ (List.mem_cons_self)
    have l2 := hl _ (List.mem_cons_of_mem _ List.mem_cons_self)
    have l3 := hl _ (List.mem_cons_of_mem _ (List.mem_cons_of_mem _ (List.mem_singleton.2 rfl)))
    simp only at l1 l2 l3
    rcases rowX_cases l1 with ⟨rfl, rfl, rfl, e0⟩ | ⟨b, o, x, rfl, hx, r1, e0⟩ <;> rw [e0] at l2
    · rw [badL_nil, Bool.false_or] at l2
      exact gShlX_ok _ h [cmp false] _ _ [] [(decide (k < 0), false)] rfl (okL1 l2) m B w E hv
    · exact gShlX_ok _ h [cmp false, cmp true] _ _ [] [(rowOk x.2 x.1 o n c, true), (badL (cutI x.1 o n) || decide (k < 0), false), (decide (n = 0), true)] (by simp only [gShlX, gShl, hx]) (okCons r1 (okCons l2 (okL1 l3))) m B w E hv
  · rename_i p n c k s2
    cases hg
    have l1 := hl _ (List.mem_cons_self)
    have l2 := hl _ (List.mem_cons_of_mem _ List.mem_cons_self)
    have l3 := hl _ (List.mem_cons_of_mem _ (List.mem_cons_of_mem _ List.mem_cons_self))
    have l4 := hl _ (List.mem_cons_of_mem _ (List.mem_cons_of_mem _ (List.mem_cons_of_mem _ (List.mem_singleton.2 rfl))))
    simp only at l1 l2 l3 l4
    rcases rowX_cases l1 with ⟨rfl, rfl, rfl, e0⟩ | ⟨b, o, x, rfl, hx, r1, e0⟩
    · exact absurd rfl (of_decide_eq_false l3)
    · rw [e0] at l2 l4
      exact gShlX_ok _ h [cmp false, cmp false, cmp true] _ _ [] [(rowOk x.2 x.1 o n c, true), (badL (cutI x.1 o n) || decide (k < 0), false), (decide (n = 0), false), (decide (k > 262144 - lenN (cutI x.1 o n)), true)] (by simp only [gShlX, gShl, hx]) (okCons r1 (okCons l2 (okCons l3 (okL1 l4)))) m B w E hv
  · rename_i p n c k V s2
    cases hg
    have l0 := of_decide_eq_true (hl _ (List.mem_cons_self))
    have l1 := hl _ (List.mem_cons_of_mem _ List.mem_cons_self)
    have l2 := hl _ (List.mem_cons_of_mem _ (List.mem_cons_of_mem _ List.mem_cons_self))
    have l3 := hl _ (List.mem_cons_of_mem _ (List.mem_cons_of_mem _ (List.mem_cons_of_mem _ List.mem_cons_self)))
    have l4 := hl _ (List.mem_cons_of_mem _ (List.mem_cons_of_mem _ (List.mem_cons_of_mem _ (List.mem_cons_of_mem _ (List.mem_singleton.2 rfl)))))
    simp only at l1 l2 l3 l4
    rcases rowX_cases l1 with ⟨rfl, rfl, rfl, e0⟩ | ⟨b, o, x, rfl, hx, r1, e0⟩
    · exact absurd rfl (of_decide_eq_false l3)
    · rw [e0] at l0 l2 l4
      rw [← l0]
      exact gShlX_ok _ h [cmp false, cmp false, cmp false] _ _ [] [(rowOk x.2 x.1 o n c, true), (badL (cutI x.1 o n) || decide (k < 0), false), (decide (n = 0), false), (decide (k > 262144 - lenN (cutI x.1 o n)), false)] (by simp only [gShlX, gShl, hx]; rfl) (okCons r1 (okCons l2 (okCons l3 (okL1 l4)))) m B w E hv
  · cases hg
end Go.Proofs.YtgefjidphfdhdaaGreatDoor.Na
