/-
  The document's quotient and rest (tillerref02.Parts), as a contract: two rows that are numbers, none of them 0 words long.
-/
import Derived.Test.YtbcpnpchioncbaaG29
import Derived.Test.YtbcpnpchioncbaaG26
import Derived.Test.YtbcpnpchioncbaaG20
namespace Go.Proofs.Ytbcpnpchioncbaa
open Go.KRun Go.Nt
set_option maxRecDepth 100000
set_option linter.unusedVariables false

section
variable {la lb : List Value} {o c o' c' : Nat} {A L : List Int}
def okV (v10 v11 : Value) : Prop := KRun.lt 4 v10 = true ∧ KRun.lt 4 v11 = true ∧ (∀ k b : Nat, rn (keepK k b) v10 = v10) ∧ (∀ k b : Nat, rn (keepK k b) v11 = v11)
def pNum (A L : List Int) (i V : Nat) (Q : List Int) : Prop := i ≤ A.length ∧ Q.length = A.length ∧ (∀ x ∈ Q, Dg 65536 x) ∧ (∀ j, j < i → Q.getD j 0 = 0) ∧ vb 65536 (A.drop i) = vb 65536 (Q.drop i) * vb 65536 L + V ∧ V < vb 65536 L
def pInv (o c o' c' : Nat) (la lb : List Value) (A L : List Int) (i : Nat) (z : Lf) : Prop :=
  ∃ V Q, pNum A L i V Q ∧ ∃ v10 v11 r, okV v10 v11 ∧ (∃ g, z.1 = pFr o A.length c o' L.length c' A.length r (((i : Nat) : Int) - 1) v10 v11 ++ tl 83 g) ∧ rIn V Q la lb r z.2.1 ∧ (i < A.length → r = sl 3 0 (d16 V).length (d16 V).length ∧ z.2.1 = hB4 (wU (d16 V)) (wU Q) lb la)
theorem pNum_step (H : Two la lb o o' c' A L) {k V : Nat} {Q : List Int} (h : pNum A L (k + 1) V Q) : pNum A L k (((A.getD k 0).toNat + 65536 * V) % vb 65536 L) (if (A.getD k 0).toNat + 65536 * V < vb 65536 L then Q else Q.set k ((((A.getD k 0).toNat + 65536 * V) / vb 65536 L : Nat) : Int)) := by
  obtain ⟨h1, h2, h3, h4, h5, h6⟩ := h
  have hB := H.bnd.2.2
  have hd := at_dg H.dA k
  have hA : vb 65536 (A.drop k) = (A.getD k 0).toNat + 65536 * vb 65536 (A.drop (k + 1)) := vb_dropP (by omega)
  obtain ⟨W, hW⟩ : ∃ W, W = (A.getD k 0).toNat + 65536 * V := ⟨_, rfl⟩
  have hWB : W < 65536 * vb 65536 L := by
    have := hd.2
    have := hd.1
    have h3 : 65536 * V + 65536 ≤ 65536 * vb 65536 L := by
      have := Nat.mul_le_mul_left 65536 (Nat.succ_le_of_lt h6)
      rw [Nat.mul_succ] at this
      exact this
    omega
  have hq : W / vb 65536 L < 65536 := by rw [Nat.div_lt_iff_lt_mul hB]; exact hWB
  have hdm := Nat.div_add_mod W (vb 65536 L)
  have hml := Nat.mod_lt W hB
  rw [← hW]
  have hk : k < Q.length := by omega
  have hQ : vb 65536 (Q.drop k) = (Q.getD k 0).toNat + 65536 * vb 65536 (Q.drop (k + 1)) := vb_dropP hk
  have key : ∀ q : Nat, vb 65536 (A.drop k) = (q + 65536 * vb 65536 (Q.drop (k + 1))) * vb 65536 L + (W - q * vb 65536 L) ↔ q * vb 65536 L ≤ W ∨ vb 65536 (A.drop k) = (q + 65536 * vb 65536 (Q.drop (k + 1))) * vb 65536 L + (W - q * vb 65536 L) := fun q => by
    refine ⟨.inr, fun h => h.elim (fun h => ?_) id⟩
    rw [hA, h5, Nat.add_mul, Nat.mul_add, Nat.mul_assoc]
    omega
  by_cases hlt : W < vb 65536 L
  · rw [if_pos hlt, Nat.mod_eq_of_lt hlt]
    refine ⟨by omega, h2, h3, fun j hj => h4 j (by omega), ?_, hlt⟩
    have h0 : (Q.getD k 0).toNat = 0 := by rw [h4 k (by omega)]; rfl
    rw [hQ, h0]
    have := (key 0).2 (.inl (by omega))
    rw [Nat.zero_mul, Nat.sub_zero] at this
    exact this
  · rw [if_neg hlt]
    refine ⟨by omega, by rw [List.length_set]; exact h2, set_dg h3 ⟨Int.natCast_nonneg _, by omega⟩ k, fun j hj => ?_, ?_, hml⟩
    · have := h4 j (by omega)
      simp only [List.getD] at *
      rw [List.getElem?_set_ne (by omega)]
      exact this
    · have hk' : k < (Q.set k ((W / vb 65536 L : Nat) : Int)).length := by rw [List.length_set]; exact hk
      have e1 : ((Q.set k ((W / vb 65536 L : Nat) : Int)).getD k 0).toNat = W / vb 65536 L := by
        simp only [List.getD, List.getElem?_set_self hk, Option.getD_some, Int.toNat_natCast]
      have e2 : (Q.set k ((W / vb 65536 L : Nat) : Int)).drop (k + 1) = Q.drop (k + 1) := by rw [List.drop_set_of_lt (by omega)]
      rw [vb_dropP hk', e1, e2]
      have e3 : W % vb 65536 L = W - W / vb 65536 L * vb 65536 L := by rw [Nat.mul_comm] at hdm; omega
      rw [e3]
      exact (key _).2 (.inl (by rw [Nat.mul_comm] at hdm; omega))
theorem pa_outer (H : Two la lb o o' c' A L) {z0 : Lf} (h0 : pInv o c o' c' la lb A L A.length z0) :
    RunsW (tabH Try.prog extY conN hcP) (.block 0 (.loop (paL Try.f25))) z0 fun e z => match e with | none => pInv o c o' c' la lb A L 0 z | some none => False | some (some _) => False := by
  refine RunsW.forLoop (P := pInv o c o' c' la lb A L 0) (R := fun _ => False) (pInv o c o' c' la lb A L) ?_ h0
  rintro m ⟨t, h', s⟩ hI
  obtain ⟨V, Q, hn, v10, v11, r, hv, ⟨g, ht⟩, hr, hrow⟩ := hI
  simp only at ht hr hrow
  subst ht
  cases m with
  | zero =>
    have e0 : (((0 : Nat) : Int) - 1) = -1 := rfl
    rw [pa_loop]
    refine RunsW.seq (goesT_runsW T0_ok (pa_h0 o A.length c o' L.length c' A.length r v10 v11 (((0 : Nat) : Int) - 1) h' g) (okL1 (decide_eq_false (by omega)))) (fun y hy => by cases hy.1) (fun e y hy => ?_)
    obtain ⟨e1, z1, z2⟩ := hy
    cases e1
    exact ⟨rfl, V, Q, hn, v10, v11, r, hv, z1, by rw [z2]; exact hr, fun hl => by rw [z2]; exact hrow hl⟩
  | succ k =>
    have hk : k < A.length := by have := hn.1; omega
    have ek : (((k + 1 : Nat) : Int) - 1) = ((k : Nat) : Int) := by omega
    rw [ek]
    have hn' := pNum_step H hn
    refine (pa_round (c := c) H hn.2.2.2.2.2 (Q := Q) hn.2.1 hk hv hr g s).mono fun e z hz => ?_
    obtain ⟨rfl, V', Q', hV', hQ', u10, u11, hu, z1, z2⟩ := hz
    rw [hV'] at hQ' z1 z2
    rw [← hQ'] at hn'
    exact ⟨k, by omega, _, Q', hn', u10, u11, _, hu, z1, .inr ⟨rfl, z2⟩, fun _ => ⟨rfl, z2⟩⟩
theorem pa_runs (H : Two la lb o o' c' A L) :
    RunsW (tabH Try.prog extY conN hcP) (seqs (paP Try.f25) (.seq (.seq (cFst (paB Try.f25)) (.block 0 (.loop (paL Try.f25)))) (paE Try.f25))) ([sl 0 o A.length c, sl 1 o' L.length c'] ++ List.replicate 93 undef, h2 la lb, []) fun e z => (e = none ∨ e = some none) ∧ ∃ k j, k ≠ j ∧ resS Try.prog Try.f25 z.1 z.2.1 = some (.tuple #[sl k 0 (d16 (vb 65536 A / vb 65536 L)).length (d16 (vb 65536 A / vb 65536 L)).length, sl j 0 (d16 (vb 65536 A % vb 65536 L)).length (d16 (vb 65536 A % vb 65536 L)).length]) ∧ (∃ r, z.2.1.blk? k = some (wU (d16 (vb 65536 A / vb 65536 L)) ++ r, tU)) ∧ ∃ r, z.2.1.blk? j = some (wU (d16 (vb 65536 A % vb 65536 L)) ++ r, tU) := by
  have a2 := H.a2
  have a1 := H.a1
  have hB := H.bnd.2.2
  have mk : okMakeB 4 ((A.length : Nat) : Int) ((A.length : Nat) : Int) = true := by unfold okMakeB; exact decide_eq_true (by omega)
  refine goesT_listW T0_ok (pa_pre o A.length c o' L.length c' la lb) (okOne mk) fun g => ?_
  rw [Int.toNat_natCast]
  have ew : List.replicate A.length (Value.int .u32 0) = wU (List.replicate A.length 0) := by unfold wU; rw [List.map_replicate]
  rw [ew]
  have e1 : IntKind.i64.wrap ((A.length : Int) - 1) = ((A.length : Nat) : Int) - 1 := wrapI (by omega) (by omega)
  refine RunsW.seq (P1 := fun e z => e = none ∧ pInv o c o' c' la lb A L 0 z) ?_ ?_ (fun e y hy => by cases hy.1)
  · have g4 := pa_r4 o A.length c o' L.length c' A.length nilS undef undef undef (hB3 (wU (List.replicate A.length 0)) lb la) g
    rw [e1] at g4
    refine RunsW.next (goesT_runsW T0_ok g4 (fun x hx => by cases hx)) fun g s => ?_
    refine (pa_outer H ⟨0, List.replicate A.length 0, ⟨Nat.le_refl _, by simp, fun x hx => ?_, fun j _ => ?_, ?_, hB⟩, undef, undef, nilS, ⟨rfl, rfl, fun k b => by kernel_rfl, fun k b => by kernel_rfl⟩, ⟨g, rfl⟩, .inl ⟨rfl, rfl, rfl⟩, fun h => absurd h (Nat.lt_irrefl _)⟩).mono fun e z hz => ?_
    · rw [List.eq_of_mem_replicate hx]; exact ⟨by omega, by omega⟩
    · simp only [List.getD, List.getElem?_replicate]
      split <;> rfl
    · rw [List.drop_of_length_le (Nat.le_refl _), List.drop_of_length_le (by simp)]
      simp [vb]
    · match e, hz with
      | none, hz => exact ⟨rfl, hz⟩
      | some none, hz => exact hz.elim
      | some (some _), hz => exact hz.elim
  · rintro ⟨t, h', s⟩ ⟨_, V, Q, hn, v10, v11, r, hv, ⟨g, ht⟩, hr, hrow⟩
    obtain ⟨e2, e3⟩ := hrow (by omega)
    simp only at ht e3
    subst ht e2 e3
    obtain ⟨_, q1, q2, _, q4, q5⟩ := hn
    rw [List.drop_zero, List.drop_zero] at q4
    have hdiv : vb 65536 A / vb 65536 L = vb 65536 Q := by
      rw [q4, Nat.mul_comm, Nat.mul_add_div hB, Nat.div_eq_of_lt q5, Nat.add_zero]
    have hmod : vb 65536 A % vb 65536 L = V := by
      rw [q4, Nat.mul_comm, Nat.mul_add_mod, Nat.mod_eq_of_lt q5]
    have rngQ : ∀ x ∈ Q, 0 ≤ x ∧ x < 4294967296 := fun x hx => ⟨(q2 x hx).1, by have := (q2 x hx).2; omega⟩
    have row : rowC tU (wU Q) 0 A.length A.length = true := by
      have := rowC_wU (L := Q) rngQ (by omega) (c := Q.length) (capS (by omega))
      rw [q1] at this
      exact this
    have cq : cutI (wU Q) 0 A.length = Q := by
      have := cut_wU Q
      rw [q1] at this
      exact this
    have et : trimN Q = (d16 (vb 65536 Q)).length := trim_len (b := 65536) (by omega) q2
    have ge := pa_end o A.length c o' L.length c' A.length (d16 V).length (.int .i64 (((0 : Nat) : Int) - 1)) v10 v11 (wU (d16 V)) (wU Q) lb la g
    rw [cq, et] at ge
    refine (goesT_runsW T0_ok ge (okOne row)).mono fun e z hz => ?_
    obtain ⟨rfl, ⟨g', z1⟩, z2⟩ := hz
    rw [hdiv, hmod]
    refine ⟨.inr rfl, 2, 3, by omega, by rw [z1, z2]; rfl, ⟨wU (Q.drop (trimN Q)), ?_⟩, ⟨[], by rw [z2, List.append_nil]; rfl⟩⟩
    have e4 : wU (d16 (vb 65536 Q)) ++ wU (Q.drop (trimN Q)) = wU Q := by
      unfold d16
      rw [← take_trim (by omega) _ q2, ← wU_append, List.take_append_drop]
    rw [z2, e4]
    rfl
end
def okPa (h : Hp) (p q : Option Addr) (n c n' c' : Nat) : Bool := rowP h p n c && dgB (rowOf h p n) && (rowP h q n' c' && canB (rowOf h q n')) && (Nat.blt n 1000000 && Nat.blt n' 1000000 && Nat.blt 0 n && Nat.blt 0 n')
def gPa : AnsH := fun vals h s =>
  match vals with
  | [.slice (some ⟨b, o, none⟩) n c, .slice (some ⟨b', o', none⟩) n' c'] =>
    some (.tuple #[sl h.n 0 (d16 (vO h (aP b o) n / vO h (aP b' o') n')).length (d16 (vO h (aP b o) n / vO h (aP b' o') n')).length, sl (h.n + 1) 0 (d16 (vO h (aP b o) n % vO h (aP b' o') n')).length (d16 (vO h (aP b o) n % vO h (aP b' o') n')).length],
      (h.push (wU (d16 (vO h (aP b o) n / vO h (aP b' o') n'))) tU).push (wU (d16 (vO h (aP b o) n % vO h (aP b' o') n'))) tU, s, [(okPa h (aP b o) (aP b' o') n c n' c', true)])
  | _ => none
theorem gPa_ok : AnsHOk 25 gPa := by
  intro vals h s v h' s' lg hg hl m B w E0 hv
  unfold gPa at hg
  split at hg
  · rename_i b o n c b' o' n' c'
    cases hg
    have l3 := hl _ (List.mem_singleton.2 rfl)
    simp only [okPa, Bool.and_eq_true] at l3
    obtain ⟨⟨⟨q1, q2⟩, ⟨p1, p2⟩⟩, ⟨⟨⟨r1, r2⟩, r3⟩, r4⟩⟩ := l3
    have q2 := dgB_of q2
    have p2 := canB_of p2
    have r1 := blt_iff.1 r1
    have r2 := blt_iff.1 r2
    have r3 := blt_iff.1 r3
    have r4 := blt_iff.1 r4
    rcases rowP_cases q1 with ⟨h0, _⟩ | ⟨b1, o1, x, hp, hx, k1, ks, e0⟩
    · cases h0
    · cases hp
      rcases rowP_cases p1 with ⟨h0, _⟩ | ⟨b2, o2, y, hp', hy, t1, ts, f0⟩
      · cases h0
      · cases hp'
        rw [e0] at q2
        rw [f0] at p2
        obtain ⟨h1, h2', h3, h4, h5, h6, h7⟩ := rowC_of k1
        obtain ⟨g1, g2, g3, g4, g5, g6, g7⟩ := rowC_of t1
        have ev : vO h (aP b o) n = vb 65536 (cutI x.1 o n) := by unfold vO; rw [e0]
        have ev' : vO h (aP b' o') n' = vb 65536 (cutI y.1 o' n') := by unfold vO; rw [f0]
        have cb : rowC tR y.1 o' n' c' = true := by
          unfold rowC at t1 ⊢
          simp only [Bool.and_eq_true, Bool.not_eq_true'] at t1 ⊢
          obtain ⟨⟨⟨⟨⟨⟨_, _⟩, j3⟩, j4⟩, j5⟩, j6⟩, j7⟩ := t1
          exact ⟨⟨⟨⟨⟨⟨tR_tomb, by kernel_rfl⟩, j3⟩, j4⟩, j5⟩, j6⟩, j7⟩
        have H : Two x.1 y.1 o o' c' (cutI x.1 o n) (cutI y.1 o' n') := ⟨h1, g1, q2, p2, by rw [g2]; omega, by rw [g2]; exact r2, by rw [h2']; omega, by rw [h2']; exact r1, by rw [g2]; exact cb, ts, ks, by rw [g2]⟩
        have r := pa_runs (c := c) H
        rw [h2', g2, ← ev, ← ev'] at r
        have evals : List.map (rn (pair b b')) [sl 0 o n c, sl 1 o' n' c'] = [.slice (some ⟨b, o, none⟩) n c, .slice (some ⟨b', o', none⟩) n' c'] := by
          simp [rn, rn2, rn1, sl, pair]
        have fin := row_callsT (T := tabH Try.prog extY conN hcP) Try.func25 pa_body (rows2 h7 g7) (vals := [sl 0 o n c, sl 1 o' n' c']) (fun v hv => by
          simp only [List.mem_cons, List.not_mem_nil, or_false] at hv
          rcases hv with h1 | h1 <;> rw [h1] <;> rfl) (v := fun k j => .tuple #[sl k 0 (d16 (vO h (aP b o) n / vO h (aP b' o') n')).length (d16 (vO h (aP b o) n / vO h (aP b' o') n')).length, sl j 0 (d16 (vO h (aP b o) n % vO h (aP b' o') n')).length (d16 (vO h (aP b o) n % vO h (aP b' o') n')).length]) (wU_lt _) (wU_lt _) (by kernel_rfl) r (fun k j => by simp [oc, oc2, oc1, sl]) E0 (fitsR2 hx h5 h6 hy g5 g6) (fun k j g => by simp [rn, rn2, rn1, sl])
        rw [evals] at fin
        exact fin
  · cases hg
end Go.Proofs.Ytbcpnpchioncbaa

/-
  The document's Parts, with what is answered told ahead; the table of its calls that make memory.
-/
namespace Go.Proofs.Ytbcpnpchioncbaa
open Go.KRun Go.Nt
set_option maxRecDepth 100000

def gPaT : AnsH := fun vals h s =>
  match vals, s with
  | [.slice (some ⟨b, o, none⟩) n c, .slice (some ⟨b', o', none⟩) n' c'], .inr (.inl V) :: .inr (.inl U) :: s' =>
    some (.tuple #[sl h.n 0 (d16 V.toNat).length (d16 V.toNat).length, sl (h.n + 1) 0 (d16 U.toNat).length (d16 U.toNat).length], (h.push (wU (d16 V.toNat)) tU).push (wU (d16 U.toNat)) tU, s', [(decide (vO h (some ⟨b, o, none⟩) n / vO h (some ⟨b', o', none⟩) n' = V.toNat ∧ vO h (some ⟨b, o, none⟩) n % vO h (some ⟨b', o', none⟩) n' = U.toNat), true), (okPa h (some ⟨b, o, none⟩) (some ⟨b', o', none⟩) n c n' c', true)])
  | _, _ => none
theorem gPaT_ok : AnsHOk 25 gPaT := by
  intro vals h s v h' s' lg hg hl m B w E hv
  unfold gPaT at hg
  split at hg
  · rename_i b o n c b' o' n' c' V U s2
    cases hg
    have l1 := of_decide_eq_true (hl _ List.mem_cons_self)
    have l2 := hl _ (List.mem_cons_of_mem _ (List.mem_singleton.2 rfl))
    rw [← l1.1, ← l1.2]
    exact gPa_ok _ h [] _ _ [] [(okPa h (some ⟨b, o, none⟩) (some ⟨b', o', none⟩) n c n' c', true)] rfl (okL1 l2) m B w E hv
  · cases hg
def hcT : Hc := altH 25 gPaT hcTq
theorem hcT_ok : HcOk hcT := altH_ok Try.func25 rfl gPaT_ok hcTq_ok
section
variable {h : Hp} {b b' V W : Nat}
theorem oPa (hb : h.blk? b = some (wU (d16 V), tU)) (hc : h.blk? b' = some (wU (d16 W), tU)) (hl : (d16 V).length < 1000000) (hm : (d16 W).length < 1000000) (h0 : 0 < (d16 V).length) (h1 : 0 < (d16 W).length) : okPa h (aP16 b) (aP16 b') (d16 V).length (d16 V).length (d16 W).length (d16 W).length = true := by
  unfold okPa aP16
  rw [rowP_d16 hb (by omega), dgB_d16 hb, rowP_d16 hc (by omega), rowOf_d16 hc, show canB (d16 W) = true from canB_mk (can_db (by omega) W), blt_iff.2 hl, blt_iff.2 hm, blt_iff.2 h0, blt_iff.2 h1]
  rfl
end
end Go.Proofs.Ytbcpnpchioncbaa

/-
  Contracts of words; a pattern's significand, moved up, and whether it is nothing.
-/
namespace Go.Proofs.Ytbcpnpchioncbaa
open Go.KRun Go.Wd Go.Pt Go.Rn
set_option maxRecDepth 100000

/-- a truth of two words, told ahead -/
def gUUb (k : Int → Int → Bool) : Ans := fun vals s =>
  match vals, s with
  | [.int .u64 a, .int .u64 b], .inr (.inr (.inr (.inl d))) :: s' => some (.bool d, s', [(k a b, d), (decide (U a ∧ U b), true)])
  | _, _ => none
theorem gUUb_ok {f : Nat} {k : Int → Int → Bool} (hk : ∀ a b : Int, U a → U b → ∀ w, Calls Try.prog f #[.int .u64 a, .int .u64 b] w fun e w' => e = .returned (.bool (k a b)) ∧ Tidy w w') : AnsOk f (gUUb k) := by
  intro vals s v s' lg h hl w
  unfold gUUb at h
  split at h
  · cases h
    have e := hl _ (List.mem_cons_self)
    obtain ⟨h1, h2⟩ := of_decide_eq_true (hl _ (List.mem_cons_of_mem _ (List.mem_singleton.2 rfl)))
    simp only at e
    rw [← e]
    exact hk _ _ h1 h2 w
  · cases h
/-- a value of two words -/
def gUU (k : Int → Int → Value) (c : Int → Int → Bool) : Ans := fun vals s =>
  match vals with
  | [.int .u64 a, .int .u64 b] => some (k a b, s, [(c a b, true), (decide (U a ∧ U b), true)])
  | _ => none
theorem gUU_ok {f : Nat} {k : Int → Int → Value} {c : Int → Int → Bool} (hk : ∀ a b : Int, U a → U b → c a b = true → ∀ w, Calls Try.prog f #[.int .u64 a, .int .u64 b] w fun e w' => e = .returned (k a b) ∧ Tidy w w') : AnsOk f (gUU k c) := by
  intro vals s v s' lg h hl w
  unfold gUU at h
  split at h
  · cases h
    have e := hl _ (List.mem_cons_self)
    obtain ⟨h1, h2⟩ := of_decide_eq_true (hl _ (List.mem_cons_of_mem _ (List.mem_singleton.2 rfl)))
    exact hk _ _ h1 h2 e w
  · cases h
def nzW (x : W4) : Bool := !(x.a == 0 && (x.b == 0 && (x.c == 0 && (x.d == 0 && true))))
theorem nzW_of {n : Int} (h0 : 0 ≤ n) (h1 : n < 115792089237316195423570985008687907853269984665640564039457584007913129639936) : nzW (W4.of n) = decide (n ≠ 0) := by
  have ev : (W4.of n).val = n := by rw [W4.val_of, Int.emod_eq_of_lt h0 h1]
  have ok := W4.ok_of n
  by_cases hz : n = 0
  · subst hz; rfl
  · rw [decide_eq_true hz]
    unfold nzW
    cases hc : ((W4.of n).a == 0 && ((W4.of n).b == 0 && ((W4.of n).c == 0 && ((W4.of n).d == 0 && true))))
    · rfl
    · exfalso
      simp only [Bool.and_eq_true, beq_iff_eq] at hc
      obtain ⟨e1, e2, e3, e4, _⟩ := hc
      apply hz
      rw [← ev]
      unfold W4.val
      rw [e1, e2, e3, e4]
      rfl
theorem wSg_val (p : Int) : (wSg p).val = sg p := by
  have h := sg_lt p
  rw [W4.nat_val (wSg_ok p), wSg_nat]
  omega
theorem pow_lim {u : Nat} (h : u ≤ 199) : (2 : Int) ^ u ≤ 803469022129495137770981046170581301261101496891396417650688 := by
  have h1 : (2 : Nat) ^ u ≤ 2 ^ 199 := Nat.pow_le_pow_right (by omega) h
  have h2 : (2 : Nat) ^ 199 = 803469022129495137770981046170581301261101496891396417650688 := rfl
  rw [h2] at h1
  have := cast_pow u
  omega
theorem shl_sg (p : Int) {u : Nat} (h0 : 1 ≤ u) (h : u ≤ 199) : (shlW (wSg p) (u : Int)).ok ∧ (shlW (wSg p) (u : Int)).val = (((sg p).toNat * 2 ^ u : Nat) : Int) := by
  have hs := sg_lt p
  have hp := pow_lim h
  have hq : (0 : Int) < 2 ^ u := by rw [cast_pow]; exact_mod_cast Nat.pow_pos (by omega)
  have e : (wSg p).val * 2 ^ u = (((sg p).toNat * 2 ^ u : Nat) : Int) := by
    rw [wSg_val, Int.natCast_mul, ← cast_pow, Int.toNat_of_nonneg hs.1]
  have hb : (((sg p).toNat * 2 ^ u : Nat) : Int) < 115792089237316195423570985008687907853269984665640564039457584007913129639936 := by
    rw [← e, wSg_val]
    have := Int.mul_le_mul (show sg p ≤ 9007199254740991 by omega) hp (by omega) (by omega)
    omega
  unfold shlW
  rw [if_neg (by omega), if_neg (by omega), Int.toNat_natCast, e]
  exact ⟨W4.ok_of _, by rw [W4.val_of, Int.emod_eq_of_lt (by omega) hb]⟩
theorem sg_zero {p : Int} (h : cl p ≤ 2) : sg p = 0 ↔ cl p = 0 := by
  have h3 := fr_lt p
  unfold sg cl at *
  split at h
  · rename_i h1
    rw [if_pos h1]
    split <;> omega
  · rename_i h1
    split at h
    · split at h
      · omega
      · split at h <;> omega
    · rename_i h2
      rw [if_neg h1, if_neg h2]
      omega
/-- a value of one word, with a condition -/
def gU1 (k : Int → Value) (c : Int → Bool) : Ans := fun vals s =>
  match vals with
  | [.int .u64 a] => some (k a, s, [(c a, true), (decide (U a), true)])
  | _ => none
theorem gU1_ok {f : Nat} {k : Int → Value} {c : Int → Bool} (hk : ∀ a : Int, U a → c a = true → ∀ w, Calls Try.prog f #[.int .u64 a] w fun e w' => e = .returned (k a) ∧ Tidy w w') : AnsOk f (gU1 k c) := by
  intro vals s v s' lg h hl w
  unfold gU1 at h
  split at h
  · cases h
    have e := hl _ (List.mem_cons_self)
    have h1 := of_decide_eq_true (hl _ (List.mem_cons_of_mem _ (List.mem_singleton.2 rfl)))
    exact hk _ h1 e w
  · cases h
end Go.Proofs.Ytbcpnpchioncbaa
