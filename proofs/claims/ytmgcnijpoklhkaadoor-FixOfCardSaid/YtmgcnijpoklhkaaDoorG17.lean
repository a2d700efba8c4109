/-
  ConVQ, ToE, Asn, AsNum, RunK, FiM, Row
-/
import Derived.Test.YtmgcnijpoklhkaaDoorG16
import Derived.WalkKit
import Derived.LaidEql
import Derived.Stop.Asserts
import Derived.RowKitTokens
import Derived.ProofKit
import Derived.OpenShut
import Derived.Laws.IdiomArrays
import Derived.Lib.SmallJoins
namespace Go.Proofs.YtmgcnijpoklhkaaDoor
open Go.KRun Go.Nt
set_option maxRecDepth 100000
set_option linter.unusedVariables false
section
variable {la lb : List Value} {o c o' c' : Nat} {A L : List Int}
def okV (v10 v11 : Value) : Prop := KRun.lt 4 v10 = true ∧ KRun.lt 4 v11 = true ∧ (∀ k b : Nat, rn (keepK k b) v10 = v10) ∧ (∀ k b : Nat, rn (keepK k b) v11 = v11)
def pNum (A L : List Int) (i V : Nat) (Q : List Int) : Prop := i ≤ A.length ∧ Q.length = A.length ∧ (∀ x ∈ Q, Dg 65536 x) ∧ (∀ j, j < i → Q.getD j 0 = 0) ∧ vb 65536 (A.drop i) = vb 65536 (Q.drop i) * vb 65536 L + V ∧ V < vb 65536 L
def pInv (o c o' c' : Nat) (la lb : List Value) (A L : List Int) (i : Nat) (z : Lf) : Prop :=
  ∃ V Q, pNum A L i V Q ∧ ∃ v10 v11 r, okV v10 v11 ∧ (∃ g, z.1 = pFr o A.length c o' L.length c' A.length r (((i : Nat) : Int) - 1) v10 v11 ++ tl 83 g) ∧ rIn V Q la lb r z.2.1 ∧ (i < A.length → r = sl 3 0 (d16 V).length (d16 V).length ∧ z.2.1 = hB4 (wU (d16 V)) (wU Q) lb la)
theorem pNum_step (H : Two la lb o o' c' A L) {k V : Nat} {Q : List Int} (h : pNum A L (k + 1) V Q) : pNum A L k (((A.getD k 0).toNat + 65536 * V) % vb 65536 L) (if (A.getD k 0).toNat + 65536 * V < vb 65536 L then Q else Q.set k ((((A.getD k 0).toNat + 65536 * V) / vb 65536 L : Nat) : Int)) := by
  obtain ⟨h1, h2, h3, h4, h5, h6⟩ := h
  have hB := H.bnd.2.2
  have hd := at_dg H.dA k
  have hA : vb 65536 (A.drop k) = (A.getD k 0).toNat + 65536 * vb 65536 (A.drop (k + 1)) := vb_dropP (by omega)
  obtain ⟨W, hW⟩ : ∃ W, W = (A.getD k 0).toNat + 65536 * V := ⟨_, rfl⟩
  have hWB : W < 65536 * vb 65536 L := by
    have := hd.2
    have := hd.1
    have h3 : 65536 * V + 65536 ≤ 65536 * vb 65536 L := by
      have := Nat.mul_le_mul_left 65536 (Nat.succ_le_of_lt h6)
      rw [Nat.mul_succ] at this
      exact this
    omega
  have hq : W / vb 65536 L < 65536 := by rw [Nat.div_lt_iff_lt_mul hB]; exact hWB
  have hdm := Nat.div_add_mod W (vb 65536 L)
  have hml := Nat.mod_lt W hB
  rw [← hW]
  have hk : k < Q.length := by omega
  have hQ : vb 65536 (Q.drop k) = (Q.getD k 0).toNat + 65536 * vb 65536 (Q.drop (k + 1)) := vb_dropP hk
  have key : ∀ q : Nat, vb 65536 (A.drop k) = (q + 65536 * vb 65536 (Q.drop (k + 1))) * vb 65536 L + (W - q * vb 65536 L) ↔ q * vb 65536 L ≤ W ∨ vb 65536 (A.drop k) = (q + 65536 * vb 65536 (Q.drop (k + 1))) * vb 65536 L + (W - q * vb 65536 L) := fun q => by
    refine ⟨.inr, fun h => h.elim (fun h => ?_) id⟩
    rw [hA, h5, Nat.add_mul, Nat.mul_add, Nat.mul_assoc]
    omega
  by_cases hlt : W < vb 65536 L
  · rw [if_pos hlt, Nat.mod_eq_of_lt hlt]
    refine ⟨by omega, h2, h3, fun j hj => h4 j (by omega), ?_, hlt⟩
    have h0 : (Q.getD k 0).toNat = 0 := by rw [h4 k (by omega)]; rfl
    rw [hQ, h0]
    have := (key 0).2 (.inl (by omega))
    rw [Nat.zero_mul, Nat.sub_zero] at this
    exact this
  · rw [if_neg hlt]
    refine ⟨by omega, by rw [List.length_set]; exact h2, set_dg h3 ⟨Int.natCast_nonneg _, by omega⟩ k, fun j hj => ?_, ?_, hml⟩
    · have := h4 j (by omega)
      simp only [List.getD] at *
      rw [List.getElem?_set_ne (by omega)]
      exact this
    · have hk' : k < (Q.set k ((W / vb 65536 L : Nat) : Int)).length := by rw [List.length_set]; exact hk
      have e1 : ((Q.set k ((W / vb 65536 L : Nat) : Int)).getD k 0).toNat = W / vb 65536 L := by
        simp only [List.getD, List.getElem?_set_self hk, Option.getD_some, Int.toNat_natCast]
      have e2 : (Q.set k ((W / vb 65536 L : Nat) : Int)).drop (k + 1) = Q.drop (k + 1) := by rw [List.drop_set_of_lt (by omega)]
      rw [vb_dropP hk', e1, e2]
      have e3 : W % vb 65536 L = W - W / vb 65536 L * vb 65536 L := by rw [Nat.mul_comm] at hdm; omega
      rw [e3]
      exact (key _).2 (.inl (by rw [Nat.mul_comm] at hdm; omega))
theorem pa_outer (H : Two la lb o o' c' A L) {z0 : Lf} (h0 : pInv o c o' c' la lb A L A.length z0) :
    RunsW (tabH Tryd.prog extY conN hcP) (.block 0 (.loop (paL Tryd.f31))) z0 fun e z => match e with | none => pInv o c o' c' la lb A L 0 z | some none => False | some (some _) => False := by
  refine RunsW.forLoop (P := pInv o c o' c' la lb A L 0) (R := fun _ => False) (pInv o c o' c' la lb A L) ?_ h0
  rintro m ⟨t, h', s⟩ hI
  obtain ⟨V, Q, hn, v10, v11, r, hv, ⟨g, ht⟩, hr, hrow⟩ := hI
  simp only at ht hr hrow
  subst ht
  cases m with
  | zero =>
    have e0 : (((0 : Nat) : Int) - 1) = -1 := rfl
    rw [pa_loop]
    refine RunsW.seq (goesT_runsW T0_ok (pa_h0 o A.length c o' L.length c' A.length r v10 v11 (((0 : Nat) : Int) - 1) h' g) (okL1 (decide_eq_false (by omega)))) (fun y hy => by cases hy.1) (fun e y hy => ?_)
    obtain ⟨e1, z1, z2⟩ := hy
    cases e1
    exact ⟨rfl, V, Q, hn, v10, v11, r, hv, z1, by rw [z2]; exact hr, fun hl => by rw [z2]; exact hrow hl⟩
  | succ k =>
    have hk : k < A.length := by have := hn.1; omega
    have ek : (((k + 1 : Nat) : Int) - 1) = ((k : Nat) : Int) := by omega
    rw [ek]
    have hn' := pNum_step H hn
    refine (pa_round (c := c) H hn.2.2.2.2.2 (Q := Q) hn.2.1 hk hv hr g s).mono fun e z hz => ?_
    obtain ⟨rfl, V', Q', hV', hQ', u10, u11, hu, z1, z2⟩ := hz
    rw [hV'] at hQ' z1 z2
    rw [← hQ'] at hn'
    exact ⟨k, by omega, _, Q', hn', u10, u11, _, hu, z1, .inr ⟨rfl, z2⟩, fun _ => ⟨rfl, z2⟩⟩
theorem pa_runs (H : Two la lb o o' c' A L) :
    RunsW (tabH Tryd.prog extY conN hcP) (seqs (paP Tryd.f31) (.seq (.seq (cFst (paB Tryd.f31)) (.block 0 (.loop (paL Tryd.f31)))) (paE Tryd.f31))) ([sl 0 o A.length c, sl 1 o' L.length c'] ++ List.replicate 93 undef, h2 la lb, []) fun e z => (e = none ∨ e = some none) ∧ ∃ k j, k ≠ j ∧ resS Tryd.prog Tryd.f31 z.1 z.2.1 = some (.tuple #[sl k 0 (d16 (vb 65536 A / vb 65536 L)).length (d16 (vb 65536 A / vb 65536 L)).length, sl j 0 (d16 (vb 65536 A % vb 65536 L)).length (d16 (vb 65536 A % vb 65536 L)).length]) ∧ (∃ r, z.2.1.blk? k = some (wU (d16 (vb 65536 A / vb 65536 L)) ++ r, tU)) ∧ ∃ r, z.2.1.blk? j = some (wU (d16 (vb 65536 A % vb 65536 L)) ++ r, tU) := by
  have a2 := H.a2
  have a1 := H.a1
  have hB := H.bnd.2.2
  have mk : okMakeB 4 ((A.length : Nat) : Int) ((A.length : Nat) : Int) = true := by unfold okMakeB; exact decide_eq_true (by omega)
  refine goesT_listW T0_ok (pa_pre o A.length c o' L.length c' la lb) (okOne mk) fun g => ?_
  rw [Int.toNat_natCast]
  have ew : List.replicate A.length (Value.int .u32 0) = wU (List.replicate A.length 0) := by unfold wU; rw [List.map_replicate]
  rw [ew]
  have e1 : IntKind.i64.wrap ((A.length : Int) - 1) = ((A.length : Nat) : Int) - 1 := wrapI (by omega) (by omega)
  refine RunsW.seq (P1 := fun e z => e = none ∧ pInv o c o' c' la lb A L 0 z) ?_ ?_ (fun e y hy => by cases hy.1)
  · have g4 := pa_r4 o A.length c o' L.length c' A.length nilS undef undef undef (hB3 (wU (List.replicate A.length 0)) lb la) g
    rw [e1] at g4
    refine RunsW.next (goesT_runsW T0_ok g4 (fun x hx => by cases hx)) fun g s => ?_
    refine (pa_outer H ⟨0, List.replicate A.length 0, ⟨Nat.le_refl _, by simp, fun x hx => ?_, fun j _ => ?_, ?_, hB⟩, undef, undef, nilS, ⟨rfl, rfl, fun k b => by kernel_rfl, fun k b => by kernel_rfl⟩, ⟨g, rfl⟩, .inl ⟨rfl, rfl, rfl⟩, fun h => absurd h (Nat.lt_irrefl _)⟩).mono fun e z hz => ?_
    · rw [List.eq_of_mem_replicate hx]; exact ⟨by omega, by omega⟩
    · simp only [List.getD, List.getElem?_replicate]
      split <;> rfl
    · rw [List.drop_of_length_le (Nat.le_refl _), List.drop_of_length_le (by simp)]
      simp [vb]
    · match e, hz with
      | none, hz => exact ⟨rfl, hz⟩
      | some none, hz => exact hz.elim
      | some (some _), hz => exact hz.elim
  · rintro ⟨t, h', s⟩ ⟨_, V, Q, hn, v10, v11, r, hv, ⟨g, ht⟩, hr, hrow⟩
    obtain ⟨e2, e3⟩ := hrow (by omega)
    simp only at ht e3
    subst ht e2 e3
    obtain ⟨_, q1, q2, _, q4, q5⟩ := hn
    rw [List.drop_zero, List.drop_zero] at q4
    have hdiv : vb 65536 A / vb 65536 L = vb 65536 Q := by
      rw [q4, Nat.mul_comm, Nat.mul_add_div hB, Nat.div_eq_of_lt q5, Nat.add_zero]
    have hmod : vb 65536 A % vb 65536 L = V := by
      rw [q4, Nat.mul_comm, Nat.mul_add_mod, Nat.mod_eq_of_lt q5]
    have rngQ : ∀ x ∈ Q, 0 ≤ x ∧ x < 4294967296 := fun x hx => ⟨(q2 x hx).1, by have := (q2 x hx).2; omega⟩
    have row : rowC tU (wU Q) 0 A.length A.length = true := by
      have := rowC_wU (L := Q) rngQ (by omega) (c := Q.length) (capS (by omega))
      rw [q1] at this
      exact this
    have cq : cutI (wU Q) 0 A.length = Q := by
      have := cut_wU Q
      rw [q1] at this
      exact this
    have et : trimN Q = (d16 (vb 65536 Q)).length := trim_len (b := 65536) (by omega) q2
    have ge := pa_end o A.length c o' L.length c' A.length (d16 V).length (.int .i64 (((0 : Nat) : Int) - 1)) v10 v11 (wU (d16 V)) (wU Q) lb la g
    rw [cq, et] at ge
    refine (goesT_runsW T0_ok ge (okOne row)).mono fun e z hz => ?_
    obtain ⟨rfl, ⟨g', z1⟩, z2⟩ := hz
    rw [hdiv, hmod]
    refine ⟨.inr rfl, 2, 3, by omega, by rw [z1, z2]; rfl, ⟨wU (Q.drop (trimN Q)), ?_⟩, ⟨[], by rw [z2, List.append_nil]; rfl⟩⟩
    have e4 : wU (d16 (vb 65536 Q)) ++ wU (Q.drop (trimN Q)) = wU Q := by
      unfold d16
      rw [← take_trim (by omega) _ q2, ← wU_append, List.take_append_drop]
    rw [z2, e4]
    rfl
end
def okPa (h : Hp) (p q : Option Addr) (n c n' c' : Nat) : Bool := rowP h p n c && dgB (rowOf h p n) && (rowP h q n' c' && canB (rowOf h q n')) && (Nat.blt n 1000000 && Nat.blt n' 1000000 && Nat.blt 0 n && Nat.blt 0 n')
def gPa : AnsH := fun vals h s =>
  match vals with
  | [.slice (some ⟨b, o, none⟩) n c, .slice (some ⟨b', o', none⟩) n' c'] =>
    some (.tuple #[sl h.n 0 (d16 (vO h (aP b o) n / vO h (aP b' o') n')).length (d16 (vO h (aP b o) n / vO h (aP b' o') n')).length, sl (h.n + 1) 0 (d16 (vO h (aP b o) n % vO h (aP b' o') n')).length (d16 (vO h (aP b o) n % vO h (aP b' o') n')).length],
      (h.push (wU (d16 (vO h (aP b o) n / vO h (aP b' o') n'))) tU).push (wU (d16 (vO h (aP b o) n % vO h (aP b' o') n'))) tU, s, [(okPa h (aP b o) (aP b' o') n c n' c', true)])
  | _ => none
theorem gPa_ok : AnsHOk 31 gPa := by
  intro vals h s v h' s' lg hg hl m B w E0 hv
  unfold gPa at hg
  split at hg
  · rename_i b o n c b' o' n' c'
    cases hg
    have l3 := hl _ (List.mem_singleton.2 rfl)
    simp only [okPa, Bool.and_eq_true] at l3
    obtain ⟨⟨⟨q1, q2⟩, ⟨p1, p2⟩⟩, ⟨⟨⟨r1, r2⟩, r3⟩, r4⟩⟩ := l3
    have q2 := dgB_of q2
    have p2 := canB_of p2
    have r1 := blt_iff.1 r1
    have r2 := blt_iff.1 r2
    have r3 := blt_iff.1 r3
    have r4 := blt_iff.1 r4
    rcases rowP_cases q1 with ⟨h0, _⟩ | ⟨b1, o1, x, hp, hx, k1, ks, e0⟩
    · cases h0
    · cases hp
      rcases rowP_cases p1 with ⟨h0, _⟩ | ⟨b2, o2, y, hp', hy, t1, ts, f0⟩
      · cases h0
      · cases hp'
        rw [e0] at q2
        rw [f0] at p2
        obtain ⟨h1, h2', h3, h4, h5, h6, h7⟩ := rowC_of k1
        obtain ⟨g1, g2, g3, g4, g5, g6, g7⟩ := rowC_of t1
        have ev : vO h (aP b o) n = vb 65536 (cutI x.1 o n) := by unfold vO; rw [e0]
        have ev' : vO h (aP b' o') n' = vb 65536 (cutI y.1 o' n') := by unfold vO; rw [f0]
        have cb : rowC tR y.1 o' n' c' = true := by
          unfold rowC at t1 ⊢
          simp only [Bool.and_eq_true, Bool.not_eq_true'] at t1 ⊢
          obtain ⟨⟨⟨⟨⟨⟨_, _⟩, j3⟩, j4⟩, j5⟩, j6⟩, j7⟩ := t1
          exact ⟨⟨⟨⟨⟨⟨tR_tomb, by kernel_rfl⟩, j3⟩, j4⟩, j5⟩, j6⟩, j7⟩
        have H : Two x.1 y.1 o o' c' (cutI x.1 o n) (cutI y.1 o' n') := ⟨h1, g1, q2, p2, by rw [g2]; omega, by rw [g2]; exact r2, by rw [h2']; omega, by rw [h2']; exact r1, by rw [g2]; exact cb, ts, ks, by rw [g2]⟩
        have r := pa_runs (c := c) H
        rw [h2', g2, ← ev, ← ev'] at r
        have evals : List.map (rn (pair b b')) [sl 0 o n c, sl 1 o' n' c'] = [.slice (some ⟨b, o, none⟩) n c, .slice (some ⟨b', o', none⟩) n' c'] := by
          simp [rn, rn2, rn1, sl, pair]
        have fin := row_callsT (T := tabH Tryd.prog extY conN hcP) Tryd.func31 pa_body (rows2 h7 g7) (vals := [sl 0 o n c, sl 1 o' n' c']) (fun v hv => by
          simp only [List.mem_cons, List.not_mem_nil, or_false] at hv
          rcases hv with h1 | h1 <;> rw [h1] <;> rfl) (v := fun k j => .tuple #[sl k 0 (d16 (vO h (aP b o) n / vO h (aP b' o') n')).length (d16 (vO h (aP b o) n / vO h (aP b' o') n')).length, sl j 0 (d16 (vO h (aP b o) n % vO h (aP b' o') n')).length (d16 (vO h (aP b o) n % vO h (aP b' o') n')).length]) (wU_lt _) (wU_lt _) (by kernel_rfl) r (fun k j => by simp [oc, oc2, oc1, sl]) E0 (fitsR2 hx h5 h6 hy g5 g6) (fun k j g => by simp [rn, rn2, rn1, sl])
        rw [evals] at fin
        exact fin
  · cases hg
end Go.Proofs.YtmgcnijpoklhkaaDoor
namespace Go.Proofs.YtmgcnijpoklhkaaDoor
open Go.KRun Go.Nt
set_option maxRecDepth 100000
def gPaT : AnsH := fun vals h s =>
  match vals, s with
  | [.slice (some ⟨b, o, none⟩) n c, .slice (some ⟨b', o', none⟩) n' c'], .inr (.inl V) :: .inr (.inl U) :: s' =>
    some (.tuple #[sl h.n 0 (d16 V.toNat).length (d16 V.toNat).length, sl (h.n + 1) 0 (d16 U.toNat).length (d16 U.toNat).length], (h.push (wU (d16 V.toNat)) tU).push (wU (d16 U.toNat)) tU, s', [(decide (vO h (some ⟨b, o, none⟩) n / vO h (some ⟨b', o', none⟩) n' = V.toNat ∧ vO h (some ⟨b, o, none⟩) n % vO h (some ⟨b', o', none⟩) n' = U.toNat), true), (okPa h (some ⟨b, o, none⟩) (some ⟨b', o', none⟩) n c n' c', true)])
  | _, _ => none
theorem gPaT_ok : AnsHOk 31 gPaT := by
  intro vals h s v h' s' lg hg hl m B w E hv
  unfold gPaT at hg
  split at hg
  · rename_i b o n c b' o' n' c' V U s2
    cases hg
    have l1 := of_decide_eq_true (hl _ List.mem_cons_self)
    have l2 := hl _ (List.mem_cons_of_mem _ (List.mem_singleton.2 rfl))
    rw [← l1.1, ← l1.2]
    exact gPa_ok _ h [] _ _ [] [(okPa h (some ⟨b, o, none⟩) (some ⟨b', o', none⟩) n c n' c', true)] rfl (okL1 l2) m B w E hv
  · cases hg
end Go.Proofs.YtmgcnijpoklhkaaDoor
namespace Go.Proofs.YtmgcnijpoklhkaaDoor
open Go.RowKit Go.Extern.Stop Go.Stop Go.Extern
/-! ### what the model's entries for internal/reflectlite answer at these types -/
theorem as_valueOfP (t : Addr) (w : World) : (ReflectliteValue.unpack (.iface 67 (.pointer (some t)))).run Tryd.prog w
    = .ok (.agg #[.pointer (some ⟨3, 67, none⟩), .pointer (some ⟨w.heap.size, 0, none⟩), .int .u64 150]) (w.alloc (.cells #[.pointer (some t)] 67)) := by kernel_rfl
theorem as_typeP (a : Addr) (w : World) : (ReflectliteValue.methodAny (ReflectliteValue.valueError "reflectlite.Value.Type" 0) (fun t _ _ _ => ReflectliteType.toType t) #[.agg #[.pointer (some ⟨3, 67, none⟩), .pointer (some a), .int .u64 150]]).run Tryd.prog w
    = .ok (.iface 101 (.agg #[.pointer (some ⟨3, 67, none⟩)])) w := by kernel_rfl
theorem as_methodKind (h : Value) (w : World) : (Go.method 247 101 (.agg #[h]) "Kind").run Tryd.prog w = .ok (84, h) w := by kernel_rfl
theorem as_kindP (w : World) : ((ReflectliteType.abiMethod fun t => (fun a : Nat => Value.int IntKind.u8 (a : Int)) <$> Rtype.kind t) #[.pointer (some ⟨3, 67, none⟩)]).run Tryd.prog w = .ok (.int .u8 22) w := by kernel_rfl
theorem as_kindE (w : World) : ((ReflectliteType.abiMethod fun t => (fun a : Nat => Value.int IntKind.u8 (a : Int)) <$> Rtype.kind t) #[.pointer (some ⟨3, 57, none⟩)]).run Tryd.prog w = .ok (.int .u8 2) w := by kernel_rfl
theorem as_rlm (z : Sem Value) (f : TypeId → Addr → Nat → Nat → Sem Value) (v : Value) :
    ReflectliteValue.method z f #[v] = (do match ← ReflectliteValue.parts v with | none => z | some (t, a, fl) => f t a fl (fl % 32)) := rfl
theorem as_partsP (a : Addr) (w : World) : (ReflectliteValue.parts (.agg #[.pointer (some ⟨3, 67, none⟩), .pointer (some a), .int .u64 150])).run Tryd.prog w = .ok (some (67, a, 150)) w := by kernel_rfl
theorem as_isNilP (a p : Addr) (W : World) (ha : W.cell? a = some (.pointer (some p))) :
    (ReflectliteValue.method (ReflectliteValue.valueError "reflectlite.Value.IsNil" 0) ReflectliteValue.isNil #[.agg #[.pointer (some ⟨3, 67, none⟩), .pointer (some a), .int .u64 150]]).run Tryd.prog W = .ok (.bool false) W := by
  rw [as_rlm]
  simp only [Sem.run_bind, as_partsP, Result.andThen]
  simp [ReflectliteValue.isNil, loadVar, isAgg, underlying, Tryd.underlying67, ha, Result.andThen]
theorem as_methodElem (h : Value) (w : World) : (Go.method 247 101 (.agg #[h]) "Elem").run Tryd.prog w = .ok (94, .agg #[h]) w := by kernel_rfl
theorem as_methodImplements (h : Value) (w : World) : (Go.method 247 101 (.agg #[h]) "Implements").run Tryd.prog w = .ok (95, .agg #[h]) w := by kernel_rfl
theorem as_methodAssignableTo (h : Value) (w : World) : (Go.method 247 101 (.agg #[h]) "AssignableTo").run Tryd.prog w = .ok (92, .agg #[h]) w := by kernel_rfl
theorem as_elemP (w : World) : (ReflectliteType.method ReflectliteType.elem #[.agg #[.pointer (some ⟨3, 67, none⟩)]]).run Tryd.prog w = .ok (.iface 101 (.agg #[.pointer (some ⟨3, 57, none⟩)])) w := by kernel_rfl
theorem as_implementsE (w : World) : (ReflectliteType.relation "Implements" ReflectliteType.implements_ #[.agg #[.pointer (some ⟨3, 57, none⟩)], .iface 101 (.agg #[.pointer (some ⟨3, 26, none⟩)])]).run Tryd.prog w = .ok (.bool true) w := by kernel_rfl
theorem as_typeOfE (v : Value) (w : World) : (ReflectliteType.typeOf #[.iface 57 v]).run Tryd.prog w = .ok (.iface 101 (.agg #[.pointer (some ⟨3, 57, none⟩)])) w := by kernel_rfl
theorem as_assignableE (w : World) : (ReflectliteType.relation "AssignableTo" ReflectliteType.assignableTo #[.agg #[.pointer (some ⟨3, 57, none⟩)], .iface 101 (.agg #[.pointer (some ⟨3, 57, none⟩)])]).run Tryd.prog w = .ok (.bool true) w := by kernel_rfl
theorem as_valueOfE (n : Int) (w : World) : (ReflectliteValue.unpack (.iface 57 (.int .i64 n))).run Tryd.prog w
    = .ok (.agg #[.pointer (some ⟨3, 57, none⟩), .pointer (some ⟨w.heap.size, 0, none⟩), .int .u64 130]) (w.alloc (.cells #[.int .i64 n] 57)) := by kernel_rfl
theorem as_elemOfP (w : World) : (Rtype.elem? 67).run Tryd.prog w = .ok (some 57) w := by kernel_rfl
theorem as_mkE (p : Addr) (w : World) : (ReflectliteValue.mk 57 p ReflectliteValue.flagAddr).run Tryd.prog w = .ok (.agg #[.pointer (some ⟨3, 57, none⟩), .pointer (some p), .int .u64 386]) w := by kernel_rfl
theorem as_elemVP (a p : Addr) (W : World) (ha : W.cell? a = some (.pointer (some p))) :
    (ReflectliteValue.method (ReflectliteValue.valueError "reflectlite.Value.Elem" 0) ReflectliteValue.elem #[.agg #[.pointer (some ⟨3, 67, none⟩), .pointer (some a), .int .u64 150]]).run Tryd.prog W
      = .ok (.agg #[.pointer (some ⟨3, 57, none⟩), .pointer (some p), .int .u64 386]) W := by
  rw [as_rlm]
  simp only [Sem.run_bind, as_partsP, Result.andThen]
  simp [ReflectliteValue.elem, loadVar, isAgg, underlying, Tryd.underlying67, ha, Result.andThen, as_elemOfP, as_mkE]
theorem as_partsEa (a : Addr) (w : World) : (ReflectliteValue.parts (.agg #[.pointer (some ⟨3, 57, none⟩), .pointer (some a), .int .u64 386])).run Tryd.prog w = .ok (some (57, a, 386)) w := by kernel_rfl
theorem as_partsE (a : Addr) (w : World) : (ReflectliteValue.parts (.agg #[.pointer (some ⟨3, 57, none⟩), .pointer (some a), .int .u64 130])).run Tryd.prog w = .ok (some (57, a, 130)) w := by kernel_rfl
theorem as_directE (w : World) : (Rtype.directlyAssignable 57 57).run Tryd.prog w = .ok true w := by kernel_rfl
theorem as_setE (ta b : Addr) (n : Int) (old : Value) (W : World) (hb : W.cell? b = some (.int .i64 n)) (ht : W.cell? ta = some old) (hf : W.frozen? ta = false) :
    (ReflectliteValue.set #[.agg #[.pointer (some ⟨3, 57, none⟩), .pointer (some ta), .int .u64 386], .agg #[.pointer (some ⟨3, 57, none⟩), .pointer (some b), .int .u64 130]]).run Tryd.prog W
      = .ok (.tuple #[]) (W.setCell ta (.int .i64 n)) := by
  have e : ∀ v x : Value, ReflectliteValue.set #[v, x] = (ReflectliteValue.parts v >>= fun p => ReflectliteValue.parts x >>= fun q => _) := fun _ _ => rfl
  rw [e]
  simp only [Sem.run_bind, as_partsEa, as_partsE, Result.andThen]
  simp [ReflectliteValue.flagAddr, loadVar, isAgg, underlying, Tryd.underlying57, hb, Result.andThen, as_directE, storeVar, Value.cells, storeCells, Addr.add]
  rw [run_store Tryd.prog W ta _ _ (by rfl)]
  simp [ht, hf]
/-- what lies in the variable errors.errorType -/
def errT : Value := .iface 101 (.agg #[.pointer (some ⟨3, 26, none⟩)])
/-- the world behind the call -/
def asW (n : Int) (t : Addr) (w : World) : World := ((((w.alloc (.cells #[.pointer (some t)] 67)).alloc (.cells #[.pointer (some ⟨3, 67, none⟩), .pointer (some ⟨w.heap.size, 0, none⟩), .int .u64 150] 85)).alloc (.cells #[.pointer (some ⟨3, 67, none⟩), .pointer (some ⟨w.heap.size, 0, none⟩), .int .u64 150] 85)).alloc (.cells #[.int .i64 n] 57)).setCell t (.int .i64 n)
set_option maxHeartbeats 4000000 in
theorem as_hit (n : Int) (t : Addr) (old : Value) (w : World) (hg : w.cell? ⟨0, 0, none⟩ = some (.iface 101 (.agg #[.pointer (some ⟨3, 26, none⟩)]))) (ht0 : w.cell? t = some old) (hf0 : w.frozen? t = false) :
    Calls Tryd.prog 37 #[.iface 57 (.int .i64 n), .iface 67 (.pointer (some t))] w fun ev w' => ev = .returned (.bool true) ∧ w' = ((((w.alloc (.cells #[.pointer (some t)] 67)).alloc (.cells #[.pointer (some ⟨3, 67, none⟩), .pointer (some ⟨w.heap.size, 0, none⟩), .int .u64 150] 85)).alloc (.cells #[.pointer (some ⟨3, 67, none⟩), .pointer (some ⟨w.heap.size, 0, none⟩), .int .u64 150] 85)).alloc (.cells #[.int .i64 n] 57)).setCell t (.int .i64 n) := by
  have h6 := @run_callFunc_extern Tryd.prog 51 _ (fun args => ReflectliteValue.unpack (args.getD 0 (.tuple #[]))) Tryd.func51 (by kernel_rfl) (by kernel_rfl) (by kernel_rfl) (by kernel_rfl)
  have h7 := @run_callFunc_extern Tryd.prog 52 _ (ReflectliteValue.methodAny (ReflectliteValue.valueError "reflectlite.Value.Type" 0) (fun t _ _ _ => ReflectliteType.toType t)) Tryd.func52 (by kernel_rfl) (by kernel_rfl) (by kernel_rfl) (by kernel_rfl)
  have h8 := @run_callFunc_extern Tryd.prog 53 _ (ReflectliteValue.method (ReflectliteValue.valueError "reflectlite.Value.IsNil" 0) ReflectliteValue.isNil) Tryd.func53 (by kernel_rfl) (by kernel_rfl) (by kernel_rfl) (by kernel_rfl)
  have h27 := @run_callFunc_extern Tryd.prog 84 _ (ReflectliteType.abiMethod fun t => do pure (.int .u8 (← Rtype.kind t))) Tryd.func84 (by kernel_rfl) (by kernel_rfl) (by kernel_rfl) (by kernel_rfl)
  have h37 := @run_callFunc_extern Tryd.prog 94 _ (ReflectliteType.method ReflectliteType.elem) Tryd.func94 (by kernel_rfl) (by kernel_rfl) (by kernel_rfl) (by kernel_rfl)
  have h38 := @run_callFunc_extern Tryd.prog 95 _ (ReflectliteType.relation "Implements" ReflectliteType.implements_) Tryd.func95 (by kernel_rfl) (by kernel_rfl) (by kernel_rfl) (by kernel_rfl)
  have h10 := @run_callFunc_extern Tryd.prog 64 _ ReflectliteType.typeOf Tryd.func64 (by kernel_rfl) (by kernel_rfl) (by kernel_rfl) (by kernel_rfl)
  have h35 := @run_callFunc_extern Tryd.prog 92 _ (ReflectliteType.relation "AssignableTo" ReflectliteType.assignableTo) Tryd.func92 (by kernel_rfl) (by kernel_rfl) (by kernel_rfl) (by kernel_rfl)
  have h11 := @run_callFunc_extern Tryd.prog 65 _ (ReflectliteValue.method (ReflectliteValue.valueError "reflectlite.Value.Elem" 0) ReflectliteValue.elem) Tryd.func65 (by kernel_rfl) (by kernel_rfl) (by kernel_rfl) (by kernel_rfl)
  have h12 := @run_callFunc_extern Tryd.prog 66 _ ReflectliteValue.set Tryd.func66 (by kernel_rfl) (by kernel_rfl) (by kernel_rfl) (by kernel_rfl)
  have tO := as_typeOfE
  have mA := as_methodAssignableTo
  have aE := as_assignableE
  have vE := as_valueOfE
  have f6 := as_valueOfP
  have f7 := as_typeP
  have mK := as_methodKind
  have mE := as_methodElem
  have mI := as_methodImplements
  have kP := as_kindP
  have kE := as_kindE
  have eP := as_elemP
  have iE := as_implementsE
  have n8 := as_isNilP ⟨w.heap.size, 0, none⟩ t ((w.alloc (.cells #[.pointer (some t)] 67)).alloc (.cells #[.pointer (some ⟨3, 67, none⟩), .pointer (some ⟨w.heap.size, 0, none⟩), .int .u64 150] 85)) (by simp)
  have hlt : 0 < w.heap.size := by
    rcases Nat.eq_zero_or_pos w.heap.size with h0 | h
    · simp [World.cell?, h0] at hg
    · exact h
  have hg2 : ((w.alloc (.cells #[.pointer (some t)] 67)).alloc (.cells #[.pointer (some ⟨3, 67, none⟩), .pointer (some ⟨w.heap.size, 0, none⟩), .int .u64 150] 85)).cell? ⟨0, 0, none⟩ = some (.iface 101 (.agg #[.pointer (some ⟨3, 26, none⟩)])) := by
    rw [World.cell?_alloc_lt _ _ ⟨0, 0, none⟩ (by simp), World.cell?_alloc_lt _ _ ⟨0, 0, none⟩ hlt]; exact hg
  have htl : t.block < w.heap.size := by
    rcases Nat.lt_or_ge t.block w.heap.size with h | h
    · exact h
    · simp [World.cell?, Array.getElem?_eq_none h] at ht0
  have el := as_elemVP ⟨w.heap.size, 0, none⟩ t (((w.alloc (.cells #[.pointer (some t)] 67)).alloc (.cells #[.pointer (some ⟨3, 67, none⟩), .pointer (some ⟨w.heap.size, 0, none⟩), .int .u64 150] 85)).alloc (.cells #[.pointer (some ⟨3, 67, none⟩), .pointer (some ⟨w.heap.size, 0, none⟩), .int .u64 150] 85)) (by rw [World.cell?_alloc_lt _ _ ⟨w.heap.size, 0, none⟩ (by simp; omega)]; simp)
  have st := as_setE t ⟨w.heap.size + 1 + 1 + 1, 0, none⟩ n old ((((w.alloc (.cells #[.pointer (some t)] 67)).alloc (.cells #[.pointer (some ⟨3, 67, none⟩), .pointer (some ⟨w.heap.size, 0, none⟩), .int .u64 150] 85)).alloc (.cells #[.pointer (some ⟨3, 67, none⟩), .pointer (some ⟨w.heap.size, 0, none⟩), .int .u64 150] 85)).alloc (.cells #[.int .i64 n] 57))
    (by rw [World.cell?_alloc_at _ _ _ _ (by simp)]; rfl)
    (by rw [World.cell?_alloc_lt _ _ t (by simp; omega), World.cell?_alloc_lt _ _ t (by simp; omega), World.cell?_alloc_lt _ _ t (by simp; omega), World.cell?_alloc_lt _ _ t htl]; exact ht0)
    (by rw [World.frozen?_alloc_old _ _ t (by simp; omega), World.frozen?_alloc_old _ _ t (by simp; omega), World.frozen?_alloc_old _ _ t (by simp; omega), World.frozen?_alloc_old _ _ t (Nat.ne_of_lt htl)]; exact hf0)
  go_enter Tryd.func37, Tryd.ntmps37
  go_wp2
  refine wp_loop_rounds 1 ?_
  rw [rounds_succ]
  go_wp2
  go_ret
  exact ⟨rfl, rfl⟩
end Go.Proofs.YtmgcnijpoklhkaaDoor
namespace Go.Proofs.YtmgcnijpoklhkaaDoor
open Go.KRun Go.RowKit
set_option maxRecDepth 100000
def known (w : World) : Prop := w.cell? ⟨0, 0, none⟩ = some errT
set_option maxHeartbeats 4000000 in
theorem num_calls (n : Int) (w : World) (hg : known w) : Calls Tryd.prog 10 #[.iface 57 (.int .i64 n)] w fun e w' => e = .returned (.int .i64 n) ∧ Tidy w w' := by
  have hlt : 0 < w.heap.size := by
    rcases Nat.eq_zero_or_pos w.heap.size with h0 | h
    · unfold known at hg
      simp [World.cell?, h0] at hg
    · exact h
  have hg1 : (w.alloc (.cells #[.int .i64 0] 57)).cell? ⟨0, 0, none⟩ = some errT := by
    rw [World.cell?_alloc_lt _ _ ⟨0, 0, none⟩ hlt]; exact hg
  have ht1 : (w.alloc (.cells #[.int .i64 0] 57)).cell? ⟨w.heap.size, 0, none⟩ = some (.int .i64 0) := by simp
  have hf1 : (w.alloc (.cells #[.int .i64 0] 57)).frozen? ⟨w.heap.size, 0, none⟩ = false := by simp
  have hit := as_hit n ⟨w.heap.size, 0, none⟩ (.int .i64 0) _ hg1 ht1 hf1
  have hb : (w.alloc (.cells #[.int .i64 0] 57)).heap[w.heap.size]? = some (.cells #[.int .i64 0] 57 (0, 0)) := heap_alloc_at w _
  have hcell : (asW n ⟨w.heap.size, 0, none⟩ (w.alloc (.cells #[.int .i64 0] 57))).cell? ⟨w.heap.size, 0, none⟩ = some (.int .i64 n) ∧ Tidy w (asW n ⟨w.heap.size, 0, none⟩ (w.alloc (.cells #[.int .i64 0] 57))) := by
    unfold asW
    have t1 := tidy_alloc w #[.int .i64 0] 57
    generalize hw1 : w.alloc (.cells #[.int .i64 0] 57) = w1 at *
    have s1 : w.heap.size < w1.heap.size := by rw [← hw1, size_alloc']; omega
    have t2 := tidy_alloc w1 #[.pointer (some ⟨w.heap.size, 0, none⟩)] 67
    have q2 := heap_alloc_ne w1 (.cells #[.pointer (some ⟨w.heap.size, 0, none⟩)] 67) w.heap.size (by omega)
    have s2 := size_alloc' w1 (.cells #[.pointer (some ⟨w.heap.size, 0, none⟩)] 67)
    generalize w1.alloc (.cells #[.pointer (some ⟨w.heap.size, 0, none⟩)] 67) = w2 at *
    have t3 := tidy_alloc w2 #[.pointer (some ⟨3, 67, none⟩), .pointer (some ⟨w1.heap.size, 0, none⟩), .int .u64 150] 85
    have q3 := heap_alloc_ne w2 (.cells #[.pointer (some ⟨3, 67, none⟩), .pointer (some ⟨w1.heap.size, 0, none⟩), .int .u64 150] 85) w.heap.size (by omega)
    have s3 := size_alloc' w2 (.cells #[.pointer (some ⟨3, 67, none⟩), .pointer (some ⟨w1.heap.size, 0, none⟩), .int .u64 150] 85)
    generalize w2.alloc (.cells #[.pointer (some ⟨3, 67, none⟩), .pointer (some ⟨w1.heap.size, 0, none⟩), .int .u64 150] 85) = w3 at *
    have t4 := tidy_alloc w3 #[.pointer (some ⟨3, 67, none⟩), .pointer (some ⟨w1.heap.size, 0, none⟩), .int .u64 150] 85
    have q4 := heap_alloc_ne w3 (.cells #[.pointer (some ⟨3, 67, none⟩), .pointer (some ⟨w1.heap.size, 0, none⟩), .int .u64 150] 85) w.heap.size (by omega)
    have s4 := size_alloc' w3 (.cells #[.pointer (some ⟨3, 67, none⟩), .pointer (some ⟨w1.heap.size, 0, none⟩), .int .u64 150] 85)
    generalize w3.alloc (.cells #[.pointer (some ⟨3, 67, none⟩), .pointer (some ⟨w1.heap.size, 0, none⟩), .int .u64 150] 85) = w4 at *
    have t5 := tidy_alloc w4 #[.int .i64 n] 57
    have q5 := heap_alloc_ne w4 (.cells #[.int .i64 n] 57) w.heap.size (by omega)
    generalize w4.alloc (.cells #[.int .i64 n] 57) = w5 at *
    have hb5 : w5.heap[w.heap.size]? = some (.cells #[.int .i64 0] 57 (0, 0)) := by rw [q5, q4, q3, q2]; exact hb
    exact ⟨cell_of_one (one_setCell hb5), tidy_setCell (tidy_trans t1 (tidy_trans t2 (tidy_trans t3 (tidy_trans t4 t5)))) (Nat.le_refl _) hb5 _⟩
  obtain ⟨W', hc1, hc2, hit'⟩ : ∃ W' : World, W'.cell? ⟨w.heap.size, 0, none⟩ = some (.int .i64 n) ∧ Tidy w W' ∧ Calls Tryd.prog 37 #[.iface 57 (.int .i64 n), .iface 67 (.pointer (some ⟨w.heap.size, 0, none⟩))] (w.alloc (.cells #[.int .i64 0] 57)) fun ev w' => ev = .returned (.bool true) ∧ w' = W' := ⟨_, hcell.1, hcell.2, hit⟩
  clear hit hcell hb hf1 ht1 hg1 hlt hg
  go_enter Tryd.func10, Tryd.ntmps10
  go_wp2_with (go_at_call 37; refine hit'.mono ?_; rintro e w' ⟨rfl, rfl⟩)
  go_ret
  exact ⟨rfl, hc2⟩
def eqA : List Value → Bool
  | [.pointer (some ⟨g, e, none⟩)] => Nat.beq g 3 && Nat.beq e 26
  | _ => false
def eqE : Value → Bool
  | .iface r (.agg a) => Nat.beq r 101 && eqA a.toList
  | _ => false
def kOk : List Value → Bool
  | [.iface d v] => Nat.beq d dead && eqE v
  | _ => false
def kV : List Value := [.iface dead errT]
def kT : TypeId := 3 * dead
theorem eqE_spec {v : Value} (h : eqE v = true) : v = errT := by
  unfold eqE at h
  split at h
  · rename_i r a
    simp only [Bool.and_eq_true] at h
    obtain ⟨h1, h2⟩ := h
    have h1 := Nat.eq_of_beq_eq_true h1
    unfold eqA at h2
    split at h2
    · rename_i g e ha
      simp only [Bool.and_eq_true] at h2
      have h3 := Nat.eq_of_beq_eq_true h2.1
      have h4 := Nat.eq_of_beq_eq_true h2.2
      have ea : a = #[.pointer (some ⟨g, e, none⟩)] := by
        apply Array.toList_inj.1
        rw [ha]
      rw [ea, h1, h3, h4]
      rfl
    · cases h2
  · cases h
theorem kOk_spec {cs : List Value} (h : kOk cs = true) : cs = kV := by
  unfold kOk at h
  split at h
  · rename_i d v
    simp only [Bool.and_eq_true] at h
    rw [Nat.eq_of_beq_eq_true h.1, eqE_spec h.2]
    rfl
  · cases h
def gNum : AnsH := fun vals h s =>
  match vals, h.blk? 0 with
  | [.iface t (.int .i64 n)], some (cs, ty) => some (.int .i64 n, h, s, [(Nat.beq t 57 && Nat.beq ty kT && kOk cs, true)])
  | _, _ => none
theorem known_of_blk {w : World} {r : List Value} {t : TypeId} {z : Nat × Nat} (h : w.heap[0]? = some (.cells (errT :: r).toArray t z)) : known w := by
  unfold known World.cell?
  simp [h]
theorem gNum_ok : AnsHOk 10 gNum := by
  intro vals h s v h' s' lg hg hl m B w E hv
  unfold gNum at hg
  split at hg
  · rename_i t n cs ty hb
    cases hg
    have h1 := hl _ (List.mem_singleton.2 rfl)
    simp only [Bool.and_eq_true] at h1
    obtain ⟨⟨e1, e2⟩, e3⟩ := h1
    have e1 := Nat.eq_of_beq_eq_true e1
    have e2 := Nat.eq_of_beq_eq_true e2
    have e3 := kOk_spec e3
    subst e1 e2 e3
    obtain ⟨_, r, t', z, k2, _⟩ := E.abs 0 _ hb (by kernel_rfl)
    have hk : known w := known_of_blk (r := r) (t := t') (z := z) (by
      have e4 : kV.map (mv1 m) = [errT] := by rfl
      have e5 : nbA kT = 0 := by kernel_rfl
      rw [e4] at k2
      simp only [e5] at k2
      exact k2)
    refine (num_calls n w hk).mono fun e w' he => ?_
    obtain ⟨E', hb'⟩ := clean_emb E he.2
    exact ⟨m, he.1, ⟨Agree.refl _ _, E', hb', Nat.le_refl _, rfl⟩⟩
  · cases hg
def hK : Hp := ⟨1, [(kV, kT)]⟩
theorem blkK {b : Nat} {x : List Value × TypeId} (h : hK.blk? b = some x) : x = (kV, kT) := by
  have hb0 : b = 0 := by have : b < 1 := Hp.blk_lt h; omega
  subst hb0
  exact (Option.some.inj h).symm
theorem startK {w : World} (hk : known w) : Emb (fun b => (b, 0)) w.heap.size hK w where
  len := rfl
  lies := fun b x hb hx => by rw [blkK hb, show tomb kT = true from by kernel_rfl] at hx; cases hx
  low := fun b x hb hx => by rw [blkK hb, show ro kT = true from by kernel_rfl] at hx; cases hx
  ros := fun b x hb hx => by rw [blkK hb, show tomb kT = true from by kernel_rfl] at hx; cases hx
  inj := fun b b' x x' hb _ hx => by rw [blkK hb, show ro kT = true from by kernel_rfl] at hx; cases hx
  wf := fun b x hb v hv => by
    rw [blkK hb] at hv
    rw [List.mem_singleton.1 hv]
    rfl
  base := Nat.le_refl _
  ice := fun k h1 h2 => by omega
  abs := fun b x hb _ => by
    rw [blkK hb]
    have e5 : nbA kT = 0 := by kernel_rfl
    have e6 : lnA kT = 0 := by kernel_rfl
    have e4 : kV.map (mv1 fun b => (b, 0)) = [errT] := by rfl
    unfold absR
    simp only [e5, e4, e6]
    unfold known World.cell? at hk
    simp only at hk
    cases h0 : w.heap[0]? with
    | none => rw [h0] at hk; simp at hk
    | some o =>
      have hlt := (Array.getElem?_eq_some_iff.1 h0).1
      rw [h0] at hk
      cases o with
      | cells c t z =>
        refine ⟨hlt, c.toList.drop 1, t, z, ?_, .inl trivial⟩
        have hc : c.toList[0]? = some errT := by simpa using hk
        have : [errT] ++ c.toList.drop 1 = c.toList := by
          cases hl : c.toList with
          | nil => rw [hl] at hc; simp at hc
          | cons a l =>
            rw [hl] at hc
            simp at hc
            simp [hc]
        rw [this]
      | _ => simp at hk
end Go.Proofs.YtmgcnijpoklhkaaDoor
namespace Go.KRun
open Go.RowKit
def reckonAt (T : Tab) (h0 : Hp) (n : Nat) (f : Nat) (vals : List Value) (s : List Dec) : Option (Value × Hp × List Dec × Lg) := callBy T (evC T n false) f vals h0 s ⟨[], [], []⟩
theorem fitsAt_calls {T : Tab} (hT : TabOk T) {h0 : Hp} {n f : Nat} {vals : List Value} {s : List Dec} {v : Value} {cs : Log} (hF : Fits (reckonAt T h0 n f vals s) v cs) (hcs : okLog cs) (hvals : (vals.all (lt h0.n)) = true) (hv : lt 0 v = true) {m : Mp} {w : World} (E : Emb m w.heap.size h0 w) :
    Calls T.P f (vals.map (mv m)).toArray w fun e w' => e = .returned v ∧ Tidy w w' := by
  obtain ⟨h1, h2, h3, h4⟩ := hF
  cases hr : reckonAt T h0 n f vals s with
  | none => rw [hr] at h1; cases h1
  | some r =>
    rw [hr] at h1 h2 h3 h4
    simp only [Option.map_some, Option.some.injEq] at h1 h2 h3 h4
    obtain ⟨v', h', s', L⟩ := r
    simp only at h1 h2 h3 h4
    subst h1
    obtain ⟨_, _, h5⟩ := callBy_ok hT (evC_ok hT n).1 _ _ _ _ _ _ _ _ _ hr ⟨by rw [h2]; exact hcs, all_eq _ h3, all_eq _ h4⟩
    refine (h5 _ _ w E (List.all_eq_true.1 hvals)).mono fun en w' he => ?_
    obtain ⟨m', rfl, C⟩ := he
    exact ⟨by rw [mv_still hv], C.below, fun k h1 h2 => C.emb.ice k h1 h2⟩
/-- the same, where the arguments hold no address -/
theorem fitsAt_still {T : Tab} (hT : TabOk T) {h0 : Hp} {n f : Nat} {vals : List Value} {s : List Dec} {v : Value} {cs : Log} (hF : Fits (reckonAt T h0 n f vals s) v cs) (hcs : okLog cs) (hvals : (vals.all (lt 0)) = true) (hv : lt 0 v = true) {m : Mp} {w : World} (E : Emb m w.heap.size h0 w) :
    Calls T.P f vals.toArray w fun e w' => e = .returned v ∧ Tidy w w' := by
  have hst : ∀ y ∈ vals, lt 0 y = true := List.all_eq_true.1 hvals
  have e : vals.map (mv m) = vals := (List.map_congr_left fun y hy => mv_still (hst y hy)).trans (List.map_id' _)
  have := fitsAt_calls hT hF hcs (List.all_eq_true.2 fun y hy => lt_mono (Nat.zero_le _) (hst y hy)) hv E
  rw [e] at this
  exact this
end Go.KRun
namespace Go.Proofs.YtmgcnijpoklhkaaDoor
open Go.KRun Go.Nt Go.Wd
set_option maxRecDepth 100000
def piI : List Int := [953160567, 1160258022, 3964562569, 137296536, 698298832, 2752067618, 57701188, 320440878, 2242054355, 608135816, 3]
def piN : Nat := v32 (wU piI) 0 11
theorem pi_body : GoesT (evC (tabH Tryd.prog extY conN hcO) 100 false (cBody Tryd.f9) (List.replicate 3 undef, ⟨0, []⟩, [cmp true]) ⟨[], [], []⟩) 1 2 (some none) [sl 1 0 (d16 piN).length (d16 piN).length] ⟨2, [(wU (d16 piN), tU), (wU piI, tU)]⟩ [(true, true), (true, true)] := ⟨by kernel_rfl, by kernel_rfl, by kernel_rfl⟩
theorem pi_cbody : Tryd.f9.body = some (cBody Tryd.f9) := by kernel_rfl
def gPi15 : AnsH := fun vals h s =>
  match vals with
  | [] => mk16 piN h s []
  | _ => none
theorem pi_res (L : Nat) (h : Hp) (g : Nat → Value) : resS Tryd.prog Tryd.f9 ([sl 1 0 L L] ++ tl 2 g) h = some (sl 1 0 L L) := rfl
theorem pi_blk (A B : List Value × TypeId) : (⟨2, [A, B]⟩ : Hp).blk? 1 = some A := rfl
theorem gPi15_ok : AnsHOk 9 gPi15 := by
  intro vals h s v h' s' lg hg hl m B w E hv
  unfold gPi15 at hg
  split at hg
  · unfold mk16 at hg
    cases hg
    have r : Runs (tabH Tryd.prog extY conN hcO) (cBody Tryd.f9) ([] ++ List.replicate 3 undef, ⟨0, []⟩, []) fun e z => (e = none ∨ e = some none) ∧ resS Tryd.prog Tryd.f9 z.1 z.2.1 = some (sl 1 0 (d16 piN).length (d16 piN).length) ∧ ∃ r, z.2.1.blk? 1 = some (wU (d16 piN) ++ r, tU) := by
      refine (goesT_runs (tabH_ok conN_ok hcO_ok) pi_body (okTs rfl)).mono fun e z he => ?_
      obtain ⟨rfl, ⟨g, e1⟩, e2⟩ := he
      have hb := pi_blk (wU (d16 piN), tU) (wU piI, tU)
      have hr := pi_res (d16 piN).length
      refine ⟨.inr rfl, ?_, [], ?_⟩
      · rw [e1]
        exact hr _ g
      · rw [e2, List.append_nil]
        exact hb
    generalize hL : (d16 piN).length = L at r ⊢
    have hA : ∀ u ∈ wU (d16 piN), lt1 0 u = true := wU_lt _
    generalize wU (d16 piN) = A at r hA ⊢
    have := row_calls1 (T := tabH Tryd.prog extY conN hcO) Tryd.func9 pi_cbody (h0 := ⟨0, []⟩) ⟨rfl, fun b x hx => by have : b < 0 := Hp.blk_lt hx; omega⟩ (vals := []) (fun v hv => by cases hv) (k := 1) (cs := A) (ty := tU) hA (by kernel_rfl) r.w (by rfl) E (s := fun i => i) (fun i x hx _ => by have : i < 0 := Hp.blk_lt hx; omega)
    have e2 : rn (fun _ => h.n) (sl 1 0 L L) = sl h.n 0 L L := by simp [rn, rn2, rn1, sl]
    rw [e2] at this
    exact this
  · cases hg
theorem pa_nil (o n c : Nat) (l : List Value) : GoesT (evC (tabH Tryd.prog extY conN hcU) 100 false (cBody Tryd.f31) ([nilS, sl 0 o n c] ++ List.replicate 93 undef, ⟨1, [(l, tR)]⟩, []) ⟨[], [], []⟩) 6 89 (some none) [nilS, sl 0 o n c, .tuple #[], .tuple #[], sl 1 0 0 0, nilS] ⟨2, [([], tU), (l, tR)]⟩ [(true, true)] := ⟨by kernel_rfl, by kernel_rfl, by kernel_rfl⟩
theorem pa_cbody : Tryd.f31.body = some (cBody Tryd.f31) := by kernel_rfl
def gPaU : AnsH := fun vals h s =>
  match vals with
  | [.slice none 0 0, .slice (some ⟨b, o, none⟩) n c] => some (.tuple #[sl h.n 0 (d16 0).length (d16 0).length, nilS], h.push (wU (d16 0)) tU, s, [(rowP h (some ⟨b, o, none⟩) n c, true)])
  | _ => gPaT vals h s
theorem gPaU_ok : AnsHOk 31 gPaU := by
  intro vals h s v h' s' lg hg hl m B w E hv
  unfold gPaU at hg
  split at hg
  · rename_i b o n c
    cases hg
    have l1 := hl _ (List.mem_singleton.2 rfl)
    simp only at l1
    rw [d16_0]
    rcases rowP_cases l1 with ⟨h0, _⟩ | ⟨b', o', y, hp, hy, t1, ts, f0⟩
    · cases h0
    · cases hp
      obtain ⟨b1, b2, b3, b4, b5, b6, b7⟩ := rowC_of t1
      have r : Runs (tabH Tryd.prog extY conN hcU) (cBody Tryd.f31) ([nilS, sl 0 o n c] ++ List.replicate 93 undef, ⟨1, [(y.1, tR)]⟩, []) fun e z => (e = none ∨ e = some none) ∧ resS Tryd.prog Tryd.f31 z.1 z.2.1 = some (.tuple #[sl 1 0 0 0, nilS]) ∧ ∃ r, z.2.1.blk? 1 = some (wU [] ++ r, tU) := by
        refine (goesT_runs (tabH_ok conN_ok hcU_ok) (pa_nil o n c y.1) (okTs rfl)).mono fun e z he => ?_
        obtain ⟨rfl, ⟨g, e1⟩, e2⟩ := he
        exact ⟨.inr rfl, by rw [e1, e2]; rfl, [], by rw [e2]; rfl⟩
      have evals : List.map (rn fun _ => b) [nilS, sl 0 o n c] = [.slice none 0 0, .slice (some ⟨b, o, none⟩) n c] := by simp [rn, rn2, rn1, sl, nilS]
      have := row_calls1 (T := tabH Tryd.prog extY conN hcU) Tryd.func31 pa_cbody (rows1 b7) (vals := [nilS, sl 0 o n c]) (fun v hv => by
        simp only [List.mem_cons, List.not_mem_nil, or_false] at hv
        rcases hv with rfl | rfl <;> rfl) (k := 1) (cs := wU []) (ty := tU) (wU_lt _) (by kernel_rfl) r.w (by rfl) E (s := fun _ => b) (fitsR1 hy b5 b6 rfl)
      rw [evals] at this
      have e2 : rn (fun _ => h.n) (.tuple #[sl 1 0 0 0, nilS]) = .tuple #[sl h.n 0 0 0, nilS] := by simp [rn, rn2, rn1, sl, nilS]
      rw [e2] at this
      exact this
  · exact gPaT_ok _ _ _ _ _ _ _ hg hl m B w E hv
def hcOf : Hc := altH 12 gOf5 (altH 32 gUof (altH 20 gUshlT (altH 31 gPaU (altH 33 gUlen (altH 8 gUshrT (altH 11 gUcmpT (altH 9 gPi15 (altH 10 gNum hcN))))))))
theorem hcOf_ok : HcOk hcOf := altH_ok Tryd.func12 rfl gOf5_ok (altH_ok Tryd.func32 rfl gUof_ok (altH_ok Tryd.func20 rfl gUshlT_ok (altH_ok Tryd.func31 rfl gPaU_ok (altH_ok Tryd.func33 rfl gUlen_ok (altH_ok Tryd.func8 rfl gUshrT_ok (altH_ok Tryd.func11 rfl gUcmpT_ok (altH_ok Tryd.func9 rfl gPi15_ok (altH_ok Tryd.func10 rfl gNum_ok hcN_ok))))))))
theorem N5.can {h : Hp} {p : Option Addr} {n V : Nat} (A : N5 h p n V) : canB (rowOf h p n) = true := by
  rw [A.eq]
  exact canB_mk (can_db (by omega) V)
theorem N5.lenO {h : Hp} {p : Option Addr} {n V : Nat} (A : N5 h p n V) : (rowP h p n n && canB (rowOf h p n) && Nat.blt n 1073741824) = true := by
  have := A.lt
  rw [A.row, A.can, blt_iff.2 (by omega)]
  rfl
theorem N5.pa {h : Hp} {p q : Option Addr} {n m V W : Nat} (A : N5 h p n V) (B : N5 h q m W) (h0 : 0 < n) (h1 : 0 < m) : okPa h p q n n m m = true := by
  have := A.lt
  have := B.lt
  unfold okPa
  rw [A.row, A.dg, B.row, B.can, blt_iff.2 (show n < 1000000 by omega), blt_iff.2 (show m < 1000000 by omega), blt_iff.2 h0, blt_iff.2 h1]
  rfl
theorem N5.paV {h : Hp} {p q : Option Addr} {n m V W Q R : Nat} (A : N5 h p n V) (B : N5 h q m W) (hQ : V / W = Q) (hR : V % W = R) : decide (Go.Proofs.YtmgcnijpoklhkaaDoor.vO h p n / Go.Proofs.YtmgcnijpoklhkaaDoor.vO h q m = Q ∧ Go.Proofs.YtmgcnijpoklhkaaDoor.vO h p n % Go.Proofs.YtmgcnijpoklhkaaDoor.vO h q m = R) = true := by
  rw [A.vO, B.vO]
  exact decide_eq_true ⟨hQ, hR⟩
theorem N5.blV {h : Hp} {p : Option Addr} {n V : Nat} {d : Bool} (A : N5 h p n V) (hd : decide (((bl V : Nat) : Int) > 256) = d) : decide (((bl (Go.Proofs.YtmgcnijpoklhkaaDoor.vO h p n) : Nat) : Int) > 256) = d := by
  rw [A.vO]
  exact hd
end Go.Proofs.YtmgcnijpoklhkaaDoor
namespace Go.KRun
open Go.ChangeShapes Go.WideShapes Go.ChangeAt Go.RowKit Go.Joins
theorem tidy_frozen {w w' : World} (h : Tidy w w') (a : Addr) : w'.frozen? a = w.frozen? a := by
  unfold World.frozen?
  by_cases h1 : a.block < w.heap.size
  · rw [h.1.block _ h1]
  · rw [Array.getElem?_eq_none (by omega : w.heap.size ≤ a.block)]
    by_cases h2 : a.block < w'.heap.size
    · have h3 := h.2 a.block (by omega) h2
      unfold iced at h3
      split
      · rename_i c e lo hi hc
        have := h3 _ _ _ hc
        cases this
        simp
      · rfl
    · rw [Array.getElem?_eq_none (by omega : w'.heap.size ≤ a.block)]
theorem u64_bounds {n : Int} (h : (Lit.int .u64 n).wf = true) : 0 ≤ n ∧ n < 18446744073709551616 := by
  simp [Lit.wf, IntKind.min, IntKind.max, IntKind.signed, IntKind.bits] at h
  omega
end Go.KRun
