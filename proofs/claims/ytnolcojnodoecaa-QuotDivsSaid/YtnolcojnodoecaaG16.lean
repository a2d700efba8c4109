/-
  The document's quotient and rest (tillerref02.Parts), as a contract: two rows that are numbers, none of them 0 words long.
-/
import Derived.Test.YtnolcojnodoecaaG15
import Derived.Test.YtnolcojnodoecaaG09
import Derived.Test.YtnolcojnodoecaaG13
import Derived.Test.YtnolcojnodoecaaG10
namespace Go.Proofs.Ytnolcojnodoecaa
open Go.KRun Go.Nt
set_option maxRecDepth 100000
set_option linter.unusedVariables false

section
variable {la lb : List Value} {o c o' c' : Nat} {A L : List Int}
def okV (v10 v11 : Value) : Prop := KRun.lt 4 v10 = true ∧ KRun.lt 4 v11 = true ∧ (∀ k b : Nat, rn (keepK k b) v10 = v10) ∧ (∀ k b : Nat, rn (keepK k b) v11 = v11)
def pNum (A L : List Int) (i V : Nat) (Q : List Int) : Prop := i ≤ A.length ∧ Q.length = A.length ∧ (∀ x ∈ Q, Dg 65536 x) ∧ (∀ j, j < i → Q.getD j 0 = 0) ∧ vb 65536 (A.drop i) = vb 65536 (Q.drop i) * vb 65536 L + V ∧ V < vb 65536 L
def pInv (o c o' c' : Nat) (la lb : List Value) (A L : List Int) (i : Nat) (z : Lf) : Prop :=
  ∃ V Q, pNum A L i V Q ∧ ∃ v10 v11 r, okV v10 v11 ∧ (∃ g, z.1 = pFr o A.length c o' L.length c' A.length r (((i : Nat) : Int) - 1) v10 v11 ++ tl 83 g) ∧ rIn V Q la lb r z.2.1 ∧ (i < A.length → r = sl 3 0 (d16 V).length (d16 V).length ∧ z.2.1 = hB4 (wU (d16 V)) (wU Q) lb la)
theorem pNum_step (H : Two la lb o o' c' A L) {k V : Nat} {Q : List Int} (h : pNum A L (k + 1) V Q) : pNum A L k (((A.getD k 0).toNat + 65536 * V) % vb 65536 L) (if (A.getD k 0).toNat + 65536 * V < vb 65536 L then Q else Q.set k ((((A.getD k 0).toNat + 65536 * V) / vb 65536 L : Nat) : Int)) := by
  obtain ⟨h1, h2, h3, h4, h5, h6⟩ := h
  have hB := H.bnd.2.2
  have hd := at_dg H.dA k
  have hA : vb 65536 (A.drop k) = (A.getD k 0).toNat + 65536 * vb 65536 (A.drop (k + 1)) := vb_dropP (by omega)
  obtain ⟨W, hW⟩ : ∃ W, W = (A.getD k 0).toNat + 65536 * V := ⟨_, rfl⟩
  have hWB : W < 65536 * vb 65536 L := by
    have := hd.2
    have := hd.1
    have h3 : 65536 * V + 65536 ≤ 65536 * vb 65536 L := by
      have := Nat.mul_le_mul_left 65536 (Nat.succ_le_of_lt h6)
      rw [Nat.mul_succ] at this
      exact this
    omega
  have hq : W / vb 65536 L < 65536 := by rw [Nat.div_lt_iff_lt_mul hB]; exact hWB
  have hdm := Nat.div_add_mod W (vb 65536 L)
  have hml := Nat.mod_lt W hB
  rw [← hW]
  have hk : k < Q.length := by omega
  have hQ : vb 65536 (Q.drop k) = (Q.getD k 0).toNat + 65536 * vb 65536 (Q.drop (k + 1)) := vb_dropP hk
  have key : ∀ q : Nat, vb 65536 (A.drop k) = (q + 65536 * vb 65536 (Q.drop (k + 1))) * vb 65536 L + (W - q * vb 65536 L) ↔ q * vb 65536 L ≤ W ∨ vb 65536 (A.drop k) = (q + 65536 * vb 65536 (Q.drop (k + 1))) * vb 65536 L + (W - q * vb 65536 L) := fun q => by
    refine ⟨.inr, fun h => h.elim (fun h => ?_) id⟩
    rw [hA, h5, Nat.add_mul, Nat.mul_add, Nat.mul_assoc]
    omega
  by_cases hlt : W < vb 65536 L
  · rw [if_pos hlt, Nat.mod_eq_of_lt hlt]
    refine ⟨by omega, h2, h3, fun j hj => h4 j (by omega), ?_, hlt⟩
    have h0 : (Q.getD k 0).toNat = 0 := by rw [h4 k (by omega)]; rfl
    rw [hQ, h0]
    have := (key 0).2 (.inl (by omega))
    rw [Nat.zero_mul, Nat.sub_zero] at this
    exact this
  · rw [if_neg hlt]
    refine ⟨by omega, by rw [List.length_set]; exact h2, set_dg h3 ⟨Int.natCast_nonneg _, by omega⟩ k, fun j hj => ?_, ?_, hml⟩
    · have := h4 j (by omega)
      simp only [List.getD] at *
      rw [List.getElem?_set_ne (by omega)]
      exact this
    · have hk' : k < (Q.set k ((W / vb 65536 L : Nat) : Int)).length := by rw [List.length_set]; exact hk
      have e1 : ((Q.set k ((W / vb 65536 L : Nat) : Int)).getD k 0).toNat = W / vb 65536 L := by
        simp only [List.getD, List.getElem?_set_self hk, Option.getD_some, Int.toNat_natCast]
      have e2 : (Q.set k ((W / vb 65536 L : Nat) : Int)).drop (k + 1) = Q.drop (k + 1) := by rw [List.drop_set_of_lt (by omega)]
      rw [vb_dropP hk', e1, e2]
      have e3 : W % vb 65536 L = W - W / vb 65536 L * vb 65536 L := by rw [Nat.mul_comm] at hdm; omega
      rw [e3]
      exact (key _).2 (.inl (by rw [Nat.mul_comm] at hdm; omega))
theorem pa_outer (H : Two la lb o o' c' A L) {z0 : Lf} (h0 : pInv o c o' c' la lb A L A.length z0) :
    RunsW (tabH Try.prog extY conN hcP) (.block 0 (.loop (paL Try.f25))) z0 fun e z => match e with | none => pInv o c o' c' la lb A L 0 z | some none => False | some (some _) => False := by
  refine RunsW.forLoop (P := pInv o c o' c' la lb A L 0) (R := fun _ => False) (pInv o c o' c' la lb A L) ?_ h0
  rintro m ⟨t, h', s⟩ hI
  obtain ⟨V, Q, hn, v10, v11, r, hv, ⟨g, ht⟩, hr, hrow⟩ := hI
  simp only at ht hr hrow
  subst ht
  cases m with
  | zero =>
    have e0 : (((0 : Nat) : Int) - 1) = -1 := rfl
    rw [pa_loop]
    refine RunsW.seq (goesT_runsW T0_ok (pa_h0 o A.length c o' L.length c' A.length r v10 v11 (((0 : Nat) : Int) - 1) h' g) (okL1 (decide_eq_false (by omega)))) (fun y hy => by cases hy.1) (fun e y hy => ?_)
    obtain ⟨e1, z1, z2⟩ := hy
    cases e1
    exact ⟨rfl, V, Q, hn, v10, v11, r, hv, z1, by rw [z2]; exact hr, fun hl => by rw [z2]; exact hrow hl⟩
  | succ k =>
    have hk : k < A.length := by have := hn.1; omega
    have ek : (((k + 1 : Nat) : Int) - 1) = ((k : Nat) : Int) := by omega
    rw [ek]
    have hn' := pNum_step H hn
    refine (pa_round (c := c) H hn.2.2.2.2.2 (Q := Q) hn.2.1 hk hv hr g s).mono fun e z hz => ?_
    obtain ⟨rfl, V', Q', hV', hQ', u10, u11, hu, z1, z2⟩ := hz
    rw [hV'] at hQ' z1 z2
    rw [← hQ'] at hn'
    exact ⟨k, by omega, _, Q', hn', u10, u11, _, hu, z1, .inr ⟨rfl, z2⟩, fun _ => ⟨rfl, z2⟩⟩
theorem pa_runs (H : Two la lb o o' c' A L) :
    RunsW (tabH Try.prog extY conN hcP) (seqs (paP Try.f25) (.seq (.seq (cFst (paB Try.f25)) (.block 0 (.loop (paL Try.f25)))) (paE Try.f25))) ([sl 0 o A.length c, sl 1 o' L.length c'] ++ List.replicate 93 undef, h2 la lb, []) fun e z => (e = none ∨ e = some none) ∧ ∃ k j, k ≠ j ∧ resS Try.prog Try.f25 z.1 z.2.1 = some (.tuple #[sl k 0 (d16 (vb 65536 A / vb 65536 L)).length (d16 (vb 65536 A / vb 65536 L)).length, sl j 0 (d16 (vb 65536 A % vb 65536 L)).length (d16 (vb 65536 A % vb 65536 L)).length]) ∧ (∃ r, z.2.1.blk? k = some (wU (d16 (vb 65536 A / vb 65536 L)) ++ r, tU)) ∧ ∃ r, z.2.1.blk? j = some (wU (d16 (vb 65536 A % vb 65536 L)) ++ r, tU) := by
  have a2 := H.a2
  have a1 := H.a1
  have hB := H.bnd.2.2
  have mk : okMakeB 4 ((A.length : Nat) : Int) ((A.length : Nat) : Int) = true := by unfold okMakeB; exact decide_eq_true (by omega)
  refine goesT_listW T0_ok (pa_pre o A.length c o' L.length c' la lb) (okOne mk) fun g => ?_
  rw [Int.toNat_natCast]
  have ew : List.replicate A.length (Value.int .u32 0) = wU (List.replicate A.length 0) := by unfold wU; rw [List.map_replicate]
  rw [ew]
  have e1 : IntKind.i64.wrap ((A.length : Int) - 1) = ((A.length : Nat) : Int) - 1 := wrapI (by omega) (by omega)
  refine RunsW.seq (P1 := fun e z => e = none ∧ pInv o c o' c' la lb A L 0 z) ?_ ?_ (fun e y hy => by cases hy.1)
  · have g4 := pa_r4 o A.length c o' L.length c' A.length nilS undef undef undef (hB3 (wU (List.replicate A.length 0)) lb la) g
    rw [e1] at g4
    refine RunsW.next (goesT_runsW T0_ok g4 (fun x hx => by cases hx)) fun g s => ?_
    refine (pa_outer H ⟨0, List.replicate A.length 0, ⟨Nat.le_refl _, by simp, fun x hx => ?_, fun j _ => ?_, ?_, hB⟩, undef, undef, nilS, ⟨rfl, rfl, fun k b => by kernel_rfl, fun k b => by kernel_rfl⟩, ⟨g, rfl⟩, .inl ⟨rfl, rfl, rfl⟩, fun h => absurd h (Nat.lt_irrefl _)⟩).mono fun e z hz => ?_
    · rw [List.eq_of_mem_replicate hx]; exact ⟨by omega, by omega⟩
    · simp only [List.getD, List.getElem?_replicate]
      split <;> rfl
    · rw [List.drop_of_length_le (Nat.le_refl _), List.drop_of_length_le (by simp)]
      simp [vb]
    · match e, hz with
      | none, hz => exact ⟨rfl, hz⟩
      | some none, hz => exact hz.elim
      | some (some _), hz => exact hz.elim
  · rintro ⟨t, h', s⟩ ⟨_, V, Q, hn, v10, v11, r, hv, ⟨g, ht⟩, hr, hrow⟩
    obtain ⟨e2, e3⟩ := hrow (by omega)
    simp only at ht e3
    subst ht e2 e3
    obtain ⟨_, q1, q2, _, q4, q5⟩ := hn
    rw [List.drop_zero, List.drop_zero] at q4
    have hdiv : vb 65536 A / vb 65536 L = vb 65536 Q := by
      rw [q4, Nat.mul_comm, Nat.mul_add_div hB, Nat.div_eq_of_lt q5, Nat.add_zero]
    have hmod : vb 65536 A % vb 65536 L = V := by
      rw [q4, Nat.mul_comm, Nat.mul_add_mod, Nat.mod_eq_of_lt q5]
    have rngQ : ∀ x ∈ Q, 0 ≤ x ∧ x < 4294967296 := fun x hx => ⟨(q2 x hx).1, by have := (q2 x hx).2; omega⟩
    have row : rowC tU (wU Q) 0 A.length A.length = true := by
      have := rowC_wU (L := Q) rngQ (by omega) (c := Q.length) (capS (by omega))
      rw [q1] at this
      exact this
    have cq : cutI (wU Q) 0 A.length = Q := by
      have := cut_wU Q
      rw [q1] at this
      exact this
    have et : trimN Q = (d16 (vb 65536 Q)).length := trim_len (b := 65536) (by omega) q2
    have ge := pa_end o A.length c o' L.length c' A.length (d16 V).length (.int .i64 (((0 : Nat) : Int) - 1)) v10 v11 (wU (d16 V)) (wU Q) lb la g
    rw [cq, et] at ge
    refine (goesT_runsW T0_ok ge (okOne row)).mono fun e z hz => ?_
    obtain ⟨rfl, ⟨g', z1⟩, z2⟩ := hz
    rw [hdiv, hmod]
    refine ⟨.inr rfl, 2, 3, by omega, by rw [z1, z2]; rfl, ⟨wU (Q.drop (trimN Q)), ?_⟩, ⟨[], by rw [z2, List.append_nil]; rfl⟩⟩
    have e4 : wU (d16 (vb 65536 Q)) ++ wU (Q.drop (trimN Q)) = wU Q := by
      unfold d16
      rw [← take_trim (by omega) _ q2, ← wU_append, List.take_append_drop]
    rw [z2, e4]
    rfl
end
def okPa (h : Hp) (p q : Option Addr) (n c n' c' : Nat) : Bool := rowP h p n c && dgB (rowOf h p n) && (rowP h q n' c' && canB (rowOf h q n')) && (Nat.blt n 1000000 && Nat.blt n' 1000000 && Nat.blt 0 n && Nat.blt 0 n')
def gPa : AnsH := fun vals h s =>
  match vals with
  | [.slice (some ⟨b, o, none⟩) n c, .slice (some ⟨b', o', none⟩) n' c'] =>
    some (.tuple #[sl h.n 0 (d16 (vO h (aP b o) n / vO h (aP b' o') n')).length (d16 (vO h (aP b o) n / vO h (aP b' o') n')).length, sl (h.n + 1) 0 (d16 (vO h (aP b o) n % vO h (aP b' o') n')).length (d16 (vO h (aP b o) n % vO h (aP b' o') n')).length],
      (h.push (wU (d16 (vO h (aP b o) n / vO h (aP b' o') n'))) tU).push (wU (d16 (vO h (aP b o) n % vO h (aP b' o') n'))) tU, s, [(okPa h (aP b o) (aP b' o') n c n' c', true)])
  | _ => none
theorem gPa_ok : AnsHOk 25 gPa := by
  intro vals h s v h' s' lg hg hl m B w E0 hv
  unfold gPa at hg
  split at hg
  · rename_i b o n c b' o' n' c'
    cases hg
    have l3 := hl _ (List.mem_singleton.2 rfl)
    simp only [okPa, Bool.and_eq_true] at l3
    obtain ⟨⟨⟨q1, q2⟩, ⟨p1, p2⟩⟩, ⟨⟨⟨r1, r2⟩, r3⟩, r4⟩⟩ := l3
    have q2 := dgB_of q2
    have p2 := canB_of p2
    have r1 := blt_iff.1 r1
    have r2 := blt_iff.1 r2
    have r3 := blt_iff.1 r3
    have r4 := blt_iff.1 r4
    rcases rowP_cases q1 with ⟨h0, _⟩ | ⟨b1, o1, x, hp, hx, k1, ks, e0⟩
    · cases h0
    · cases hp
      rcases rowP_cases p1 with ⟨h0, _⟩ | ⟨b2, o2, y, hp', hy, t1, ts, f0⟩
      · cases h0
      · cases hp'
        rw [e0] at q2
        rw [f0] at p2
        obtain ⟨h1, h2', h3, h4, h5, h6, h7⟩ := rowC_of k1
        obtain ⟨g1, g2, g3, g4, g5, g6, g7⟩ := rowC_of t1
        have ev : vO h (aP b o) n = vb 65536 (cutI x.1 o n) := by unfold vO; rw [e0]
        have ev' : vO h (aP b' o') n' = vb 65536 (cutI y.1 o' n') := by unfold vO; rw [f0]
        have cb : rowC tR y.1 o' n' c' = true := by
          unfold rowC at t1 ⊢
          simp only [Bool.and_eq_true, Bool.not_eq_true'] at t1 ⊢
          obtain ⟨⟨⟨⟨⟨⟨_, _⟩, j3⟩, j4⟩, j5⟩, j6⟩, j7⟩ := t1
          exact ⟨⟨⟨⟨⟨⟨tR_tomb, by kernel_rfl⟩, j3⟩, j4⟩, j5⟩, j6⟩, j7⟩
        have H : Two x.1 y.1 o o' c' (cutI x.1 o n) (cutI y.1 o' n') := ⟨h1, g1, q2, p2, by rw [g2]; omega, by rw [g2]; exact r2, by rw [h2']; omega, by rw [h2']; exact r1, by rw [g2]; exact cb, ts, ks, by rw [g2]⟩
        have r := pa_runs (c := c) H
        rw [h2', g2, ← ev, ← ev'] at r
        have evals : List.map (rn (pair b b')) [sl 0 o n c, sl 1 o' n' c'] = [.slice (some ⟨b, o, none⟩) n c, .slice (some ⟨b', o', none⟩) n' c'] := by
          simp [rn, rn2, rn1, sl, pair]
        have fin := row_callsT (T := tabH Try.prog extY conN hcP) Try.func25 pa_body (rows2 h7 g7) (vals := [sl 0 o n c, sl 1 o' n' c']) (fun v hv => by
          simp only [List.mem_cons, List.not_mem_nil, or_false] at hv
          rcases hv with h1 | h1 <;> rw [h1] <;> rfl) (v := fun k j => .tuple #[sl k 0 (d16 (vO h (aP b o) n / vO h (aP b' o') n')).length (d16 (vO h (aP b o) n / vO h (aP b' o') n')).length, sl j 0 (d16 (vO h (aP b o) n % vO h (aP b' o') n')).length (d16 (vO h (aP b o) n % vO h (aP b' o') n')).length]) (wU_lt _) (wU_lt _) (by kernel_rfl) r (fun k j => by simp [oc, oc2, oc1, sl]) E0 (fitsR2 hx h5 h6 hy g5 g6) (fun k j g => by simp [rn, rn2, rn1, sl])
        rw [evals] at fin
        exact fin
  · cases hg
end Go.Proofs.Ytnolcojnodoecaa

/-
  The document's product (tillerref02.Mul): its pieces.
-/
namespace Go.Proofs.Ytnolcojnodoecaa
open Go.KRun Go.Nt
set_option maxRecDepth 100000
set_option linter.unusedVariables false

def muB (F : Func) : Code := cFst (cSnd (cSnd (cBody F)))
def muO (F : Func) : Code := cIn (cIn (cSnd (muB F)))
def muI (F : Func) : Code := cIn (cFst (cSnd (muO F)))
def muL (F : Func) : Code := cIn (cIn (cSnd (cFst (cSnd (muI F)))))
def muPr (F : Func) : List Code := [cFst (cBody F), cFst (cSnd (cBody F))]
def muE (F : Func) : Code := cSnd (cSnd (cSnd (cBody F)))
theorem umul_body : Try.f34.body = some (seqs (muPr Try.f34) (.seq (.seq (cFst (muB Try.f34)) (.block 0 (.loop (muO Try.f34)))) (muE Try.f34))) := by kernel_rfl
theorem umul_out : muO Try.f34 = .seq (cFst (muO Try.f34)) (.seq (.block 1 (muI Try.f34)) (cSnd (cSnd (muO Try.f34)))) := by kernel_rfl
theorem umul_row : muI Try.f34 = .seq (cFst (muI Try.f34)) (.seq (.seq (cFst (cFst (cSnd (muI Try.f34)))) (.block 2 (.loop (muL Try.f34)))) (cSnd (cSnd (muI Try.f34)))) := by kernel_rfl
def mFr (o n c o' n' c' z : Nat) (i v7 v8 : Value) : List Value := [sl 0 o n c, sl 1 o' n' c', undef, undef, nilS, sl 2 0 z z, i, v7, v8]
def hM3 (lo lb la : List Value) : Hp := ⟨3, [(lo, tU), (lb, tR), (la, tR)]⟩
def zM (n n' : Nat) : Int := IntKind.i64.wrap ((n : Int) + n')
def inM (j : Int) (n : Nat) : Bool × Bool := (decide (0 ≤ j ∧ j < (n : Int)), true)
def ceM (l : List Value) (o : Nat) (j x : Int) : Bool × Bool := (cellIs (l[o + j.toNat * 1]?) (.int .u32 x), true)
def stM (l : List Value) (j : Int) : Bool × Bool := (decide (0 + j.toNat * 1 < l.length), true)
def d65 : Bool × Bool := (decide ((65536 : Int) = 0), false)
def tM (c7 d p q : Int) : Int := IntKind.u64.wrap (IntKind.u64.wrap (c7 + IntKind.u64.wrap d) + IntKind.u64.wrap (IntKind.u64.wrap p * IntKind.u64.wrap q))
def ijM (i k : Int) : Int := IntKind.i64.wrap (i + k)
theorem mu_pre (o n c o' n' c' : Nat) (la lb : List Value) : GoesT (evL (tabH Try.prog extY conN hcV) 200 (muPr Try.f34) ([sl 0 o n c, sl 1 o' n' c'] ++ List.replicate 66 undef, h2 la lb, [at_]) ⟨[], [], []⟩) 6 62 none [sl 0 o n c, sl 1 o' n' c', undef, undef, nilS, sl 2 0 (zM n n').toNat (zM n n').toNat] (hM3 (List.replicate (zM n n').toNat (.int .u32 0)) lb la) [(okMakeB 4 (zM n n') (zM n n'), true)] := ⟨by kernel_rfl, by kernel_rfl, by kernel_rfl⟩
theorem mu_r2 (v0 v1 v5 : Value) (h : Hp) (g : Nat → Value) : GoesT (evC (tabH Try.prog extY conN hcV) 200 false (cFst (muB Try.f34)) ([v0, v1, undef, undef, nilS, v5] ++ tl 62 g, h, []) ⟨[], [], []⟩) 9 59 none [v0, v1, undef, undef, nilS, v5, .int .i64 0, g 1, g 2] h [] := ⟨by kernel_rfl, by kernel_rfl, by kernel_rfl⟩
theorem mu_h1 (o n c o' n' c' z : Nat) (i c7 k d p q : Int) (v7 v8 : Value) (lo lb la : List Value) (g : Nat → Value) : GoesT (evC (tabH Try.prog extY conN hcV) 200 false (cFst (muO Try.f34)) (mFr o n c o' n' c' z (.int .i64 i) v7 v8 ++ tl 59 g, hM3 lo lb la, [cmp true]) ⟨[], [], []⟩) 9 59 none (mFr o n c o' n' c' z (.int .i64 i) v7 v8) (hM3 lo lb la) [(decide (i < (n : Int)), true)] := ⟨by kernel_rfl, by kernel_rfl, by kernel_rfl⟩
theorem mu_h0 (o n c o' n' c' z : Nat) (i c7 k d p q : Int) (v7 v8 : Value) (lo lb la : List Value) (g : Nat → Value) : GoesT (evC (tabH Try.prog extY conN hcV) 200 false (cFst (muO Try.f34)) (mFr o n c o' n' c' z (.int .i64 i) v7 v8 ++ tl 59 g, hM3 lo lb la, [cmp false]) ⟨[], [], []⟩) 9 59 (some (some 0)) (mFr o n c o' n' c' z (.int .i64 i) v7 v8) (hM3 lo lb la) [(decide (i < (n : Int)), false)] := ⟨by kernel_rfl, by kernel_rfl, by kernel_rfl⟩
theorem mu_r5 (o n c o' n' c' z : Nat) (i c7 k d p q : Int) (v7 v8 : Value) (lo lb la : List Value) (g : Nat → Value) : GoesT (evC (tabH Try.prog extY conN hcV) 200 false (cFst (muI Try.f34)) (mFr o n c o' n' c' z (.int .i64 i) v7 v8 ++ tl 59 g, hM3 lo lb la, []) ⟨[], [], []⟩) 9 59 none (mFr o n c o' n' c' z (.int .i64 i) (.int .u64 0) v8) (hM3 lo lb la) [] := ⟨by kernel_rfl, by kernel_rfl, by kernel_rfl⟩
theorem mu_r6 (o n c o' n' c' z : Nat) (i c7 k d p q : Int) (v7 v8 : Value) (lo lb la : List Value) (g : Nat → Value) : GoesT (evC (tabH Try.prog extY conN hcV) 200 false (cFst (cFst (cSnd (muI Try.f34)))) (mFr o n c o' n' c' z (.int .i64 i) v7 v8 ++ tl 59 g, hM3 lo lb la, []) ⟨[], [], []⟩) 9 59 none (mFr o n c o' n' c' z (.int .i64 i) v7 (.int .i64 0)) (hM3 lo lb la) [] := ⟨by kernel_rfl, by kernel_rfl, by kernel_rfl⟩
theorem mu_in (o n c o' n' c' z : Nat) (i c7 k d p q : Int) (v7 v8 : Value) (lo lb la : List Value) (g : Nat → Value) : GoesT (evC (tabH Try.prog extY conN hcV) 200 false (muL Try.f34) (mFr o n c o' n' c' z (.int .i64 i) (.int .u64 c7) (.int .i64 k) ++ tl 59 g, hM3 lo lb la, [cmp true, at_, val (.int .u32 d), at_, val (.int .u32 p), at_, val (.int .u32 q), cmp true, at_, at_]) ⟨[], [], []⟩) 9 59 none (mFr o n c o' n' c' z (.int .i64 i) (.int .u64 (IntKind.u64.wrap ((tM c7 d p q).tdiv 65536))) (.int .i64 (IntKind.i64.wrap (k + 1)))) (hM3 (lo.set (0 + (ijM i k).toNat * 1) (.int .u32 (IntKind.u32.wrap ((tM c7 d p q).tmod 65536)))) lb la) [stM lo (ijM i k), inM (ijM i k) z, d65, ceM lb o' k q, inM k n', ceM la o i p, inM i n, ceM lo 0 (ijM i k) d, inM (ijM i k) z, (decide (k < (n' : Int)), true)] := ⟨by kernel_rfl, by kernel_rfl, by kernel_rfl⟩
theorem mu_out (o n c o' n' c' z : Nat) (i c7 k d p q : Int) (v7 v8 : Value) (lo lb la : List Value) (g : Nat → Value) : GoesT (evC (tabH Try.prog extY conN hcV) 200 false (muL Try.f34) (mFr o n c o' n' c' z (.int .i64 i) (.int .u64 c7) (.int .i64 k) ++ tl 59 g, hM3 lo lb la, [cmp false]) ⟨[], [], []⟩) 9 59 (some (some 2)) (mFr o n c o' n' c' z (.int .i64 i) (.int .u64 c7) (.int .i64 k)) (hM3 lo lb la) [(decide (k < (n' : Int)), false)] := ⟨by kernel_rfl, by kernel_rfl, by kernel_rfl⟩
theorem mu_r12 (o n c o' n' c' z : Nat) (i c7 k d p q : Int) (v7 v8 : Value) (lo lb la : List Value) (g : Nat → Value) : GoesT (evC (tabH Try.prog extY conN hcV) 200 false (cSnd (cSnd (muI Try.f34))) (mFr o n c o' n' c' z (.int .i64 i) (.int .u64 c7) v8 ++ tl 59 g, hM3 lo lb la, [at_, at_]) ⟨[], [], []⟩) 9 59 none (mFr o n c o' n' c' z (.int .i64 i) (.int .u64 c7) v8) (hM3 (lo.set (0 + (ijM i n').toNat * 1) (.int .u32 (IntKind.u32.wrap c7))) lb la) [stM lo (ijM i n'), inM (ijM i n') z] := ⟨by kernel_rfl, by kernel_rfl, by kernel_rfl⟩
theorem mu_r4 (o n c o' n' c' z : Nat) (i c7 k d p q : Int) (v7 v8 : Value) (lo lb la : List Value) (g : Nat → Value) : GoesT (evC (tabH Try.prog extY conN hcV) 200 false (cSnd (cSnd (muO Try.f34))) (mFr o n c o' n' c' z (.int .i64 i) v7 v8 ++ tl 59 g, hM3 lo lb la, []) ⟨[], [], []⟩) 9 59 none (mFr o n c o' n' c' z (.int .i64 (IntKind.i64.wrap (i + 1))) v7 v8) (hM3 lo lb la) [] := ⟨by kernel_rfl, by kernel_rfl, by kernel_rfl⟩
theorem mu_end (o n c o' n' c' z : Nat) (i c7 k d p q : Int) (v7 v8 : Value) (lo lb la : List Value) (g : Nat → Value) : GoesT (evC (tabH Try.prog extY conN hcV) 200 false (muE Try.f34) (mFr o n c o' n' c' z (.int .i64 i) v7 v8 ++ tl 59 g, hM3 lo lb la, []) ⟨[], [], []⟩) 5 63 (some none) [sl 0 o n c, sl 1 o' n' c', undef, undef, sl 2 0 (trimN (cutI lo 0 z)) (trimN (cutI lo 0 z))] (hM3 lo lb la) [(rowC tU lo 0 z z, true)] := ⟨by kernel_rfl, by kernel_rfl, by kernel_rfl⟩
end Go.Proofs.Ytnolcojnodoecaa

/-
  The document's product (tillerref02.Mul), as a contract: two rows, none of them nothing.
-/
namespace Go.Proofs.Ytnolcojnodoecaa
open Go.KRun Go.Nt
set_option maxRecDepth 100000
set_option linter.unusedVariables false

theorem Runs.next {T : Tab} {c1 c2 : Code} {x : Lf} {front : List Value} {n : Nat} {h : Hp} {P : Ex → Lf → Prop} (h1 : Runs T c1 x fun e y => e = none ∧ (∃ g, y.1 = front ++ tl n g) ∧ y.2.1 = h) (h2 : ∀ g s, Runs T c2 (front ++ tl n g, h, s) P) : Runs T (.seq c1 c2) x P := by
  refine Runs.seq h1 (fun y hy => ?_) (fun e y hy => by cases hy.1)
  obtain ⟨_, ⟨g, e1⟩, e2⟩ := hy
  obtain ⟨t, hh, s⟩ := y
  simp only at e1 e2
  subst e1 e2
  exact h2 g s
theorem wU_setM (O : List Int) (j : Nat) (v : Int) : (wU O).set j (.int .u32 v) = wU (O.set j v) := by unfold wU; rw [List.map_set]
theorem wrap64M {n : Int} (h0 : 0 ≤ n) (h1 : n < 18446744073709551616) : IntKind.u64.wrap n = n := by simp [IntKind.wrap, IntKind.bits, IntKind.signed]; omega
theorem getD_of {O : List Int} {j : Nat} (h : j < O.length) : (wU O)[0 + j * 1]? = some (.int .u32 (O.getD j 0)) := by
  rw [Nat.zero_add, Nat.mul_one]
  unfold wU
  rw [List.getElem?_map, List.getElem?_eq_getElem h]
  simp [List.getD, List.getElem?_eq_getElem h]
theorem smallC_of {n : Nat} (h : n < 1000000) : smallC n = true := by
  unfold smallC
  exact blt_iff.2 (by have : dead = 4611686018427387904 := rfl; omega)
theorem nat_dg {x : Int} (h : Dg 65536 x) : ∃ p : Nat, x = (p : Int) ∧ p < 65536 := ⟨x.toNat, by have := h.1; omega, by have := h.1; have := h.2; omega⟩
section
variable {la lb : List Value} {o c o' c' : Nat} {A B : List Int}
def mSt (o n c o' n' c' z : Nat) (la lb : List Value) (O : List Int) (i : Nat) (v7 v8 : Value) (Y : Lf) : Prop := (∃ g, Y.1 = mFr o n c o' n' c' z (.int .i64 ((i : Nat) : Int)) v7 v8 ++ tl 59 g) ∧ Y.2.1 = hM3 (wU O) lb la
def mOk (z i n' : Nat) (O : List Int) : Prop := O.length = z ∧ (∀ x ∈ O, Dg 65536 x) ∧ ∀ j, i + n' ≤ j → O.getD j 0 = 0
def mIn (o c o' c' : Nat) (la lb : List Value) (A B : List Int) (i V : Nat) (m : Nat) (Y : Lf) : Prop :=
  ∃ k O c7, m = B.length - k ∧ k ≤ B.length ∧ mOk (A.length + B.length) i B.length O ∧ c7 < 65536 ∧ vb 65536 O + c7 * 65536 ^ (i + k) = V + (A.getD i 0).toNat * vb 65536 (B.take k) * 65536 ^ i ∧ mSt o A.length c o' B.length c' (A.length + B.length) la lb O i (.int .u64 ((c7 : Nat) : Int)) (.int .i64 ((k : Nat) : Int)) Y
def mFi (o c o' c' : Nat) (la lb : List Value) (A B : List Int) (i V : Nat) (Y : Lf) : Prop :=
  ∃ O c7 v8, mOk (A.length + B.length) i B.length O ∧ c7 < 65536 ∧ vb 65536 O + c7 * 65536 ^ (i + B.length) = V + (A.getD i 0).toNat * vb 65536 B * 65536 ^ i ∧ mSt o A.length c o' B.length c' (A.length + B.length) la lb O i (.int .u64 ((c7 : Nat) : Int)) v8 Y
theorem set_mOk {z i n' : Nat} {O : List Int} (h : mOk z i n' O) {j : Nat} (hj : j < i + n') {v : Int} (hv : ∀ x ∈ O.set j v, Dg 65536 x) : mOk z i n' (O.set j v) := by
  refine ⟨by rw [List.length_set]; exact h.1, hv, fun t ht => ?_⟩
  have := h.2.2 t ht
  simp only [List.getD] at *
  rw [List.getElem?_set_ne (by omega)]
  exact this
theorem umul_inner (rA : Row la o A) (rB : Row lb o' B) (dA : ∀ x ∈ A, Dg 65536 x) (dB : ∀ x ∈ B, Dg 65536 x) (hz : A.length + B.length < 1000000) {i V : Nat} (hi : i < A.length) {Y0 : Lf} (h0 : mIn o c o' c' la lb A B i V B.length Y0) :
    Runs (tabH Try.prog extY conN hcV) (.block 2 (.loop (muL Try.f34))) Y0 fun e Y => match e with | none => mFi o c o' c' la lb A B i V Y | some none => False | some (some _) => False := by
  refine Runs.forLoop (P := mFi o c o' c' la lb A B i V) (R := fun _ => False) (mIn o c o' c' la lb A B i V) ?_ (n := B.length) h0
  rintro m ⟨t, h', s⟩ ⟨k, O, c7, hm, hk, hO, hc, hval, ⟨g, ht⟩, hh⟩
  simp only at ht hh
  subst ht hh
  by_cases hlt : k < B.length
  · have hj : i + k < O.length := by rw [hO.1]; omega
    obtain ⟨p, ep, hp⟩ := nat_dg (at_dg dA i)
    obtain ⟨q, eq, hq⟩ := nat_dg (at_dg dB k)
    obtain ⟨d, ed, hd⟩ := nat_dg (at_dg hO.2.1 (i + k))
    have eij : ijM i k = ((i + k : Nat) : Int) := by unfold ijM; rw [wrapI (by omega) (by omega)]; omega
    have hpq : p * q ≤ 65535 * 65535 := Nat.mul_le_mul (by omega) (by omega)
    have epq : (p : Int) * (q : Int) = ((p * q : Nat) : Int) := by simp
    have eT : tM c7 d p q = ((c7 + d + p * q : Nat) : Int) := by
      unfold tM
      rw [wrap64M (n := (d : Int)) (by omega) (by omega), wrap64M (n := (p : Int)) (by omega) (by omega), wrap64M (n := (q : Int)) (by omega) (by omega), epq, wrap64M (n := ((p * q : Nat) : Int)) (by omega) (by omega), wrap64M (n := (c7 : Int) + (d : Int)) (by omega) (by omega), wrap64M (by omega) (by omega)]
      omega
    have e1 : IntKind.u64.wrap ((tM c7 d p q).tdiv 65536) = (((c7 + d + p * q) / 65536 : Nat) : Int) := by
      rw [eT, Int.tdiv_eq_ediv_of_nonneg (by omega), wrap64M (by omega) (by omega)]
      omega
    have e2 : IntKind.u32.wrap ((tM c7 d p q).tmod 65536) = (((c7 + d + p * q) % 65536 : Nat) : Int) := by
      rw [eT, Int.tmod_eq_emod_of_nonneg (by omega), wrap32 (by omega) (by omega)]
      omega
    have e3 : IntKind.i64.wrap ((k : Int) + 1) = ((k + 1 : Nat) : Int) := by rw [wrapI (by omega) (by omega)]; omega
    have hstep := mul_step hj hO.2.1 hc hp hq
    rw [ed, Int.toNat_natCast] at hstep
    obtain ⟨s1, s2, s3⟩ := hstep
    have hw := mu_in o A.length c o' B.length c' (A.length + B.length) i c7 k d p q undef undef (wU O) lb la g
    have lg : okLog [stM (wU O) (ijM i k), inM (ijM i k) (A.length + B.length), d65, ceM lb o' k q, inM k B.length, ceM la o i p, inM i A.length, ceM (wU O) 0 (ijM i k) d, inM (ijM i k) (A.length + B.length), (decide ((k : Int) < ((B.length : Nat) : Int)), true)] := by
      have g1 : decide (0 + (ijM i k).toNat * 1 < (wU O).length) = true := decide_eq_true (by rw [eij, Int.toNat_natCast, wU_len]; omega)
      have g2 : decide (0 ≤ ijM i k ∧ ijM i k < ((A.length + B.length : Nat) : Int)) = true := decide_eq_true (by rw [eij]; omega)
      have g3 : cellIs (lb[o' + (k : Int).toNat * 1]?) (.int .u32 q) = true := by rw [Int.toNat_natCast, Nat.mul_one, rB.cell hlt, eq]; simp [cellIs]
      have g4 : decide (0 ≤ (k : Int) ∧ (k : Int) < ((B.length : Nat) : Int)) = true := decide_eq_true (by omega)
      have g5 : cellIs (la[o + (i : Int).toNat * 1]?) (.int .u32 p) = true := by rw [Int.toNat_natCast, Nat.mul_one, rA.cell hi, ep]; simp [cellIs]
      have g6 : decide (0 ≤ (i : Int) ∧ (i : Int) < ((A.length : Nat) : Int)) = true := decide_eq_true (by omega)
      have g7 : cellIs ((wU O)[0 + (ijM i k).toNat * 1]?) (.int .u32 d) = true := by rw [eij, Int.toNat_natCast, getD_of hj, ed]; simp [cellIs]
      exact okTwo g1 (okTwo g2 (okTwo rfl (okTwo g3 (okTwo g4 (okTwo g5 (okTwo g6 (okTwo g7 (okTwo g2 (okOne (decide_eq_true (by omega)))))))))))
    rw [e1, e2, e3, eij, Int.toNat_natCast, Nat.zero_add, Nat.mul_one, wU_setM] at hw
    refine (goesT_runs (tabH_ok conN_ok hcV_ok) hw (by rw [← Int.toNat_natCast (i + k), ← eij] at *; exact lg)).mono fun e z hz => ?_
    obtain ⟨rfl, z1, z2⟩ := hz
    refine ⟨B.length - (k + 1), by omega, k + 1, O.set (i + k) (((c7 + d + p * q) % 65536 : Nat) : Int), (c7 + d + p * q) / 65536, rfl, by omega, set_mOk hO (by omega) s3, s2, ?_, z1, z2⟩
    rw [vb_take, Nat.mul_add, Nat.add_mul, eq, Int.toNat_natCast, ep, Int.toNat_natCast]
    rw [ep, Int.toNat_natCast] at hval
    have x1 : p * (65536 ^ k * q) * 65536 ^ i = p * q * 65536 ^ (i + k) := by rw [Nat.pow_add, Nat.mul_comm (65536 ^ k) q, ← Nat.mul_assoc, Nat.mul_assoc (p * q), Nat.mul_comm (65536 ^ k)]
    rw [x1]
    have x2 : i + (k + 1) = i + k + 1 := by omega
    rw [x2]
    omega
  · have hkl : k = B.length := by omega
    subst hkl
    refine (goesT_runs (tabH_ok conN_ok hcV_ok) (mu_out o A.length c o' B.length c' (A.length + B.length) i c7 ((B.length : Nat) : Int) 0 0 0 undef undef (wU O) lb la g) (okOne (decide_eq_false (by omega)))).mono fun e z hz => ?_
    obtain ⟨rfl, z1, z2⟩ := hz
    rw [List.take_length] at hval
    exact ⟨rfl, O, c7, _, hO, hc, hval, z1, z2⟩
theorem blk1 {T : Tab} {c : Code} {id : Nat} {x : Lf} {P : Lf → Prop} (h : Runs T c x fun e y => e = none ∧ P y) : Runs T (.block id c) x fun e y => e = none ∧ P y :=
  Runs.block h (fun y hy => hy) (fun y hy => by cases hy.1) (fun y hy => by cases hy.1) (fun id' y _ hy => by cases hy.1)
def mOu (o c o' c' : Nat) (la lb : List Value) (A B : List Int) (i : Nat) (Y : Lf) : Prop :=
  ∃ O v7 v8, mOk (A.length + B.length) i B.length O ∧ vb 65536 O = vb 65536 (A.take i) * vb 65536 B ∧ mSt o A.length c o' B.length c' (A.length + B.length) la lb O i v7 v8 Y
theorem umul_round (rA : Row la o A) (rB : Row lb o' B) (dA : ∀ x ∈ A, Dg 65536 x) (dB : ∀ x ∈ B, Dg 65536 x) (hz : A.length + B.length < 1000000) {i : Nat} (hi : i < A.length) {Y0 : Lf} (h0 : mOu o c o' c' la lb A B i Y0) :
    Runs (tabH Try.prog extY conN hcV) (muO Try.f34) Y0 fun e Y => e = none ∧ mOu o c o' c' la lb A B (i + 1) Y := by
  obtain ⟨O, v7, v8, hO, hval, ⟨g, ht⟩, hh⟩ := h0
  obtain ⟨t, h', s⟩ := Y0
  simp only at ht hh
  subst ht hh
  have hT := tabH_ok conN_ok hcV_ok
  rw [umul_out]
  refine Runs.next (goesT_runs hT (mu_h1 o A.length c o' B.length c' (A.length + B.length) i 0 0 0 0 0 v7 v8 (wU O) lb la g) (okOne (decide_eq_true (by omega)))) fun g s => ?_
  refine Runs.seq (P1 := fun e Y => e = none ∧ ∃ O v7 v8, mOk (A.length + B.length) (i + 1) B.length O ∧ vb 65536 O = vb 65536 (A.take (i + 1)) * vb 65536 B ∧ mSt o A.length c o' B.length c' (A.length + B.length) la lb O i v7 v8 Y) (blk1 ?_) ?_ (fun e y hy => by cases hy.1)
  · rw [umul_row]
    refine Runs.next (goesT_runs hT (mu_r5 o A.length c o' B.length c' (A.length + B.length) i 0 0 0 0 0 v7 v8 (wU O) lb la g) (fun _ h => by cases h)) fun g s => ?_
    refine Runs.seq (P1 := fun e Y => e = none ∧ mFi o c o' c' la lb A B i (vb 65536 O) Y) ?_ ?_ (fun e y hy => by cases hy.1)
    · refine Runs.next (goesT_runs hT (mu_r6 o A.length c o' B.length c' (A.length + B.length) i 0 0 0 0 0 (.int .u64 0) v8 (wU O) lb la g) (fun _ h => by cases h)) fun g s => ?_
      refine (umul_inner rA rB dA dB hz hi (V := vb 65536 O) ⟨0, O, 0, by omega, by omega, hO, by omega, ?_, ⟨g, rfl⟩, rfl⟩).mono fun e Y hY => ?_
      · simp [vb]
      · match e, hY with
        | none, hY => exact ⟨rfl, hY⟩
        | some none, hY => exact hY.elim
        | some (some _), hY => exact hY.elim
    · rintro ⟨t, h', s⟩ ⟨_, O', c7, w8, hO', hc7, hv', ⟨g, ht⟩, hh⟩
      simp only at ht hh
      subst ht hh
      have hj : i + B.length < O'.length := by rw [hO'.1]; omega
      have eij : ijM i ((B.length : Nat) : Int) = ((i + B.length : Nat) : Int) := by unfold ijM; rw [wrapI (by omega) (by omega)]; omega
      have e1 : IntKind.u32.wrap ((c7 : Nat) : Int) = ((c7 : Nat) : Int) := wrap32 (by omega) (by omega)
      have hw := mu_r12 o A.length c o' B.length c' (A.length + B.length) i c7 0 0 0 0 undef w8 (wU O') lb la g
      have g1 : decide (0 + (ijM i ((B.length : Nat) : Int)).toNat * 1 < (wU O').length) = true := decide_eq_true (by rw [eij, Int.toNat_natCast, wU_len]; omega)
      have g2 : decide (0 ≤ ijM i ((B.length : Nat) : Int) ∧ ijM i ((B.length : Nat) : Int) < ((A.length + B.length : Nat) : Int)) = true := decide_eq_true (by rw [eij]; omega)
      have r := goesT_runs (s0 := s) hT hw (okTwo g1 (okOne g2))
      rw [e1, eij, Int.toNat_natCast, Nat.zero_add, Nat.mul_one, wU_setM] at r
      refine r.mono fun e z hz => ?_
      obtain ⟨rfl, z1, z2⟩ := hz
      have hdg : ∀ x ∈ O'.set (i + B.length) ((c7 : Nat) : Int), Dg 65536 x := set_dg hO'.2.1 ⟨by omega, by omega⟩ _
      refine ⟨rfl, O'.set (i + B.length) ((c7 : Nat) : Int), _, _, ⟨by rw [List.length_set]; exact hO'.1, hdg, fun j hj' => ?_⟩, ?_, z1, z2⟩
      · have := hO'.2.2 j (by omega)
        simp only [List.getD] at *
        rw [List.getElem?_set_ne (by omega)]
        exact this
      · have hs := vb_set (b := 65536) hj ((c7 : Nat) : Int)
        rw [hO'.2.2 (i + B.length) (Nat.le_refl _), Int.toNat_natCast] at hs
        rw [vb_take, Nat.add_mul, ← hval]
        have x1 : 65536 ^ i * (A.getD i 0).toNat * vb 65536 B = (A.getD i 0).toNat * vb 65536 B * 65536 ^ i := by rw [Nat.mul_assoc, Nat.mul_comm]
        rw [x1]
        have x2 : c7 * 65536 ^ (i + B.length) = 65536 ^ (i + B.length) * c7 := Nat.mul_comm _ _
        have x3 : (65536 : Nat) ^ (i + B.length) * (0 : Int).toNat = 0 := by simp
        omega
  · rintro ⟨t, h', s⟩ ⟨_, O', w7, w8, hO', hv', ⟨g, ht⟩, hh⟩
    simp only at ht hh
    subst ht hh
    have e3 : IntKind.i64.wrap ((i : Int) + 1) = ((i + 1 : Nat) : Int) := by rw [wrapI (by omega) (by omega)]; omega
    have hw := mu_r4 o A.length c o' B.length c' (A.length + B.length) i 0 0 0 0 0 w7 w8 (wU O') lb la g
    rw [e3] at hw
    refine (goesT_runs hT hw (fun _ h => by cases h)).mono fun e z hz => ?_
    obtain ⟨rfl, z1, z2⟩ := hz
    exact ⟨rfl, O', w7, w8, hO', hv', z1, z2⟩
theorem umul_loop (rA : Row la o A) (rB : Row lb o' B) (dA : ∀ x ∈ A, Dg 65536 x) (dB : ∀ x ∈ B, Dg 65536 x) (hz : A.length + B.length < 1000000) {Y0 : Lf} (h0 : mOu o c o' c' la lb A B 0 Y0) :
    Runs (tabH Try.prog extY conN hcV) (.block 0 (.loop (muO Try.f34))) Y0 fun e Y => match e with | none => mOu o c o' c' la lb A B A.length Y | some none => False | some (some _) => False := by
  refine Runs.forLoop (P := mOu o c o' c' la lb A B A.length) (R := fun _ => False) (fun m Y => ∃ i, m = A.length - i ∧ i ≤ A.length ∧ mOu o c o' c' la lb A B i Y) ?_ (n := A.length) ⟨0, by omega, by omega, h0⟩
  rintro m Y ⟨i, hm, hi, hY⟩
  by_cases hlt : i < A.length
  · refine (umul_round rA rB dA dB hz hlt hY).mono fun e z hz' => ?_
    obtain ⟨rfl, z1⟩ := hz'
    exact ⟨A.length - (i + 1), by omega, i + 1, rfl, by omega, z1⟩
  · have hil : i = A.length := by omega
    subst hil
    obtain ⟨O, v7, v8, hO, hval, ⟨g, ht⟩, hh⟩ := hY
    obtain ⟨t, h', s⟩ := Y
    simp only at ht hh
    subst ht hh
    rw [umul_out]
    refine Runs.seq (goesT_runs (tabH_ok conN_ok hcV_ok) (mu_h0 o A.length c o' B.length c' (A.length + B.length) ((A.length : Nat) : Int) 0 0 0 0 0 v7 v8 (wU O) lb la g) (okOne (decide_eq_false (by omega)))) (fun y hy => by cases hy.1) (fun e y hy => ?_)
    obtain ⟨e1, z1, z2⟩ := hy
    cases e1
    exact ⟨rfl, O, v7, v8, hO, hval, z1, z2⟩
theorem umul_runs (rA : Row la o A) (rB : Row lb o' B) (dA : ∀ x ∈ A, Dg 65536 x) (dB : ∀ x ∈ B, Dg 65536 x) (hz : A.length + B.length < 1000000) :
    Runs (tabH Try.prog extY conN hcV) (seqs (muPr Try.f34) (.seq (.seq (cFst (muB Try.f34)) (.block 0 (.loop (muO Try.f34)))) (muE Try.f34))) ([sl 0 o A.length c, sl 1 o' B.length c'] ++ List.replicate 66 undef, h2 la lb, []) fun e z => (e = none ∨ e = some none) ∧ resS Try.prog Try.f34 z.1 z.2.1 = some (sl 2 0 (d16 (vb 65536 A * vb 65536 B)).length (d16 (vb 65536 A * vb 65536 B)).length) ∧ ∃ r, z.2.1.blk? 2 = some (wU (d16 (vb 65536 A * vb 65536 B)) ++ r, tU) := by
  have hT := tabH_ok conN_ok hcV_ok
  have ez : zM A.length B.length = ((A.length + B.length : Nat) : Int) := by unfold zM; rw [wrapI (by omega) (by omega)]; omega
  have hp := mu_pre o A.length c o' B.length c' la lb
  have mk : okMakeB 4 (zM A.length B.length) (zM A.length B.length) = true := by unfold okMakeB; rw [ez]; exact decide_eq_true (by omega)
  refine goesT_list hT hp (okOne mk) fun g => ?_
  rw [ez, Int.toNat_natCast]
  have ew : List.replicate (A.length + B.length) (Value.int .u32 0) = wU (List.replicate (A.length + B.length) 0) := by unfold wU; rw [List.map_replicate]
  rw [ew]
  have hrep : mOk (A.length + B.length) 0 B.length (List.replicate (A.length + B.length) (0 : Int)) := by
    refine ⟨by simp, fun x hx => ?_, fun j _ => ?_⟩
    · rw [List.eq_of_mem_replicate hx]; exact ⟨by omega, by omega⟩
    · simp only [List.getD, List.getElem?_replicate]
      split <;> rfl
  have hv0 : ∀ n : Nat, vb 65536 (List.replicate n (0 : Int)) = 0 := fun n => by
    induction n with
    | zero => rfl
    | succ n ih => rw [List.replicate_succ]; simp only [vb, ih]; rfl
  refine Runs.seq (P1 := fun e Y => e = none ∧ mOu o c o' c' la lb A B A.length Y) ?_ ?_ (fun e y hy => by cases hy.1)
  · refine Runs.next (goesT_runs hT (mu_r2 (sl 0 o A.length c) (sl 1 o' B.length c') (sl 2 0 (A.length + B.length) (A.length + B.length)) _ g) (fun _ h => by cases h)) fun g s => ?_
    refine (umul_loop rA rB dA dB hz ⟨List.replicate (A.length + B.length) 0, _, _, hrep, by rw [hv0]; simp [vb], ⟨g, rfl⟩, rfl⟩).mono fun e Y hY => ?_
    match e, hY with
    | none, hY => exact ⟨rfl, hY⟩
    | some none, hY => exact hY.elim
    | some (some _), hY => exact hY.elim
  · rintro ⟨t, h', s⟩ ⟨_, O, v7, v8, hO, hval, ⟨g, ht⟩, hh⟩
    simp only at ht hh
    subst ht hh
    rw [List.take_length] at hval
    have hl := hO.1
    have hrow : rowC tU (wU O) 0 (A.length + B.length) (A.length + B.length) = true := by
      have := rowC_wU (L := O) (fun x hx => ⟨(hO.2.1 x hx).1, by have := (hO.2.1 x hx).2; omega⟩) (by rw [hl]; omega) (c := A.length + B.length) (by rw [hl]; unfold capOk; simp; exact .inl (smallC_of (by omega)))
      rw [hl] at this
      exact this
    have ec : cutI (wU O) 0 (A.length + B.length) = O := by
      have := cut_wU O
      rw [hl] at this
      exact this
    have et : trimN O = (d16 (vb 65536 A * vb 65536 B)).length := by
      rw [trim_len (by omega) hO.2.1, hval]
      rfl
    refine (goesT_runs hT (mu_end o A.length c o' B.length c' (A.length + B.length) ((A.length : Nat) : Int) 0 0 0 0 0 v7 v8 (wU O) lb la g) (okOne hrow)).mono fun e z hz' => ?_
    obtain ⟨rfl, ⟨g', e1⟩, e2⟩ := hz'
    refine ⟨.inr rfl, ?_, ?_⟩
    · rw [e1, e2, ec, et]
      rfl
    · rw [e2]
      refine ⟨wU (O.drop (trimN O)), ?_⟩
      have e3 : wU (d16 (vb 65536 A * vb 65536 B)) ++ wU (O.drop (trimN O)) = wU O := by
        unfold d16
        rw [← hval, ← take_trim (by omega) _ hO.2.1, ← wU_append, List.take_append_drop]
      rw [e3]
      rfl
end
def okMu (h : Hp) (p q : Option Addr) (n c n' c' : Nat) : Bool := rowP h p n c && dgB (rowOf h p n) && (rowP h q n' c' && dgB (rowOf h q n')) && Nat.blt (n + n') 1000000
def gUmul : AnsH := fun vals h s =>
  match vals with
  | [.slice (some ⟨b, o, none⟩) n c, .slice (some ⟨b', o', none⟩) n' c'] => mk16 (vO h (some ⟨b, o, none⟩) n * vO h (some ⟨b', o', none⟩) n') h s [(okMu h (some ⟨b, o, none⟩) (some ⟨b', o', none⟩) n c n' c', true)]
  | _ => none
theorem gUmul_ok : AnsHOk 34 gUmul := by
  intro vals h s v h' s' lg hg hl m B w E0 hv
  unfold gUmul at hg
  split at hg
  · rename_i b o n c b' o' n' c'
    unfold mk16 at hg
    cases hg
    have l3 := hl _ (List.mem_singleton.2 rfl)
    simp only [okMu, Bool.and_eq_true] at l3
    obtain ⟨⟨⟨q1, q2⟩, ⟨p1, p2⟩⟩, q4⟩ := l3
    have q2 := dgB_of q2
    have p2 := dgB_of p2
    have q4 := blt_iff.1 q4
    rcases rowP_cases q1 with ⟨h0, _⟩ | ⟨b1, o1, x, hp, hx, r1, rs, e0⟩
    · cases h0
    · cases hp
      rcases rowP_cases p1 with ⟨h0, _⟩ | ⟨b2, o2, y, hp', hy, t1, ts, f0⟩
      · cases h0
      · cases hp'
        rw [e0] at q2
        rw [f0] at p2
        obtain ⟨h1, h2', h3, h4, h5, h6, h7⟩ := rowC_of r1
        obtain ⟨k1, k2, k3, k4, k5, k6, k7⟩ := rowC_of t1
        have ev : vO h (some ⟨b, o, none⟩) n = vb 65536 (cutI x.1 o n) := by unfold vO; rw [e0]
        have ev' : vO h (some ⟨b', o', none⟩) n' = vb 65536 (cutI y.1 o' n') := by unfold vO; rw [f0]
        have r := umul_runs (c := c) (c' := c') h1 k1 q2 p2 (by rw [h2', k2]; exact q4)
        rw [h2', k2, ← ev, ← ev'] at r
        have evals : List.map (rn (pair b b')) [sl 0 o n c, sl 1 o' n' c'] = [.slice (some ⟨b, o, none⟩) n c, .slice (some ⟨b', o', none⟩) n' c'] := by
          simp [rn, rn2, rn1, sl, pair]
        have fin := row_calls1 (T := tabH Try.prog extY conN hcV) Try.func34 umul_body (rows2 h7 k7) (vals := [sl 0 o n c, sl 1 o' n' c']) (fun v hv => by
          simp only [List.mem_cons, List.not_mem_nil, or_false] at hv
          rcases hv with h1 | h1 <;> rw [h1] <;> rfl) (k := 2) (cs := wU (d16 (vO h (some ⟨b, o, none⟩) n * vO h (some ⟨b', o', none⟩) n'))) (ty := tU) (wU_lt _) (by kernel_rfl) r.w (by rfl) E0 (s := pair b b') (fitsR2 hx h5 h6 hy k5 k6)
        rw [evals] at fin
        exact fin
  · cases hg
end Go.Proofs.Ytnolcojnodoecaa
