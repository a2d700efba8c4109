/-
  nat.Sub, as a call with two rows.
-/
import Derived.Test.YtcnmfjhefioldabDoorConN9
namespace Go.Proofs.YtcnmfjhefioldabDoor
open Go.KRun Go.Nt
set_option maxRecDepth 100000

def difL (L M : List Int) : List Int := dg L.length (vN L - vN M)
theorem sub_rest {la lb : List Value} {o e : Nat} {LA LB : List Int} (RB : Row lb o LB) (hle : LB.length ≤ LA.length) (hA : wds LA) (hV : 0 ≤ vN LA - vN LB) (h8 : LA.length ≤ 8192) (a : Value) (g : Nat → Value) :
    Runs (tabH Tryd.prog extY conB hcB) (.seq (.seq (aR9 Tryd.f11) (.block 0 (.loop (aL0 Tryd.f11)))) (.seq (.seq (aR14 Tryd.f11) (.block 2 (.loop (aL2 Tryd.f11)))) (aFin Tryd.f11))) (aF a (sl 1 o LB.length e) (sl 2 0 LA.length LA.length) (uu 0) undef undef undef ++ tl 58 g, h3 la lb (wU LA), [])
      fun e' y => (e' = none ∨ e' = some none) ∧ resS Tryd.prog Tryd.f11 y.1 y.2.1 = some (.tuple #[sl 2 0 (trimN (difL LA LB)) LA.length, .nilIface]) ∧ y.2.1 = h3 la lb (wU (difL LA LB)) := by
  unfold difL
  refine Runs.seq (P1 := fun e' y => e' = none ∧ ∃ (dx px : List Int) (c : Int) (i0 x0 t u v : Value) (g g' : Nat → Value), dx.length = LB.length ∧ dx.length + px.length = LA.length ∧ wds dx ∧ wds px ∧ (0 ≤ c ∧ c ≤ 1) ∧ y.1 = ml (aF a (sl 1 o LB.length e) (sl 2 0 LA.length LA.length) (uu c) i0 x0 undef) 17 g [t, u, v] 38 g' ∧ y.2.1 = h3 la lb (wU (dx ++ px)) ∧ vN dx + 4294967296 ^ LB.length * (vN px - c) = vN LA - vN LB) ?_ ?_ (fun e y he => by cases he.1)
  · refine Runs.seq (goesM_runs (tabH_ok conB_ok hcB_ok) (sub_r9 a _ _ undef undef undef 1 o LB.length e _ g) (fun x hx => by cases hx)) ?_ (fun e y he => by cases he.1)
    rintro ⟨t, h', s⟩ ⟨_, ⟨g1, g2, ht⟩, hh⟩
    simp only at ht hh
    subst ht hh
    refine (sub_loop0 RB hle hA (by omega) a undef undef undef g1 g2 s).mono fun e' y he => ?_
    match e', he with
    | none, he => exact ⟨rfl, he⟩
  · rintro ⟨t, h', s⟩ ⟨_, dx, px, c, i0, x0, t1, u1, v1, g1, g2, hd1, hl, wd1, wd2, hc, ht, hh, hv⟩
    simp only at ht hh
    subst ht hh
    refine Runs.seq (P1 := fun e' y => e' = none ∧ ∃ (k : Value) (g : Nat → Value), y.1 = aF a (sl 1 o LB.length e) (sl 2 0 LA.length LA.length) (uu 0) i0 x0 k ++ tl 58 g ∧ y.2.1 = h3 la lb (wU (dg LA.length (vN LA - vN LB)))) ?_ ?_ (fun e y he => by cases he.1)
    · refine Runs.seq (goesT_runs (tabH_ok conB_ok hcB_ok) (sub_r14 a _ _ i0 x0 undef 1 o LB.length e t1 u1 v1 _ g1 g2) (fun x hx => by cases hx)) ?_ (fun e y he => by cases he.1)
      rintro ⟨t, h', s⟩ ⟨_, ⟨g3, ht⟩, hh⟩
      simp only at ht hh
      subst ht hh
      rw [← hd1] at hv ⊢
      refine (sub_loop2 (n := LA.length) (by omega) hV a _ i0 x0 hl wd1 wd2 hc hv g3 s).mono fun e' y he => ?_
      match e', he with
      | none, he => exact ⟨rfl, he⟩
    · rintro ⟨t, h', s⟩ ⟨_, k, g3, ht, hh⟩
      simp only at ht hh
      subst ht hh
      have hsm : smallC LA.length = true := blt_iff.2 (by unfold dead; omega)
      obtain ⟨r1, r2⟩ := wU_row (dg_wds LA.length (vN LA - vN LB)) (c := LA.length) (by rw [dg_len]; exact Nat.le_refl _) hsm
      rw [dg_len] at r1 r2
      refine (goesT_runs (tabH_ok conB_ok hcB_ok) (sub_fin a _ _ i0 x0 k LA.length LA.length la lb _ g3) (okOne r1)).mono fun e' y he => ?_
      obtain ⟨rfl, ⟨g4, e2⟩, e3⟩ := he
      refine ⟨.inr rfl, ?_, e3⟩
      rw [e2, e3, r2]
      rfl
theorem sub_bad {la lb : List Value} {o n c o' n' c' : Nat} (ha : rowOk tR la o n c = true) (hb : rowOk tR lb o' n' c' = true) (h : (badL (cutI la o n) || badL (cutI lb o' n')) = true) :
    Runs (tabH Tryd.prog extY conB hcB) (addC' Tryd.f11) ([sl 0 o n c, sl 1 o' n' c'] ++ List.replicate 68 undef, h2 la lb, []) fun e y => (e = none ∨ e = some none) ∧ resS Tryd.prog Tryd.f11 y.1 y.2.1 = some (.tuple #[nilS, errV 1]) := by
  show Runs _ (seqs [cFst (sn 0 Tryd.f11)] (.seq (cFst (sn 1 Tryd.f11)) (seqs [cFst (sn 2 Tryd.f11), cFst (sn 3 Tryd.f11), cFst (sn 4 Tryd.f11), cFst (sn 5 Tryd.f11)] (.seq (.seq (aR9 Tryd.f11) (.block 0 (.loop (aL0 Tryd.f11)))) (.seq (.seq (aR14 Tryd.f11) (.block 2 (.loop (aL2 Tryd.f11)))) (aFin Tryd.f11)))))) _ _
  refine goesT_list (tabH_ok conB_ok hcB_ok) (sub_err0 _ _ _) (fun x hx => by cases hx) fun g => ?_
  refine Runs.seq (goesT_runs (tabH_ok conB_ok hcB_ok) (sub_err1 o n c o' n' c' la lb g) (okTwo ha (okTwo hb (okOne h)))) (fun y he => by cases he.1) (fun e y he => ?_)
  obtain ⟨h1, ⟨g3, e2⟩, e3⟩ := he
  refine ⟨.inr h1, ?_⟩
  rw [e2, e3]
  rfl
theorem sub_low {la lb : List Value} {o n c o' n' c' : Nat} (ha : rowOk tR la o n c = true) (hb : rowOk tR lb o' n' c' = true) (h : (badL (cutI la o n) || badL (cutI lb o' n')) = false) (hd : decide (cmpL (cutI la o n) (cutI lb o' n') < 0) = true) :
    Runs (tabH Tryd.prog extY conB hcB) (addC' Tryd.f11) ([sl 0 o n c, sl 1 o' n' c'] ++ List.replicate 68 undef, h2 la lb, []) fun e y => (e = none ∨ e = some none) ∧ resS Tryd.prog Tryd.f11 y.1 y.2.1 = some (.tuple #[nilS, errV 4]) := by
  show Runs _ (seqs [cFst (sn 0 Tryd.f11), cFst (sn 1 Tryd.f11)] (.seq (cFst (sn 2 Tryd.f11)) (seqs [cFst (sn 3 Tryd.f11), cFst (sn 4 Tryd.f11), cFst (sn 5 Tryd.f11)] (.seq (.seq (aR9 Tryd.f11) (.block 0 (.loop (aL0 Tryd.f11)))) (.seq (.seq (aR14 Tryd.f11) (.block 2 (.loop (aL2 Tryd.f11)))) (aFin Tryd.f11)))))) _ _
  refine goesT_list (tabH_ok conB_ok hcB_ok) (sub_low0 o n c o' n' c' la lb) (okTwo ha (okTwo hb (okOne h))) fun g => ?_
  refine Runs.seq (goesT_runs (tabH_ok conB_ok hcB_ok) (sub_low1 o n c o' n' c' la lb g) (okTwo hd (okTwo ha (okOne hb)))) (fun y he => by cases he.1) (fun e y he => ?_)
  obtain ⟨h1, ⟨g3, e2⟩, e3⟩ := he
  refine ⟨.inr h1, ?_⟩
  rw [e2, e3]
  rfl
theorem canon_len {L M : List Int} (hL : canon L) (hM : canon M) (h : vN M ≤ vN L) : M.length ≤ L.length := by
  rcases Nat.lt_or_ge L.length M.length with hlt | hge
  · exfalso
    have h1 := vN_low hM.1 (by omega) (by rcases hM.2 with h | h; omega; exact h)
    have h2 := pw_le (show L.length ≤ M.length - 1 by omega)
    have := vN_bd L hL.1
    omega
  · exact hge
theorem sub_good {la lb : List Value} {o n c o' n' c' : Nat} (ha : rowOk tR la o n c = true) (hb : rowOk tR lb o' n' c' = true) (h : (badL (cutI la o n) || badL (cutI lb o' n')) = false) (hd : decide (cmpL (cutI la o n) (cutI lb o' n') < 0) = false) :
    Runs (tabH Tryd.prog extY conB hcB) (addC' Tryd.f11) ([sl 0 o n c, sl 1 o' n' c'] ++ List.replicate 68 undef, h2 la lb, []) fun e' y => (e' = none ∨ e' = some none) ∧ resS Tryd.prog Tryd.f11 y.1 y.2.1 = some (.tuple #[sl 2 0 (trimN (difL (cutI la o n) (cutI lb o' n'))) n, .nilIface]) ∧ y.2.1.blk? 2 = some (wU (difL (cutI la o n) (cutI lb o' n')), tU) := by
  obtain ⟨a1, a2, a3, a4, a5, a6, a7⟩ := row_of ha
  obtain ⟨b1, b2, b3, b4, b5, b6, b7⟩ := row_of hb
  have hh := h
  simp only [Bool.or_eq_false_iff] at hh
  have l1 := badL_len hh.1
  have pre := sub_pre o n c o' n' c' la lb
  unfold cN at pre
  generalize hLa : cutI la o n = La at *
  generalize hLb : cutI lb o' n' = Lb at *
  subst a2 b2
  have ka := badL_canon a1.rng hh.1
  have kb := badL_canon b1.rng hh.2
  have hV : vN Lb ≤ vN La := by
    have := (cmpL_val ka kb).1
    have hn := of_decide_eq_false hd
    rw [this] at hn
    omega
  rw [cpS_eq a1] at pre
  refine goesT_list (tabH_ok conB_ok hcB_ok) pre (okTwo (csOk_eq a1) (okTwo (decide_eq_true (by omega)) (okTwo hd (okTwo ha (okTwo hb (okTwo ha (okTwo hb (okOne h)))))))) fun g => ?_
  have r := sub_rest (la := la) (lb := lb) (e := c') (LA := La) (LB := Lb) b1 (canon_len ka kb hV) a1.rng (by omega) l1 (sl 0 o La.length c) g
  rw [Int.toNat_natCast]
  refine r.mono fun e' y he => ⟨he.1, he.2.1, ?_⟩
  rw [he.2.2]
  rfl
def gSub : AnsH := fun vals h s =>
  match vals with
  | [.slice (some ⟨b, o, none⟩) n c, .slice (some ⟨b', o', none⟩) n' c'] =>
    match h.blk? b, h.blk? b', s with
    | some x, some y, .inr (.inr (.inr (.inl true))) :: s' => some (.tuple #[nilS, errV 1], h, s', [(rowOk x.2 x.1 o n c, true), (rowOk y.2 y.1 o' n' c', true), (badL (cutI x.1 o n) || badL (cutI y.1 o' n'), true)])
    | some x, some y, .inr (.inr (.inr (.inl false))) :: .inr (.inr (.inr (.inl true))) :: s' => some (.tuple #[nilS, errV 4], h, s', [(rowOk x.2 x.1 o n c, true), (rowOk y.2 y.1 o' n' c', true), (badL (cutI x.1 o n) || badL (cutI y.1 o' n'), false), (decide (cmpL (cutI x.1 o n) (cutI y.1 o' n') < 0), true)])
    | some x, some y, .inr (.inr (.inr (.inl false))) :: .inr (.inr (.inr (.inl false))) :: s' => some (.tuple #[sl h.n 0 (trimN (difL (cutI x.1 o n) (cutI y.1 o' n'))) n, .nilIface], h.push (wU (difL (cutI x.1 o n) (cutI y.1 o' n'))) tU, s', [(rowOk x.2 x.1 o n c, true), (rowOk y.2 y.1 o' n' c', true), (badL (cutI x.1 o n) || badL (cutI y.1 o' n'), false), (decide (cmpL (cutI x.1 o n) (cutI y.1 o' n') < 0), false)])
    | _, _, _ => none
  | _ => none
theorem gSub_ok : AnsHOk 11 gSub := by
  intro vals h s v h' s' lg hg hl m B w E hv
  unfold gSub at hg
  split at hg
  · rename_i b o n c b' o' n' c'
    have two : ∀ x y : List Value × TypeId, h.blk? b = some x → h.blk? b' = some y → rowOk x.2 x.1 o n c = true → rowOk y.2 y.1 o' n' c' = true → ∀ v0 : Value, oc (List.range 2) v0 = true → rn (pair b b') v0 = v0 →
        Runs (tabH Tryd.prog extY conB hcB) (addC' Tryd.f11) ([sl 0 o n c, sl 1 o' n' c'] ++ List.replicate 68 undef, h2 x.1 y.1, []) (fun e y => (e = none ∨ e = some none) ∧ resS Tryd.prog Tryd.f11 y.1 y.2.1 = some v0) →
        Calls Tryd.prog 11 (([.slice (some ⟨b, o, none⟩) n c, .slice (some ⟨b', o', none⟩) n' c'] : List Value).map (mv m)).toArray w fun e w' => ∃ m', e = .returned (mv m' v0) ∧ Came m B h w v0 h m' w' := by
      intro x y hx hy ra rb v0 ho e0 r
      obtain ⟨a1, a2, a3, a4, a5, a6, a7⟩ := row_of ra
      obtain ⟨b1, b2, b3, b4, b5, b6, b7⟩ := row_of rb
      have := row_calls (T := tabH Tryd.prog extY conB hcB) Tryd.func11 sub_body (rows2 a7 b7) (vals := [sl 0 o n c, sl 1 o' n' c']) (fun v hv => by
        simp only [List.mem_cons, List.not_mem_nil, or_false] at hv
        rcases hv with rfl | rfl <;> rfl) ho r E (s := pair b b') (fun i _ => by have lx := Hp.blk_lt hx; have ly := Hp.blk_lt hy; unfold pair; split <;> assumption) (fitsR2 hx a5 a6 hy b5 b6)
      rw [e0] at this
      exact this.mono fun e w' he => ⟨m, he.1, he.2⟩
    split at hg
    · rename_i x y s2 hx hy
      cases hg
      have ra := hl _ (List.mem_cons_self)
      have rb := hl _ (List.mem_cons_of_mem _ List.mem_cons_self)
      have hd := hl _ (List.mem_cons_of_mem _ (List.mem_cons_of_mem _ (List.mem_singleton.2 rfl)))
      exact two x y hx hy ra rb _ (by rfl) (rn_still (by rfl)) (sub_bad (rowOk_R ra) (rowOk_R rb) hd)
    · rename_i x y s2 hx hy
      cases hg
      have ra := hl _ (List.mem_cons_self)
      have rb := hl _ (List.mem_cons_of_mem _ List.mem_cons_self)
      have hd := hl _ (List.mem_cons_of_mem _ (List.mem_cons_of_mem _ List.mem_cons_self))
      have he := hl _ (List.mem_cons_of_mem _ (List.mem_cons_of_mem _ (List.mem_cons_of_mem _ (List.mem_singleton.2 rfl))))
      exact two x y hx hy ra rb _ (by rfl) (rn_still (by rfl)) (sub_low (rowOk_R ra) (rowOk_R rb) hd he)
    · rename_i x y s2 hx hy
      cases hg
      have ra := hl _ (List.mem_cons_self)
      have rb := hl _ (List.mem_cons_of_mem _ List.mem_cons_self)
      have hd := hl _ (List.mem_cons_of_mem _ (List.mem_cons_of_mem _ List.mem_cons_self))
      have he := hl _ (List.mem_cons_of_mem _ (List.mem_cons_of_mem _ (List.mem_cons_of_mem _ (List.mem_singleton.2 rfl))))
      obtain ⟨a1, a2, a3, a4, a5, a6, a7⟩ := row_of ra
      obtain ⟨b1, b2, b3, b4, b5, b6, b7⟩ := row_of rb
      have r := sub_good (rowOk_R ra) (rowOk_R rb) hd he
      have e1 : ∀ k M : Nat, rn (fun _ => h.n) (.tuple #[sl 2 0 k M, .nilIface]) = .tuple #[sl h.n 0 k M, .nilIface] := fun k M => by simp [rn, rn2, rn1, sl]
      have := row_calls1 (T := tabH Tryd.prog extY conB hcB) Tryd.func11 sub_body (rows2 a7 b7) (vals := [sl 0 o n c, sl 1 o' n' c']) (fun v hv => by
        simp only [List.mem_cons, List.not_mem_nil, or_false] at hv
        rcases hv with rfl | rfl <;> rfl) (k := 2) (wU_calm _) tU_own (r.w.mono fun e y h => ⟨h.1, h.2.1, [], by rw [List.append_nil]; exact h.2.2⟩) (by rfl) E (s := pair b b') (fitsR2 hx a5 a6 hy b5 b6)
      rw [e1] at this
      exact this
    · cases hg
  · cases hg
end Go.Proofs.YtcnmfjhefioldabDoor
