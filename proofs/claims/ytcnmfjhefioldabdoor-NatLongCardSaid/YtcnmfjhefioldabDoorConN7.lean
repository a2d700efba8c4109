/-
  nat.Add, as a call with two rows.
-/
import Derived.Test.YtcnmfjhefioldabDoorConN6
namespace Go.Proofs.YtcnmfjhefioldabDoor
open Go.KRun Go.Nt
set_option maxRecDepth 100000

theorem nP_eq {n : Nat} (h : n ≤ 8192) : nP n = ((n + 1 : Nat) : Int) := by unfold nP; rw [wrapI (by omega) (by omega)]; omega
theorem nP_nat {n : Nat} (h : n ≤ 8192) : (nP n).toNat = n + 1 := by rw [nP_eq h, Int.toNat_natCast]
theorem cpy_eq {la : List Value} {o : Nat} {L : List Int} (hR : Row la o L) (h : L.length ≤ 8192) : cpy la o L.length = wU (L ++ [0]) := by
  unfold cpy
  rw [nP_nat h, show Nat.min L.length (L.length + 1) = L.length from by simp]
  have e1 : (la.drop o).take L.length = wU L := hR.cut
  rw [e1, Nat.zero_add, List.take_zero, List.nil_append, List.drop_replicate, show L.length + 1 - L.length = 1 from by omega]
  unfold wU uu
  simp
theorem cpOk_eq {la : List Value} {o : Nat} {L : List Int} (hR : Row la o L) (h : L.length ≤ 8192) : cpOk la o L.length = true := by
  unfold cpOk
  rw [nP_nat h, show Nat.min L.length (L.length + 1) = L.length from by simp]
  have e1 : (la.drop o).take L.length = wU L := hR.cut
  rw [e1, tR_tomb, show ro tU = false from by kernel_rfl]
  have h1 : Nat.ble (o + L.length) la.length = true := Nat.ble_eq_true_of_le hR.len
  have h2 : Nat.ble (0 + L.length) (List.replicate (L.length + 1) (uu 0)).length = true := Nat.ble_eq_true_of_le (by simp)
  have h3 : ((wU L).all one) = true := by
    unfold wU
    rw [List.all_eq_true]
    intro v hv
    obtain ⟨x, _, rfl⟩ := List.mem_map.1 hv
    rfl
  rw [h1, h2, h3]
  rfl
theorem mk_ok {n : Nat} (h : n ≤ 8192) : okMakeB 4 (nP n) (nP n) = true := by
  rw [nP_eq h]
  exact decide_eq_true (by omega)
theorem wU_row {L : List Int} (h : wds L) {c : Nat} (hc : L.length ≤ c) (h2 : smallC c = true) : rowOk tU (wU L) 0 L.length c = true ∧ cutI (wU L) 0 L.length = L := by
  have e1 : cutV (wU L) 0 L.length = wU L := by
    unfold cutV
    rw [List.drop_zero]
    exact List.take_of_length_le (by unfold wU; simp)
  have e2 : cutI (wU L) 0 L.length = L := by
    unfold cutI
    rw [e1]
    unfold wU
    rw [List.map_map]
    exact (List.map_congr_left fun x _ => rfl).trans (List.map_id' _)
  refine ⟨?_, e2⟩
  unfold rowOk
  rw [e1, h2, show tomb tU = false from by kernel_rfl, show Nat.beq (rt tU) tU = true from by kernel_rfl, Nat.ble_eq_true_of_le (show 0 + L.length ≤ (wU L).length by unfold wU; simp), Nat.ble_eq_true_of_le hc]
  have h3 : ((wU L).all isU) = true := by
    unfold wU
    rw [List.all_eq_true]
    intro v hv
    obtain ⟨x, hx, rfl⟩ := List.mem_map.1 hv
    exact decide_eq_true (h x hx)
  have h4 : ((wU L).all (lt1 0)) = true := by
    unfold wU
    rw [List.all_eq_true]
    intro v hv
    obtain ⟨x, _, rfl⟩ := List.mem_map.1 hv
    rfl
  rw [h3, h4]
  rfl
theorem badL_len {L : List Int} (h : badL L = false) : L.length ≤ 8192 := by
  unfold badL at h
  simp only [Bool.or_eq_false_iff, decide_eq_false_iff_not] at h
  omega
/-- an answer, or that it is too long -/
def resD (d : Bool) (v : Value) : Value := match d with | true => .tuple #[nilS, errV 2] | false => v
/-- behind the copy: the two loops and the end -/
theorem add_rest (q : Bool) {la lb : List Value} {o e : Nat} {LA LB : List Int} (RB : Row (lq q la lb) o LB) (hle : LB.length ≤ LA.length) (hA : wds LA) (hB : wds LB) (h8 : LA.length ≤ 8192) (a : Value) (d : Bool) (hd : decide ((trimN (dg (LA.length + 1) (vN LA + vN LB)) : Int) > 8192) = d) (g : Nat → Value) :
    Runs (tabH Tryd.prog extY conA hcA) (.seq (.seq (aR9 Tryd.f10) (.block 0 (.loop (aL0 Tryd.f10)))) (.seq (.seq (aR14 Tryd.f10) (.block 2 (.loop (aL2 Tryd.f10)))) (aFin Tryd.f10))) (aF a (sl (bq q) o LB.length e) (sl 2 0 (LA.length + 1) (LA.length + 1)) (uu 0) undef undef undef ++ tl 63 g, h3 la lb (wU (LA ++ [0])), [])
      fun e' y => (e' = none ∨ e' = some none) ∧ resS Tryd.prog Tryd.f10 y.1 y.2.1 = some (resD d (.tuple #[sl 2 0 (trimN (dg (LA.length + 1) (vN LA + vN LB))) (LA.length + 1), .nilIface])) ∧ y.2.1 = h3 la lb (wU (dg (LA.length + 1) (vN LA + vN LB))) := by
  have bA := vN_bd LA hA
  have bB := vN_bd LB hB
  have hpow : (4294967296 : Int) ^ LB.length ≤ 4294967296 ^ LA.length := pw_le hle
  have hV : vN LA + vN LB < 4294967296 ^ (LA.length + 1) := by rw [pw]; omega
  refine Runs.seq (P1 := fun e' y => e' = none ∧ ∃ (dx px : List Int) (c : Int) (i0 x0 t u v : Value) (g g' : Nat → Value), dx.length = LB.length ∧ dx.length + px.length = LA.length + 1 ∧ wds dx ∧ wds px ∧ (0 ≤ c ∧ c ≤ 1) ∧ y.1 = ml (aF a (sl (bq q) o LB.length e) (sl 2 0 (LA.length + 1) (LA.length + 1)) (uu c) i0 x0 undef) 20 g [t, u, v] 40 g' ∧ y.2.1 = h3 la lb (wU (dx ++ px)) ∧ vN dx + 4294967296 ^ LB.length * (vN px + c) = vN LA + vN LB) ?_ ?_ (fun e y he => by cases he.1)
  · refine Runs.seq (goesM_runs (tabH_ok conA_ok hcA_ok) (add_r9 a _ _ undef undef undef (bq q) o LB.length e _ g) (fun x hx => by cases hx)) ?_ (fun e y he => by cases he.1)
    rintro ⟨t, h', s⟩ ⟨_, ⟨g1, g2, ht⟩, hh⟩
    simp only at ht hh
    subst ht hh
    refine (add_loop0 q RB hle hA (by omega) a undef undef undef g1 g2 s).mono fun e' y he => ?_
    match e', he with
    | none, he => exact ⟨rfl, he⟩
  · rintro ⟨t, h', s⟩ ⟨_, dx, px, c, i0, x0, t1, u1, v1, g1, g2, hd1, hl, wd1, wd2, hc, ht, hh, hv⟩
    simp only at ht hh
    subst ht hh
    refine Runs.seq (P1 := fun e' y => e' = none ∧ ∃ (k : Value) (g : Nat → Value), y.1 = aF a (sl (bq q) o LB.length e) (sl 2 0 (LA.length + 1) (LA.length + 1)) (uu 0) i0 x0 k ++ tl 63 g ∧ y.2.1 = h3 la lb (wU (dg (LA.length + 1) (vN LA + vN LB)))) ?_ ?_ (fun e y he => by cases he.1)
    · refine Runs.seq (goesT_runs (tabH_ok conA_ok hcA_ok) (add_r14 a _ _ i0 x0 undef (bq q) o LB.length e t1 u1 v1 _ g1 g2) (fun x hx => by cases hx)) ?_ (fun e y he => by cases he.1)
      rintro ⟨t, h', s⟩ ⟨_, ⟨g3, ht⟩, hh⟩
      simp only at ht hh
      subst ht hh
      rw [← hd1] at hv ⊢
      refine (add_loop2 (LA := LA) (by omega) hV a _ i0 x0 hl wd1 wd2 hc hv g3 s).mono fun e' y he => ?_
      match e', he with
      | none, he => exact ⟨rfl, he⟩
    · rintro ⟨t, h', s⟩ ⟨_, k, g3, ht, hh⟩
      simp only at ht hh
      subst ht hh
      have hsm : smallC (LA.length + 1) = true := blt_iff.2 (by unfold dead; omega)
      obtain ⟨r1, r2⟩ := wU_row (dg_wds (LA.length + 1) (vN LA + vN LB)) (c := LA.length + 1) (by rw [dg_len]; exact Nat.le_refl _) hsm
      rw [dg_len] at r1 r2
      cases d with
      | true =>
        refine (goesT_runs (tabH_ok conA_ok hcA_ok) (add_long a _ _ i0 x0 k (LA.length + 1) (LA.length + 1) la lb _ g3) (okTwo (by rw [r2]; exact hd) (okOne r1))).mono fun e' y he => ?_
        obtain ⟨rfl, ⟨g4, e2⟩, e3⟩ := he
        refine ⟨.inr rfl, ?_, e3⟩
        rw [e2, e3]
        rfl
      | false =>
        refine (goesT_runs (tabH_ok conA_ok hcA_ok) (add_fin a _ _ i0 x0 k (LA.length + 1) (LA.length + 1) la lb _ g3) (okTwo (by rw [r2]; exact hd) (okOne r1))).mono fun e' y he => ?_
        obtain ⟨rfl, ⟨g4, e2⟩, e3⟩ := he
        refine ⟨.inr rfl, ?_, e3⟩
        rw [e2, e3, r2]
        rfl
/-! ### the call -/
theorem add_err0 (v w : Value) (h : Hp) : GoesT (evL (tabH Tryd.prog extY conA hcA) 200 [cFst (sn 0 Tryd.f10)] ([v, w] ++ List.replicate 73 undef, h, []) ⟨[], [], []⟩) 6 69 none [v, w, undef, undef, nilS, .nilIface] h [] := ⟨by kernel_rfl, by kernel_rfl, by kernel_rfl⟩
theorem add_err1 (o n c o' n' c' : Nat) (la lb : List Value) (g : Nat → Value) : GoesT (evC (tabH Tryd.prog extY conA hcA) 200 false (cFst (sn 1 Tryd.f10)) ([sl 0 o n c, sl 1 o' n' c', undef, undef, nilS, .nilIface] ++ tl 69 g, h2 la lb, [cmp true]) ⟨[], [], []⟩) 6 69 (some none) [sl 0 o n c, sl 1 o' n' c', undef, undef, nilS, errV 1] (h2 la lb) [chkL la o n c, chkL lb o' n' c', (badL (cutI la o n) || badL (cutI lb o' n'), true)] := ⟨by kernel_rfl, by kernel_rfl, by kernel_rfl⟩
def addC' (F : Func) : Code := seqs (aPre F) (.seq (.seq (aR9 F) (.block 0 (.loop (aL0 F)))) (.seq (.seq (aR14 F) (.block 2 (.loop (aL2 F)))) (aFin F)))
theorem add_bad {la lb : List Value} {o n c o' n' c' : Nat} (ha : rowOk tR la o n c = true) (hb : rowOk tR lb o' n' c' = true) (h : (badL (cutI la o n) || badL (cutI lb o' n')) = true) :
    Runs (tabH Tryd.prog extY conA hcA) (addC' Tryd.f10) ([sl 0 o n c, sl 1 o' n' c'] ++ List.replicate 73 undef, h2 la lb, []) fun e y => (e = none ∨ e = some none) ∧ resS Tryd.prog Tryd.f10 y.1 y.2.1 = some (.tuple #[nilS, errV 1]) := by
  show Runs _ (seqs [cFst (sn 0 Tryd.f10)] (.seq (cFst (sn 1 Tryd.f10)) (seqs [cFst (sn 2 Tryd.f10), cFst (sn 3 Tryd.f10), cFst (sn 4 Tryd.f10), cFst (sn 5 Tryd.f10)] (.seq (.seq (aR9 Tryd.f10) (.block 0 (.loop (aL0 Tryd.f10)))) (.seq (.seq (aR14 Tryd.f10) (.block 2 (.loop (aL2 Tryd.f10)))) (aFin Tryd.f10)))))) _ _
  refine goesT_list (tabH_ok conA_ok hcA_ok) (add_err0 _ _ _) (fun x hx => by cases hx) fun g => ?_
  refine Runs.seq (goesT_runs (tabH_ok conA_ok hcA_ok) (add_err1 o n c o' n' c' la lb g) (okTwo ha (okTwo hb (okOne h)))) (fun y he => by cases he.1) (fun e y he => ?_)
  obtain ⟨h1, ⟨g3, e2⟩, e3⟩ := he
  refine ⟨.inr h1, ?_⟩
  rw [e2, e3]
  rfl
def mxN (n k : Nat) : Nat := if n < k then k else n
def sumR (L M : List Int) : List Int := dg (mxN L.length M.length + 1) (vN L + vN M)
theorem add_good {la lb : List Value} {o n c o' n' c' : Nat} (ha : rowOk tR la o n c = true) (hb : rowOk tR lb o' n' c' = true) (h : (badL (cutI la o n) || badL (cutI lb o' n')) = false) (d : Bool) (hd : decide ((trimN (sumR (cutI la o n) (cutI lb o' n')) : Int) > 8192) = d) :
    Runs (tabH Tryd.prog extY conA hcA) (addC' Tryd.f10) ([sl 0 o n c, sl 1 o' n' c'] ++ List.replicate 73 undef, h2 la lb, []) fun e' y => (e' = none ∨ e' = some none) ∧ resS Tryd.prog Tryd.f10 y.1 y.2.1 = some (resD d (.tuple #[sl 2 0 (trimN (sumR (cutI la o n) (cutI lb o' n'))) (mxN n n' + 1), .nilIface])) ∧ y.2.1.blk? 2 = some (wU (sumR (cutI la o n) (cutI lb o' n')), tU) := by
  obtain ⟨a1, a2, a3, a4, a5, a6, a7⟩ := row_of ha
  obtain ⟨b1, b2, b3, b4, b5, b6, b7⟩ := row_of hb
  have hh := h
  simp only [Bool.or_eq_false_iff] at hh
  have l1 := badL_len hh.1
  have l2 := badL_len hh.2
  generalize hLa : cutI la o n = La at *
  generalize hLb : cutI lb o' n' = Lb at *
  subst a2 b2
  by_cases hlt : La.length < Lb.length
  · have em : mxN La.length Lb.length = Lb.length := if_pos hlt
    have eS : sumR La Lb = dg (Lb.length + 1) (vN Lb + vN La) := by unfold sumR; rw [em, Int.add_comm]
    rw [eS] at hd ⊢
    have pre := add_swap o La.length c o' Lb.length c' la lb
    have q : decide ((La.length : Int) < (Lb.length : Nat)) = true := decide_eq_true (by omega)
    rw [hLa, hLb, cpy_eq b1 l2] at pre
    refine goesT_list (tabH_ok conA_ok hcA_ok) pre (okTwo (cpOk_eq b1 l2) (okTwo (mk_ok l2) (okTwo q (okTwo ha (okTwo hb (okOne h)))))) fun g => ?_
    have r := add_rest false (la := la) (lb := lb) (e := c) (LA := Lb) (LB := La) a1 (by omega) b1.rng a1.rng l2 (sl 1 o' Lb.length c') d hd g
    rw [nP_nat l2, em]
    refine r.mono fun e' y he => ⟨he.1, he.2.1, ?_⟩
    rw [he.2.2]
    rfl
  · have em : mxN La.length Lb.length = La.length := if_neg hlt
    have eS : sumR La Lb = dg (La.length + 1) (vN La + vN Lb) := by unfold sumR; rw [em]
    rw [eS] at hd ⊢
    have pre := add_pre o La.length c o' Lb.length c' la lb
    have q : decide ((La.length : Int) < (Lb.length : Nat)) = false := decide_eq_false (by omega)
    rw [hLa, hLb, cpy_eq a1 l1] at pre
    refine goesT_list (tabH_ok conA_ok hcA_ok) pre (okTwo (cpOk_eq a1 l1) (okTwo (mk_ok l1) (okTwo q (okTwo ha (okTwo hb (okOne h)))))) fun g => ?_
    have r := add_rest true (la := la) (lb := lb) (e := c') (LA := La) (LB := Lb) b1 (by omega) a1.rng b1.rng l1 (sl 0 o La.length c) d hd g
    rw [nP_nat l1, em]
    refine r.mono fun e' y he => ⟨he.1, he.2.1, ?_⟩
    rw [he.2.2]
    rfl
def gAdd : AnsH := fun vals h s =>
  match vals with
  | [.slice (some ⟨b, o, none⟩) n c, .slice (some ⟨b', o', none⟩) n' c'] =>
    match h.blk? b, h.blk? b', s with
    | some x, some y, .inr (.inr (.inr (.inl true))) :: s' => some (.tuple #[nilS, errV 1], h, s', [(rowOk x.2 x.1 o n c, true), (rowOk y.2 y.1 o' n' c', true), (badL (cutI x.1 o n) || badL (cutI y.1 o' n'), true)])
    | some x, some y, .inr (.inr (.inr (.inl false))) :: .inr (.inr (.inr (.inl true))) :: s' => some (.tuple #[nilS, errV 2], h, s', [(rowOk x.2 x.1 o n c, true), (rowOk y.2 y.1 o' n' c', true), (badL (cutI x.1 o n) || badL (cutI y.1 o' n'), false), (decide ((trimN (sumR (cutI x.1 o n) (cutI y.1 o' n')) : Int) > 8192), true)])
    | some x, some y, .inr (.inr (.inr (.inl false))) :: .inr (.inr (.inr (.inl false))) :: s' => some (.tuple #[sl h.n 0 (trimN (sumR (cutI x.1 o n) (cutI y.1 o' n'))) (mxN n n' + 1), .nilIface], h.push (wU (sumR (cutI x.1 o n) (cutI y.1 o' n'))) tU, s', [(rowOk x.2 x.1 o n c, true), (rowOk y.2 y.1 o' n' c', true), (badL (cutI x.1 o n) || badL (cutI y.1 o' n'), false), (decide ((trimN (sumR (cutI x.1 o n) (cutI y.1 o' n')) : Int) > 8192), false)])
    | _, _, _ => none
  | _ => none
theorem wU_calm (L : List Int) : ∀ u ∈ wU L, lt1 0 u = true := fun u hu => by
  unfold wU at hu
  obtain ⟨x, _, rfl⟩ := List.mem_map.1 hu
  rfl
theorem tU_own : ro tU = false := by kernel_rfl
theorem gAdd_ok : AnsHOk 10 gAdd := by
  intro vals h s v h' s' lg hg hl m B w E hv
  unfold gAdd at hg
  split at hg
  · rename_i b o n c b' o' n' c'
    have two : ∀ x y : List Value × TypeId, h.blk? b = some x → h.blk? b' = some y → rowOk x.2 x.1 o n c = true → rowOk y.2 y.1 o' n' c' = true → ∀ v0 : Value, oc (List.range 2) v0 = true → rn (pair b b') v0 = v0 →
        Runs (tabH Tryd.prog extY conA hcA) (addC' Tryd.f10) ([sl 0 o n c, sl 1 o' n' c'] ++ List.replicate 73 undef, h2 x.1 y.1, []) (fun e y => (e = none ∨ e = some none) ∧ resS Tryd.prog Tryd.f10 y.1 y.2.1 = some v0) →
        Calls Tryd.prog 10 (([.slice (some ⟨b, o, none⟩) n c, .slice (some ⟨b', o', none⟩) n' c'] : List Value).map (mv m)).toArray w fun e w' => ∃ m', e = .returned (mv m' v0) ∧ Came m B h w v0 h m' w' := by
      intro x y hx hy ra rb v0 ho e0 r
      obtain ⟨a1, a2, a3, a4, a5, a6, a7⟩ := row_of ra
      obtain ⟨b1, b2, b3, b4, b5, b6, b7⟩ := row_of rb
      have lx := Hp.blk_lt hx
      have ly := Hp.blk_lt hy
      have := row_calls (T := tabH Tryd.prog extY conA hcA) Tryd.func10 add_body (rows2 a7 b7) (vals := [sl 0 o n c, sl 1 o' n' c']) (fun v hv => by
        simp only [List.mem_cons, List.not_mem_nil, or_false] at hv
        rcases hv with rfl | rfl <;> rfl) ho r E (s := pair b b') (fun i _ => by unfold pair; split <;> assumption) (fitsR2 hx a5 a6 hy b5 b6)
      rw [e0] at this
      exact this.mono fun e w' he => ⟨m, he.1, he.2⟩
    split at hg
    · rename_i x y s2 hx hy
      cases hg
      have ra := hl _ (List.mem_cons_self)
      have rb := hl _ (List.mem_cons_of_mem _ List.mem_cons_self)
      have hd := hl _ (List.mem_cons_of_mem _ (List.mem_cons_of_mem _ (List.mem_singleton.2 rfl)))
      exact two x y hx hy ra rb _ (by rfl) (rn_still (by rfl)) (add_bad (rowOk_R ra) (rowOk_R rb) hd)
    · rename_i x y s2 hx hy
      cases hg
      have ra := hl _ (List.mem_cons_self)
      have rb := hl _ (List.mem_cons_of_mem _ List.mem_cons_self)
      have hd := hl _ (List.mem_cons_of_mem _ (List.mem_cons_of_mem _ List.mem_cons_self))
      have he := hl _ (List.mem_cons_of_mem _ (List.mem_cons_of_mem _ (List.mem_cons_of_mem _ (List.mem_singleton.2 rfl))))
      exact two x y hx hy ra rb _ (by rfl) (rn_still (by rfl)) ((add_good (rowOk_R ra) (rowOk_R rb) hd true he).mono fun e y h => ⟨h.1, h.2.1⟩)
    · rename_i x y s2 hx hy
      cases hg
      have ra := hl _ (List.mem_cons_self)
      have rb := hl _ (List.mem_cons_of_mem _ List.mem_cons_self)
      have hd := hl _ (List.mem_cons_of_mem _ (List.mem_cons_of_mem _ List.mem_cons_self))
      have he := hl _ (List.mem_cons_of_mem _ (List.mem_cons_of_mem _ (List.mem_cons_of_mem _ (List.mem_singleton.2 rfl))))
      obtain ⟨a1, a2, a3, a4, a5, a6, a7⟩ := row_of ra
      obtain ⟨b1, b2, b3, b4, b5, b6, b7⟩ := row_of rb
      have r := add_good (rowOk_R ra) (rowOk_R rb) hd false he
      simp only [resD] at r
      have e1 : ∀ k M : Nat, rn (fun _ => h.n) (.tuple #[sl 2 0 k M, .nilIface]) = .tuple #[sl h.n 0 k M, .nilIface] := fun k M => by simp [rn, rn2, rn1, sl]
      have := row_calls1 (T := tabH Tryd.prog extY conA hcA) Tryd.func10 add_body (rows2 a7 b7) (vals := [sl 0 o n c, sl 1 o' n' c']) (fun v hv => by
        simp only [List.mem_cons, List.not_mem_nil, or_false] at hv
        rcases hv with rfl | rfl <;> rfl) (k := 2) (wU_calm _) tU_own (r.w.mono fun e y h => ⟨h.1, h.2.1, [], by rw [List.append_nil]; exact h.2.2⟩) (by rfl) E (s := pair b b') (fitsR2 hx a5 a6 hy b5 b6)
      rw [e1] at this
      exact this
    · cases hg
  · cases hg
end Go.Proofs.YtcnmfjhefioldabDoor
