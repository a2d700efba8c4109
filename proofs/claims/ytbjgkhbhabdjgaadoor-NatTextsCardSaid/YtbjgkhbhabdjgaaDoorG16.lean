/-
  nat.Sub, as a call with two rows.
-/
import Derived.Test.YtbjgkhbhabdjgaaDoorG11
import Derived.Test.YtbjgkhbhabdjgaaDoorG12
import Derived.Test.YtbjgkhbhabdjgaaDoorG15
namespace Go.Proofs.YtbjgkhbhabdjgaaDoor
open Go.KRun Go.Nt
set_option maxRecDepth 100000

theorem borrow_ok {x y c : Int} (hx : 0 ≤ x ∧ x < 4294967296) (hy : 0 ≤ y ∧ y < 4294967296) (hc : 0 ≤ c ∧ c ≤ 1) : (0 ≤ subD x y c ∧ subD x y c < 4294967296) ∧ (0 ≤ subB x y c ∧ subB x y c ≤ 1) ∧ x - y - c = subD x y c - 4294967296 * subB x y c := by
  unfold subD subB
  split <;> omega
theorem sub_loop0 {la lb : List Value} {o e : Nat} {LA LB : List Int} (RB : Row lb o LB) (hle : LB.length ≤ LA.length) (hA : wds LA) (hN : LA.length < 1099511627776) (a i0 x0 k0 : Value) (g g' : Nat → Value) (s : List Dec) :
    Runs (tabH Tryd.prog extY conB hcB) (.block 0 (.loop (aL0 Tryd.f11))) (ml (aF a (sl 1 o LB.length e) (sl 2 0 LA.length LA.length) (uu 0) i0 x0 k0) 17 g [sl 1 o LB.length e, i6' LB.length, i6' 0] 38 g', h3 la lb (wU LA), s)
      fun e' y => match e' with
        | none => ∃ (dx px : List Int) (c : Int) (i0 x0 t u v : Value) (g g' : Nat → Value), dx.length = LB.length ∧ dx.length + px.length = LA.length ∧ wds dx ∧ wds px ∧ (0 ≤ c ∧ c ≤ 1) ∧ y.1 = ml (aF a (sl 1 o LB.length e) (sl 2 0 LA.length LA.length) (uu c) i0 x0 k0) 17 g [t, u, v] 38 g' ∧ y.2.1 = h3 la lb (wU (dx ++ px)) ∧ vN dx + 4294967296 ^ LB.length * (vN px - c) = vN LA - vN LB
        | some _ => False := by
  refine (Runs.forLoop (R := fun _ => False) (P := fun y => ∃ (dx px : List Int) (c : Int) (i0 x0 t u v : Value) (g g' : Nat → Value), dx.length = LB.length ∧ dx.length + px.length = LA.length ∧ wds dx ∧ wds px ∧ (0 ≤ c ∧ c ≤ 1) ∧ y.1 = ml (aF a (sl 1 o LB.length e) (sl 2 0 LA.length LA.length) (uu c) i0 x0 k0) 17 g [t, u, v] 38 g' ∧ y.2.1 = h3 la lb (wU (dx ++ px)) ∧ vN dx + 4294967296 ^ LB.length * (vN px - c) = vN LA - vN LB)
    (fun r y => ∃ (k : Nat) (dx px : List Int) (c : Int) (i0 x0 : Value) (g g' : Nat → Value), k + r = LB.length ∧ dx.length = k ∧ dx.length + px.length = LA.length ∧ wds dx ∧ wds px ∧ (0 ≤ c ∧ c ≤ 1) ∧ y.1 = ml (aF a (sl 1 o LB.length e) (sl 2 0 LA.length LA.length) (uu c) i0 x0 k0) 17 g [sl 1 o LB.length e, i6' LB.length, i6' k] 38 g' ∧ y.2.1 = h3 la lb (wU (dx ++ px)) ∧ vN dx + 4294967296 ^ k * (vN px - vN (LB.drop k) - c) = vN LA - vN LB)
    ?_ (n := LB.length) ⟨0, [], LA, 0, i0, x0, g, g', by omega, rfl, by simp, (fun x hx => by cases hx), hA, by omega, rfl, rfl, by simp [vN]⟩).mono fun e' y he => ?_
  · rintro r ⟨t, h', s'⟩ ⟨k, dx, px, c, i0, x0, g, g', hk, hd, hl, wd1, wd2, hc, ht, hh, hv⟩
    simp only at ht hh
    subst ht hh
    cases r with
    | zero =>
      have ek : k = LB.length := by omega
      refine (goesM_runs (tabH_ok conB_ok hcB_ok) (sub_out0 _ _ _ _ _ _ _ _ LB.length k _ g g') (okOne (decide_eq_false (by omega)))).mono fun e' y he => ?_
      obtain ⟨rfl, ⟨g1, g2, e2⟩, e3⟩ := he
      refine ⟨rfl, dx, px, c, i0, x0, _, _, _, g1, g2, by omega, hl, wd1, wd2, hc, e2, e3, ?_⟩
      rw [ek, List.drop_length] at hv
      simpa [vN] using hv
    | succ r =>
      match px, hl, wd2, hv with
      | [], hl, _, _ => simp at hl; omega
      | x :: px, hl, wd2, hv =>
        obtain ⟨wx, wd2⟩ := wds_tail wd2
        have hy := RB.rng (LB.getD k 0) (by
          have hk' : k < LB.length := by omega
          simp [List.getD, List.getElem?_eq_getElem hk'])
        obtain ⟨k1, k2, k3⟩ := borrow_ok wx hy hc
        have cS := wU_get dx x px
        rw [hd] at cS
        have lS : (wU (dx ++ x :: px)).length = LA.length := by unfold wU; simp at hl ⊢; omega
        have l1 : (stoR (wU (dx ++ x :: px)) k).1 = (stoR (wU (dx ++ x :: px)) k).2 := by unfold stoR; simp only [Int.toNat_natCast, Nat.mul_one, Nat.zero_add]; exact decide_eq_true (by omega)
        have l2 : (inR k LA.length).1 = (inR k LA.length).2 := decide_eq_true (by omega)
        have l3 : wd4 x (LB.getD k 0) c = true := decide_eq_true ⟨wx, hy, hc⟩
        have l4 : (celR (wU (dx ++ x :: px)) 0 k x).1 = (celR (wU (dx ++ x :: px)) 0 k x).2 := cel_ok (by rw [Nat.zero_add]; exact cS)
        have l5 : (celR lb o k (LB.getD k 0)).1 = (celR lb o k (LB.getD k 0)).2 := cel_ok (RB.cell (by omega))
        have l6 : (inR k LB.length).1 = (inR k LB.length).2 := decide_eq_true (by omega)
        have l7 : decide ((k : Int) < (LB.length : Nat)) = true := decide_eq_true (by omega)
        refine (goesM_runs (tabH_ok conB_ok hcB_ok) (sub_go a _ i0 x0 k0 o LB.length e LA.length LA.length c k x (LB.getD k 0) la lb (wU (dx ++ x :: px)) g g') (okTwo l1 (okTwo l2 (okTwo l3 (okTwo l4 (okTwo l2 (okTwo l5 (okTwo l6 (okOne l7))))))))).mono fun e' y he => ?_
        obtain ⟨rfl, ⟨g1, g2, e2⟩, e3⟩ := he
        refine ⟨r, by omega, k + 1, dx ++ [subD x (LB.getD k 0) c], px, subB x (LB.getD k 0) c, i6' k, uu (LB.getD k 0), g1, g2, by omega, by simp [hd], by simp at hl ⊢; omega, wds_app wd1 (fun z hz => by rw [List.mem_singleton.1 hz]; exact k1), wd2, k2, ?_, ?_, ?_⟩
        · rw [e2, wrapI (by omega) (by omega)]; rfl
        · rw [e3, Int.toNat_natCast, Nat.mul_one, Nat.zero_add, ← hd, wU_set]
        · rw [drop_cons (by omega)] at hv
          simp only [vN] at hv
          rw [vN_snoc, hd, pw]
          exact dif_step k3 hv
  · match e', he with
    | none, he => exact he
    | some none, he => exact he
    | some (some _), he => exact he
theorem sub_loop2 {la lb : List Value} {n : Nat} {V : Int} (hN : n < 1099511627776) (hV : 0 ≤ V) (a b i0 x0 : Value) {dx px : List Int} {c : Int} (hl : dx.length + px.length = n) (wd1 : wds dx) (wd2 : wds px) (hc : 0 ≤ c ∧ c ≤ 1) (hv : vN dx + 4294967296 ^ dx.length * (vN px - c) = V) (g : Nat → Value) (s : List Dec) :
    Runs (tabH Tryd.prog extY conB hcB) (.block 2 (.loop (aL2 Tryd.f11))) (aF a b (sl 2 0 n n) (uu c) i0 x0 (i6' dx.length) ++ tl 58 g, h3 la lb (wU (dx ++ px)), s)
      fun e' y => match e' with
        | none => ∃ (k : Value) (g : Nat → Value), y.1 = aF a b (sl 2 0 n n) (uu 0) i0 x0 k ++ tl 58 g ∧ y.2.1 = h3 la lb (wU (dg n V))
        | some _ => False := by
  refine (Runs.forLoop (R := fun _ => False) (P := fun y => ∃ (k : Value) (g : Nat → Value), y.1 = aF a b (sl 2 0 n n) (uu 0) i0 x0 k ++ tl 58 g ∧ y.2.1 = h3 la lb (wU (dg n V)))
    (fun r y => ∃ (dx px : List Int) (c : Int) (g : Nat → Value), px.length = r ∧ dx.length + px.length = n ∧ wds dx ∧ wds px ∧ (0 ≤ c ∧ c ≤ 1) ∧ y.1 = aF a b (sl 2 0 n n) (uu c) i0 x0 (i6' dx.length) ++ tl 58 g ∧ y.2.1 = h3 la lb (wU (dx ++ px)) ∧ vN dx + 4294967296 ^ dx.length * (vN px - c) = V)
    ?_ (n := px.length) ⟨dx, px, c, g, rfl, hl, wd1, wd2, hc, rfl, rfl, hv⟩).mono fun e' y he => ?_
  · rintro r ⟨t, h', s'⟩ ⟨dx, px, c, g, hr, hl, wd1, wd2, hc, ht, hh, hv⟩
    simp only at ht hh
    subst ht hh
    by_cases c0 : c = 0
    · subst c0
      refine (goesT_runs (tabH_ok conB_ok hcB_ok) (sub_out2 a b _ i0 x0 _ 0 _ g) (okOne (by rfl))).mono fun e' y he => ?_
      obtain ⟨rfl, ⟨g1, e2⟩, e3⟩ := he
      refine ⟨rfl, _, g1, e2, ?_⟩
      have e4 : vN (dx ++ px) = V := by rw [vN_app, ← hv, Int.sub_zero]
      have e5 := dg_vN (dx ++ px) (wds_app wd1 wd2)
      rw [List.length_append, hl, e4] at e5
      rw [e3, e5]
    · have c1 : c = 1 := by omega
      subst c1
      match px, hr, hl, wd2, hv with
      | [], _, hl, _, hv =>
        exfalso
        have := (vN_bd dx wd1).2
        simp only [vN] at hv
        rw [show (0 : Int) - 1 = -1 from rfl, Int.mul_neg, Int.mul_one] at hv
        omega
      | x :: px, hr, hl, wd2, hv =>
        obtain ⟨wx, wd2⟩ := wds_tail wd2
        obtain ⟨k1, k2, k3⟩ := borrow_ok (y := 0) wx (by omega) hc
        have cS := wU_get dx x px
        have lS : (wU (dx ++ x :: px)).length = n := by unfold wU; simp at hl ⊢; omega
        have hl' : dx.length < n := by simp at hl; omega
        have l1 : (stoR (wU (dx ++ x :: px)) dx.length).1 = (stoR (wU (dx ++ x :: px)) dx.length).2 := by unfold stoR; simp only [Int.toNat_natCast, Nat.mul_one, Nat.zero_add]; exact decide_eq_true (by omega)
        have l2 : (inR dx.length n).1 = (inR dx.length n).2 := decide_eq_true (by omega)
        have l3 : wd4 x 0 1 = true := decide_eq_true ⟨wx, by omega, by omega⟩
        have l4 : (celR (wU (dx ++ x :: px)) 0 dx.length x).1 = (celR (wU (dx ++ x :: px)) 0 dx.length x).2 := cel_ok (by rw [Nat.zero_add]; exact cS)
        refine (goesT_runs (tabH_ok conB_ok hcB_ok) (sub_go2 a b i0 x0 n n 1 dx.length x la lb (wU (dx ++ x :: px)) g) (okTwo l1 (okTwo l2 (okTwo l3 (okTwo l4 (okTwo l2 (okOne (by rfl)))))))).mono fun e' y he => ?_
        obtain ⟨rfl, ⟨g1, e2⟩, e3⟩ := he
        refine ⟨px.length, by simp at hr; omega, dx ++ [subD x 0 1], px, subB x 0 1, g1, rfl, by simp at hl ⊢; omega, wds_app wd1 (fun z hz => by rw [List.mem_singleton.1 hz]; exact k1), wd2, k2, ?_, ?_, ?_⟩
        · rw [e2, wrapI (by omega) (by omega)]
          simp
        · rw [e3, Int.toNat_natCast, Nat.mul_one, Nat.zero_add, wU_set]
        · simp only [vN] at hv
          rw [vN_snoc, List.length_append, List.length_singleton, pw]
          have hv' : vN dx + 4294967296 ^ dx.length * (x + 4294967296 * vN px - (0 + 4294967296 * 0) - 1) = V := by rw [← hv]; congr 2; omega
          have := dif_step k3 hv'
          rw [Int.sub_zero] at this
          exact this
  · match e', he with
    | none, he => exact he
    | some none, he => exact he
    | some (some _), he => exact he
theorem cpS_eq {la : List Value} {o : Nat} {L : List Int} (hR : Row la o L) : cpS la o L.length = wU L := by
  unfold cpS
  rw [Int.toNat_natCast, show Nat.min L.length L.length = L.length from by simp]
  have e1 : (la.drop o).take L.length = wU L := hR.cut
  rw [e1, Nat.zero_add, List.take_zero, List.nil_append, List.drop_replicate, Nat.sub_self]
  simp
theorem csOk_eq {la : List Value} {o : Nat} {L : List Int} (hR : Row la o L) : csOk la o L.length = true := by
  unfold csOk
  rw [Int.toNat_natCast, show Nat.min L.length L.length = L.length from by simp]
  have e1 : (la.drop o).take L.length = wU L := hR.cut
  rw [e1, tR_tomb, tU_own]
  have h1 : Nat.ble (o + L.length) la.length = true := Nat.ble_eq_true_of_le hR.len
  have h2 : Nat.ble (0 + L.length) (List.replicate L.length (uu 0)).length = true := Nat.ble_eq_true_of_le (by simp)
  have h3 : ((wU L).all one) = true := by
    unfold wU
    rw [List.all_eq_true]
    intro v hv
    obtain ⟨x, _, rfl⟩ := List.mem_map.1 hv
    rfl
  rw [h1, h2, h3]
  rfl
theorem badL_canon {L : List Int} (hw : wds L) (h : badL L = false) : canon L := by
  unfold badL at h
  simp only [Bool.or_eq_false_iff, decide_eq_false_iff_not, Bool.and_eq_false_iff, beq_eq_false_iff_ne, ne_eq] at h
  refine ⟨hw, ?_⟩
  rcases h.2 with h | h
  · exact .inl (by omega)
  · exact .inr h
end Go.Proofs.YtbjgkhbhabdjgaaDoor

/-
  nat.Sub, as a call with two rows.
-/
namespace Go.Proofs.YtbjgkhbhabdjgaaDoor
open Go.KRun Go.Nt
set_option maxRecDepth 100000

def difL (L M : List Int) : List Int := dg L.length (vN L - vN M)
theorem sub_rest {la lb : List Value} {o e : Nat} {LA LB : List Int} (RB : Row lb o LB) (hle : LB.length ≤ LA.length) (hA : wds LA) (hV : 0 ≤ vN LA - vN LB) (h8 : LA.length ≤ 8192) (a : Value) (g : Nat → Value) :
    Runs (tabH Tryd.prog extY conB hcB) (.seq (.seq (aR9 Tryd.f11) (.block 0 (.loop (aL0 Tryd.f11)))) (.seq (.seq (aR14 Tryd.f11) (.block 2 (.loop (aL2 Tryd.f11)))) (aFin Tryd.f11))) (aF a (sl 1 o LB.length e) (sl 2 0 LA.length LA.length) (uu 0) undef undef undef ++ tl 58 g, h3 la lb (wU LA), [])
      fun e' y => (e' = none ∨ e' = some none) ∧ resS Tryd.prog Tryd.f11 y.1 y.2.1 = some (.tuple #[sl 2 0 (trimN (difL LA LB)) LA.length, .nilIface]) ∧ y.2.1 = h3 la lb (wU (difL LA LB)) := by
  unfold difL
  refine Runs.seq (P1 := fun e' y => e' = none ∧ ∃ (dx px : List Int) (c : Int) (i0 x0 t u v : Value) (g g' : Nat → Value), dx.length = LB.length ∧ dx.length + px.length = LA.length ∧ wds dx ∧ wds px ∧ (0 ≤ c ∧ c ≤ 1) ∧ y.1 = ml (aF a (sl 1 o LB.length e) (sl 2 0 LA.length LA.length) (uu c) i0 x0 undef) 17 g [t, u, v] 38 g' ∧ y.2.1 = h3 la lb (wU (dx ++ px)) ∧ vN dx + 4294967296 ^ LB.length * (vN px - c) = vN LA - vN LB) ?_ ?_ (fun e y he => by cases he.1)
  · refine Runs.seq (goesM_runs (tabH_ok conB_ok hcB_ok) (sub_r9 a _ _ undef undef undef 1 o LB.length e _ g) (fun x hx => by cases hx)) ?_ (fun e y he => by cases he.1)
    rintro ⟨t, h', s⟩ ⟨_, ⟨g1, g2, ht⟩, hh⟩
    simp only at ht hh
    subst ht hh
    refine (sub_loop0 RB hle hA (by omega) a undef undef undef g1 g2 s).mono fun e' y he => ?_
    match e', he with
    | none, he => exact ⟨rfl, he⟩
  · rintro ⟨t, h', s⟩ ⟨_, dx, px, c, i0, x0, t1, u1, v1, g1, g2, hd1, hl, wd1, wd2, hc, ht, hh, hv⟩
    simp only at ht hh
    subst ht hh
    refine Runs.seq (P1 := fun e' y => e' = none ∧ ∃ (k : Value) (g : Nat → Value), y.1 = aF a (sl 1 o LB.length e) (sl 2 0 LA.length LA.length) (uu 0) i0 x0 k ++ tl 58 g ∧ y.2.1 = h3 la lb (wU (dg LA.length (vN LA - vN LB)))) ?_ ?_ (fun e y he => by cases he.1)
    · refine Runs.seq (goesT_runs (tabH_ok conB_ok hcB_ok) (sub_r14 a _ _ i0 x0 undef 1 o LB.length e t1 u1 v1 _ g1 g2) (fun x hx => by cases hx)) ?_ (fun e y he => by cases he.1)
      rintro ⟨t, h', s⟩ ⟨_, ⟨g3, ht⟩, hh⟩
      simp only at ht hh
      subst ht hh
      rw [← hd1] at hv ⊢
      refine (sub_loop2 (n := LA.length) (by omega) hV a _ i0 x0 hl wd1 wd2 hc hv g3 s).mono fun e' y he => ?_
      match e', he with
      | none, he => exact ⟨rfl, he⟩
    · rintro ⟨t, h', s⟩ ⟨_, k, g3, ht, hh⟩
      simp only at ht hh
      subst ht hh
      have hsm : smallC LA.length = true := blt_iff.2 (by unfold dead; omega)
      obtain ⟨r1, r2⟩ := wU_row (dg_wds LA.length (vN LA - vN LB)) (c := LA.length) (by rw [dg_len]; exact Nat.le_refl _) hsm
      rw [dg_len] at r1 r2
      refine (goesT_runs (tabH_ok conB_ok hcB_ok) (sub_fin a _ _ i0 x0 k LA.length LA.length la lb _ g3) (okOne r1)).mono fun e' y he => ?_
      obtain ⟨rfl, ⟨g4, e2⟩, e3⟩ := he
      refine ⟨.inr rfl, ?_, e3⟩
      rw [e2, e3, r2]
      rfl
theorem sub_bad {la lb : List Value} {o n c o' n' c' : Nat} (ha : rowOk tR la o n c = true) (hb : rowOk tR lb o' n' c' = true) (h : (badL (cutI la o n) || badL (cutI lb o' n')) = true) :
    Runs (tabH Tryd.prog extY conB hcB) (addC' Tryd.f11) ([sl 0 o n c, sl 1 o' n' c'] ++ List.replicate 68 undef, h2 la lb, []) fun e y => (e = none ∨ e = some none) ∧ resS Tryd.prog Tryd.f11 y.1 y.2.1 = some (.tuple #[nilS, errV 1]) := by
  show Runs _ (seqs [cFst (sn 0 Tryd.f11)] (.seq (cFst (sn 1 Tryd.f11)) (seqs [cFst (sn 2 Tryd.f11), cFst (sn 3 Tryd.f11), cFst (sn 4 Tryd.f11), cFst (sn 5 Tryd.f11)] (.seq (.seq (aR9 Tryd.f11) (.block 0 (.loop (aL0 Tryd.f11)))) (.seq (.seq (aR14 Tryd.f11) (.block 2 (.loop (aL2 Tryd.f11)))) (aFin Tryd.f11)))))) _ _
  refine goesT_list (tabH_ok conB_ok hcB_ok) (sub_err0 _ _ _) (fun x hx => by cases hx) fun g => ?_
  refine Runs.seq (goesT_runs (tabH_ok conB_ok hcB_ok) (sub_err1 o n c o' n' c' la lb g) (okTwo ha (okTwo hb (okOne h)))) (fun y he => by cases he.1) (fun e y he => ?_)
  obtain ⟨h1, ⟨g3, e2⟩, e3⟩ := he
  refine ⟨.inr h1, ?_⟩
  rw [e2, e3]
  rfl
theorem sub_low {la lb : List Value} {o n c o' n' c' : Nat} (ha : rowOk tR la o n c = true) (hb : rowOk tR lb o' n' c' = true) (h : (badL (cutI la o n) || badL (cutI lb o' n')) = false) (hd : decide (cmpL (cutI la o n) (cutI lb o' n') < 0) = true) :
    Runs (tabH Tryd.prog extY conB hcB) (addC' Tryd.f11) ([sl 0 o n c, sl 1 o' n' c'] ++ List.replicate 68 undef, h2 la lb, []) fun e y => (e = none ∨ e = some none) ∧ resS Tryd.prog Tryd.f11 y.1 y.2.1 = some (.tuple #[nilS, errV 4]) := by
  show Runs _ (seqs [cFst (sn 0 Tryd.f11), cFst (sn 1 Tryd.f11)] (.seq (cFst (sn 2 Tryd.f11)) (seqs [cFst (sn 3 Tryd.f11), cFst (sn 4 Tryd.f11), cFst (sn 5 Tryd.f11)] (.seq (.seq (aR9 Tryd.f11) (.block 0 (.loop (aL0 Tryd.f11)))) (.seq (.seq (aR14 Tryd.f11) (.block 2 (.loop (aL2 Tryd.f11)))) (aFin Tryd.f11)))))) _ _
  refine goesT_list (tabH_ok conB_ok hcB_ok) (sub_low0 o n c o' n' c' la lb) (okTwo ha (okTwo hb (okOne h))) fun g => ?_
  refine Runs.seq (goesT_runs (tabH_ok conB_ok hcB_ok) (sub_low1 o n c o' n' c' la lb g) (okTwo hd (okTwo ha (okOne hb)))) (fun y he => by cases he.1) (fun e y he => ?_)
  obtain ⟨h1, ⟨g3, e2⟩, e3⟩ := he
  refine ⟨.inr h1, ?_⟩
  rw [e2, e3]
  rfl
theorem canon_len {L M : List Int} (hL : canon L) (hM : canon M) (h : vN M ≤ vN L) : M.length ≤ L.length := by
  rcases Nat.lt_or_ge L.length M.length with hlt | hge
  · exfalso
    have h1 := vN_low hM.1 (by omega) (by rcases hM.2 with h | h; omega; exact h)
    have h2 := pw_le (show L.length ≤ M.length - 1 by omega)
    have := vN_bd L hL.1
    omega
  · exact hge
theorem sub_good {la lb : List Value} {o n c o' n' c' : Nat} (ha : rowOk tR la o n c = true) (hb : rowOk tR lb o' n' c' = true) (h : (badL (cutI la o n) || badL (cutI lb o' n')) = false) (hd : decide (cmpL (cutI la o n) (cutI lb o' n') < 0) = false) :
    Runs (tabH Tryd.prog extY conB hcB) (addC' Tryd.f11) ([sl 0 o n c, sl 1 o' n' c'] ++ List.replicate 68 undef, h2 la lb, []) fun e' y => (e' = none ∨ e' = some none) ∧ resS Tryd.prog Tryd.f11 y.1 y.2.1 = some (.tuple #[sl 2 0 (trimN (difL (cutI la o n) (cutI lb o' n'))) n, .nilIface]) ∧ y.2.1.blk? 2 = some (wU (difL (cutI la o n) (cutI lb o' n')), tU) := by
  obtain ⟨a1, a2, a3, a4, a5, a6, a7⟩ := row_of ha
  obtain ⟨b1, b2, b3, b4, b5, b6, b7⟩ := row_of hb
  have hh := h
  simp only [Bool.or_eq_false_iff] at hh
  have l1 := badL_len hh.1
  have pre := sub_pre o n c o' n' c' la lb
  unfold cN at pre
  generalize hLa : cutI la o n = La at *
  generalize hLb : cutI lb o' n' = Lb at *
  subst a2 b2
  have ka := badL_canon a1.rng hh.1
  have kb := badL_canon b1.rng hh.2
  have hV : vN Lb ≤ vN La := by
    have := (cmpL_val ka kb).1
    have hn := of_decide_eq_false hd
    rw [this] at hn
    omega
  rw [cpS_eq a1] at pre
  refine goesT_list (tabH_ok conB_ok hcB_ok) pre (okTwo (csOk_eq a1) (okTwo (decide_eq_true (by omega)) (okTwo hd (okTwo ha (okTwo hb (okTwo ha (okTwo hb (okOne h)))))))) fun g => ?_
  have r := sub_rest (la := la) (lb := lb) (e := c') (LA := La) (LB := Lb) b1 (canon_len ka kb hV) a1.rng (by omega) l1 (sl 0 o La.length c) g
  rw [Int.toNat_natCast]
  refine r.mono fun e' y he => ⟨he.1, he.2.1, ?_⟩
  rw [he.2.2]
  rfl
def gSub : AnsH := fun vals h s =>
  match vals with
  | [.slice (some ⟨b, o, none⟩) n c, .slice (some ⟨b', o', none⟩) n' c'] =>
    match h.blk? b, h.blk? b', s with
    | some x, some y, .inr (.inr (.inr (.inl true))) :: s' => some (.tuple #[nilS, errV 1], h, s', [(rowOk x.2 x.1 o n c, true), (rowOk y.2 y.1 o' n' c', true), (badL (cutI x.1 o n) || badL (cutI y.1 o' n'), true)])
    | some x, some y, .inr (.inr (.inr (.inl false))) :: .inr (.inr (.inr (.inl true))) :: s' => some (.tuple #[nilS, errV 4], h, s', [(rowOk x.2 x.1 o n c, true), (rowOk y.2 y.1 o' n' c', true), (badL (cutI x.1 o n) || badL (cutI y.1 o' n'), false), (decide (cmpL (cutI x.1 o n) (cutI y.1 o' n') < 0), true)])
    | some x, some y, .inr (.inr (.inr (.inl false))) :: .inr (.inr (.inr (.inl false))) :: s' => some (.tuple #[sl h.n 0 (trimN (difL (cutI x.1 o n) (cutI y.1 o' n'))) n, .nilIface], h.push (wU (difL (cutI x.1 o n) (cutI y.1 o' n'))) tU, s', [(rowOk x.2 x.1 o n c, true), (rowOk y.2 y.1 o' n' c', true), (badL (cutI x.1 o n) || badL (cutI y.1 o' n'), false), (decide (cmpL (cutI x.1 o n) (cutI y.1 o' n') < 0), false)])
    | _, _, _ => none
  | _ => none
theorem gSub_ok : AnsHOk 11 gSub := by
  intro vals h s v h' s' lg hg hl m B w E hv
  unfold gSub at hg
  split at hg
  · rename_i b o n c b' o' n' c'
    have two : ∀ x y : List Value × TypeId, h.blk? b = some x → h.blk? b' = some y → rowOk x.2 x.1 o n c = true → rowOk y.2 y.1 o' n' c' = true → ∀ v0 : Value, oc (List.range 2) v0 = true → rn (pair b b') v0 = v0 →
        Runs (tabH Tryd.prog extY conB hcB) (addC' Tryd.f11) ([sl 0 o n c, sl 1 o' n' c'] ++ List.replicate 68 undef, h2 x.1 y.1, []) (fun e y => (e = none ∨ e = some none) ∧ resS Tryd.prog Tryd.f11 y.1 y.2.1 = some v0) →
        Calls Tryd.prog 11 (([.slice (some ⟨b, o, none⟩) n c, .slice (some ⟨b', o', none⟩) n' c'] : List Value).map (mv m)).toArray w fun e w' => ∃ m', e = .returned (mv m' v0) ∧ Came m B h w v0 h m' w' := by
      intro x y hx hy ra rb v0 ho e0 r
      obtain ⟨a1, a2, a3, a4, a5, a6, a7⟩ := row_of ra
      obtain ⟨b1, b2, b3, b4, b5, b6, b7⟩ := row_of rb
      have := row_calls (T := tabH Tryd.prog extY conB hcB) Tryd.func11 sub_body (rows2 a7 b7) (vals := [sl 0 o n c, sl 1 o' n' c']) (fun v hv => by
        simp only [List.mem_cons, List.not_mem_nil, or_false] at hv
        rcases hv with rfl | rfl <;> rfl) ho r E (s := pair b b') (fun i _ => by have lx := Hp.blk_lt hx; have ly := Hp.blk_lt hy; unfold pair; split <;> assumption) (fitsR2 hx a5 a6 hy b5 b6)
      rw [e0] at this
      exact this.mono fun e w' he => ⟨m, he.1, he.2⟩
    split at hg
    · rename_i x y s2 hx hy
      cases hg
      have ra := hl _ (List.mem_cons_self)
      have rb := hl _ (List.mem_cons_of_mem _ List.mem_cons_self)
      have hd := hl _ (List.mem_cons_of_mem _ (List.mem_cons_of_mem _ (List.mem_singleton.2 rfl)))
      exact two x y hx hy ra rb _ (by rfl) (rn_still (by rfl)) (sub_bad (rowOk_R ra) (rowOk_R rb) hd)
    · rename_i x y s2 hx hy
      cases hg
      have ra := hl _ (List.mem_cons_self)
      have rb := hl _ (List.mem_cons_of_mem _ List.mem_cons_self)
      have hd := hl _ (List.mem_cons_of_mem _ (List.mem_cons_of_mem _ List.mem_cons_self))
      have he := hl _ (List.mem_cons_of_mem _ (List.mem_cons_of_mem _ (List.mem_cons_of_mem _ (List.mem_singleton.2 rfl))))
      exact two x y hx hy ra rb _ (by rfl) (rn_still (by rfl)) (sub_low (rowOk_R ra) (rowOk_R rb) hd he)
    · rename_i x y s2 hx hy
      cases hg
      have ra := hl _ (List.mem_cons_self)
      have rb := hl _ (List.mem_cons_of_mem _ List.mem_cons_self)
      have hd := hl _ (List.mem_cons_of_mem _ (List.mem_cons_of_mem _ List.mem_cons_self))
      have he := hl _ (List.mem_cons_of_mem _ (List.mem_cons_of_mem _ (List.mem_cons_of_mem _ (List.mem_singleton.2 rfl))))
      obtain ⟨a1, a2, a3, a4, a5, a6, a7⟩ := row_of ra
      obtain ⟨b1, b2, b3, b4, b5, b6, b7⟩ := row_of rb
      have r := sub_good (rowOk_R ra) (rowOk_R rb) hd he
      have e1 : ∀ k M : Nat, rn (fun _ => h.n) (.tuple #[sl 2 0 k M, .nilIface]) = .tuple #[sl h.n 0 k M, .nilIface] := fun k M => by simp [rn, rn2, rn1, sl]
      have := row_calls1 (T := tabH Tryd.prog extY conB hcB) Tryd.func11 sub_body (rows2 a7 b7) (vals := [sl 0 o n c, sl 1 o' n' c']) (fun v hv => by
        simp only [List.mem_cons, List.not_mem_nil, or_false] at hv
        rcases hv with rfl | rfl <;> rfl) (k := 2) (wU_calm _) tU_own (r.w.mono fun e y h => ⟨h.1, h.2.1, [], by rw [List.append_nil]; exact h.2.2⟩) (by rfl) E (s := pair b b') (fitsR2 hx a5 a6 hy b5 b6)
      rw [e1] at this
      exact this
    · cases hg
  · cases hg
end Go.Proofs.YtbjgkhbhabdjgaaDoor

/-
  nat.Sub, as a call with rows or nothing: its runs.
-/
namespace Go.Proofs.YtbjgkhbhabdjgaaDoor
open Go.KRun Go.Nt
set_option maxRecDepth 100000

theorem subN_bad1 (o n c : Nat) (la : List Value) : GoesT (evC (tabH Tryd.prog extY conB hcB) 200 false (cBody Tryd.f11) ([sl 0 o n c, nilS] ++ List.replicate 68 undef, ⟨1, [(la, tR)]⟩, [cmp true]) ⟨[], [], []⟩) 6 64 (some none) (fA (sl 0 o n c) nilS nilS (errV 1)) ⟨1, [(la, tR)]⟩ [chkL la o n c, (badL (cutI la o n), true)] := ⟨by kernel_rfl, by kernel_rfl, by kernel_rfl⟩
theorem subN_bad2 (o n c : Nat) (la : List Value) : GoesT (evC (tabH Tryd.prog extY conB hcB) 200 false (cBody Tryd.f11) ([nilS, sl 0 o n c] ++ List.replicate 68 undef, ⟨1, [(la, tR)]⟩, [cmp true]) ⟨[], [], []⟩) 6 64 (some none) (fA nilS (sl 0 o n c) nilS (errV 1)) ⟨1, [(la, tR)]⟩ [chkL la o n c, (badL (cutI la o n), true)] := ⟨by kernel_rfl, by kernel_rfl, by kernel_rfl⟩
/-- a row, and nothing -/
theorem subN_1n (o n c : Nat) (la : List Value) : GoesT (evC (tabH Tryd.prog extY conB hcB) 200 false (cBody Tryd.f11) ([sl 0 o n c, nilS] ++ List.replicate 68 undef, ⟨1, [(la, tR)]⟩, [cmp false, cmp false, at_, at_, cmp false, cmp false]) ⟨[], [], []⟩) 6 64 (some none)
    (fA (sl 0 o n c) nilS (sl 1 0 (trimN (cutI (cpS la o n) 0 ((n : Int)).toNat)) ((n : Int)).toNat) .nilIface) (h1S la (cpS la o n)) [(rowOk tU (cpS la o n) 0 ((n : Int)).toNat ((n : Int)).toNat, true), (false, false), (false, false), (csOk la o n, true), (okMakeB 4 n n, true), (decide (cmp0 n 0 < 0), false), chkL la o n c, (badL (cutI la o n), false)] := ⟨by kernel_rfl, by kernel_rfl, by kernel_rfl⟩
/-- nothing, and a row: it is more -/
theorem subN_n1 (o n c : Nat) (la : List Value) : GoesT (evC (tabH Tryd.prog extY conB hcB) 200 false (cBody Tryd.f11) ([nilS, sl 0 o n c] ++ List.replicate 68 undef, ⟨1, [(la, tR)]⟩, [cmp false, cmp true]) ⟨[], [], []⟩) 6 64 (some none)
    (fA nilS (sl 0 o n c) nilS (errV 4)) ⟨1, [(la, tR)]⟩ [(decide (cmp0 0 n < 0), true), chkL la o n c, (badL (cutI la o n), false)] := ⟨by kernel_rfl, by kernel_rfl, by kernel_rfl⟩
/-- nothing, and a row: it is not more -/
theorem subN_n0 (o n c : Nat) (la : List Value) : GoesT (evC (tabH Tryd.prog extY conB hcB) 200 false (cBody Tryd.f11) ([nilS, sl 0 o n c] ++ List.replicate 68 undef, ⟨1, [(la, tR)]⟩, [cmp false, cmp false, at_, at_, cmp false, cmp false]) ⟨[], [], []⟩) 6 64 (some none)
    (fA nilS (sl 0 o n c) (sl 1 0 0 0) .nilIface) (h1S la []) [(true, true), (false, false), (decide ((0 : Int) < n), false), (true, true), (true, true), (decide (cmp0 0 n < 0), false), chkL la o n c, (badL (cutI la o n), false)] := ⟨by kernel_rfl, by kernel_rfl, by kernel_rfl⟩
theorem subN_nn : GoesT (evC (tabH Tryd.prog extY conB hcB) 200 false (cBody Tryd.f11) ([nilS, nilS] ++ List.replicate 68 undef, ⟨0, []⟩, []) ⟨[], [], []⟩) 6 64 (some none) (fA nilS nilS (sl 0 0 0 0) .nilIface) ⟨1, [([], tU)]⟩ [(true, true)] := ⟨by kernel_rfl, by kernel_rfl, by kernel_rfl⟩
end Go.Proofs.YtbjgkhbhabdjgaaDoor
