/-
  nat.Sub, as a call with two rows.
-/
import Derived.Test.YtcnmfjhefioldabDoorConN8
import Derived.Test.YtcnmfjhefioldabDoorNumP
namespace Go.Proofs.YtcnmfjhefioldabDoor
open Go.KRun Go.Nt
set_option maxRecDepth 100000

theorem borrow_ok {x y c : Int} (hx : 0 ≤ x ∧ x < 4294967296) (hy : 0 ≤ y ∧ y < 4294967296) (hc : 0 ≤ c ∧ c ≤ 1) : (0 ≤ subD x y c ∧ subD x y c < 4294967296) ∧ (0 ≤ subB x y c ∧ subB x y c ≤ 1) ∧ x - y - c = subD x y c - 4294967296 * subB x y c := by
  unfold subD subB
  split <;> omega
theorem sub_loop0 {la lb : List Value} {o e : Nat} {LA LB : List Int} (RB : Row lb o LB) (hle : LB.length ≤ LA.length) (hA : wds LA) (hN : LA.length < 1099511627776) (a i0 x0 k0 : Value) (g g' : Nat → Value) (s : List Dec) :
    Runs (tabH Tryd.prog extY conB hcB) (.block 0 (.loop (aL0 Tryd.f11))) (ml (aF a (sl 1 o LB.length e) (sl 2 0 LA.length LA.length) (uu 0) i0 x0 k0) 17 g [sl 1 o LB.length e, i6' LB.length, i6' 0] 38 g', h3 la lb (wU LA), s)
      fun e' y => match e' with
        | none => ∃ (dx px : List Int) (c : Int) (i0 x0 t u v : Value) (g g' : Nat → Value), dx.length = LB.length ∧ dx.length + px.length = LA.length ∧ wds dx ∧ wds px ∧ (0 ≤ c ∧ c ≤ 1) ∧ y.1 = ml (aF a (sl 1 o LB.length e) (sl 2 0 LA.length LA.length) (uu c) i0 x0 k0) 17 g [t, u, v] 38 g' ∧ y.2.1 = h3 la lb (wU (dx ++ px)) ∧ vN dx + 4294967296 ^ LB.length * (vN px - c) = vN LA - vN LB
        | some _ => False := by
  refine (Runs.forLoop (R := fun _ => False) (P := fun y => ∃ (dx px : List Int) (c : Int) (i0 x0 t u v : Value) (g g' : Nat → Value), dx.length = LB.length ∧ dx.length + px.length = LA.length ∧ wds dx ∧ wds px ∧ (0 ≤ c ∧ c ≤ 1) ∧ y.1 = ml (aF a (sl 1 o LB.length e) (sl 2 0 LA.length LA.length) (uu c) i0 x0 k0) 17 g [t, u, v] 38 g' ∧ y.2.1 = h3 la lb (wU (dx ++ px)) ∧ vN dx + 4294967296 ^ LB.length * (vN px - c) = vN LA - vN LB)
    (fun r y => ∃ (k : Nat) (dx px : List Int) (c : Int) (i0 x0 : Value) (g g' : Nat → Value), k + r = LB.length ∧ dx.length = k ∧ dx.length + px.length = LA.length ∧ wds dx ∧ wds px ∧ (0 ≤ c ∧ c ≤ 1) ∧ y.1 = ml (aF a (sl 1 o LB.length e) (sl 2 0 LA.length LA.length) (uu c) i0 x0 k0) 17 g [sl 1 o LB.length e, i6' LB.length, i6' k] 38 g' ∧ y.2.1 = h3 la lb (wU (dx ++ px)) ∧ vN dx + 4294967296 ^ k * (vN px - vN (LB.drop k) - c) = vN LA - vN LB)
    ?_ (n := LB.length) ⟨0, [], LA, 0, i0, x0, g, g', by omega, rfl, by simp, (fun x hx => by cases hx), hA, by omega, rfl, rfl, by simp [vN]⟩).mono fun e' y he => ?_
  · rintro r ⟨t, h', s'⟩ ⟨k, dx, px, c, i0, x0, g, g', hk, hd, hl, wd1, wd2, hc, ht, hh, hv⟩
    simp only at ht hh
    subst ht hh
    cases r with
    | zero =>
      have ek : k = LB.length := by omega
      refine (goesM_runs (tabH_ok conB_ok hcB_ok) (sub_out0 _ _ _ _ _ _ _ _ LB.length k _ g g') (okOne (decide_eq_false (by omega)))).mono fun e' y he => ?_
      obtain ⟨rfl, ⟨g1, g2, e2⟩, e3⟩ := he
      refine ⟨rfl, dx, px, c, i0, x0, _, _, _, g1, g2, by omega, hl, wd1, wd2, hc, e2, e3, ?_⟩
      rw [ek, List.drop_length] at hv
      simpa [vN] using hv
    | succ r =>
      match px, hl, wd2, hv with
      | [], hl, _, _ => simp at hl; omega
      | x :: px, hl, wd2, hv =>
        obtain ⟨wx, wd2⟩ := wds_tail wd2
        have hy := RB.rng (LB.getD k 0) (by
          have hk' : k < LB.length := by omega
          simp [List.getD, List.getElem?_eq_getElem hk'])
        obtain ⟨k1, k2, k3⟩ := borrow_ok wx hy hc
        have cS := wU_get dx x px
        rw [hd] at cS
        have lS : (wU (dx ++ x :: px)).length = LA.length := by unfold wU; simp at hl ⊢; omega
        have l1 : (stoR (wU (dx ++ x :: px)) k).1 = (stoR (wU (dx ++ x :: px)) k).2 := by unfold stoR; simp only [Int.toNat_natCast, Nat.mul_one, Nat.zero_add]; exact decide_eq_true (by omega)
        have l2 : (inR k LA.length).1 = (inR k LA.length).2 := decide_eq_true (by omega)
        have l3 : wd4 x (LB.getD k 0) c = true := decide_eq_true ⟨wx, hy, hc⟩
        have l4 : (celR (wU (dx ++ x :: px)) 0 k x).1 = (celR (wU (dx ++ x :: px)) 0 k x).2 := cel_ok (by rw [Nat.zero_add]; exact cS)
        have l5 : (celR lb o k (LB.getD k 0)).1 = (celR lb o k (LB.getD k 0)).2 := cel_ok (RB.cell (by omega))
        have l6 : (inR k LB.length).1 = (inR k LB.length).2 := decide_eq_true (by omega)
        have l7 : decide ((k : Int) < (LB.length : Nat)) = true := decide_eq_true (by omega)
        refine (goesM_runs (tabH_ok conB_ok hcB_ok) (sub_go a _ i0 x0 k0 o LB.length e LA.length LA.length c k x (LB.getD k 0) la lb (wU (dx ++ x :: px)) g g') (okTwo l1 (okTwo l2 (okTwo l3 (okTwo l4 (okTwo l2 (okTwo l5 (okTwo l6 (okOne l7))))))))).mono fun e' y he => ?_
        obtain ⟨rfl, ⟨g1, g2, e2⟩, e3⟩ := he
        refine ⟨r, by omega, k + 1, dx ++ [subD x (LB.getD k 0) c], px, subB x (LB.getD k 0) c, i6' k, uu (LB.getD k 0), g1, g2, by omega, by simp [hd], by simp at hl ⊢; omega, wds_app wd1 (fun z hz => by rw [List.mem_singleton.1 hz]; exact k1), wd2, k2, ?_, ?_, ?_⟩
        · rw [e2, wrapI (by omega) (by omega)]; rfl
        · rw [e3, Int.toNat_natCast, Nat.mul_one, Nat.zero_add, ← hd, wU_set]
        · rw [drop_cons (by omega)] at hv
          simp only [vN] at hv
          rw [vN_snoc, hd, pw]
          exact dif_step k3 hv
  · match e', he with
    | none, he => exact he
    | some none, he => exact he
    | some (some _), he => exact he
theorem sub_loop2 {la lb : List Value} {n : Nat} {V : Int} (hN : n < 1099511627776) (hV : 0 ≤ V) (a b i0 x0 : Value) {dx px : List Int} {c : Int} (hl : dx.length + px.length = n) (wd1 : wds dx) (wd2 : wds px) (hc : 0 ≤ c ∧ c ≤ 1) (hv : vN dx + 4294967296 ^ dx.length * (vN px - c) = V) (g : Nat → Value) (s : List Dec) :
    Runs (tabH Tryd.prog extY conB hcB) (.block 2 (.loop (aL2 Tryd.f11))) (aF a b (sl 2 0 n n) (uu c) i0 x0 (i6' dx.length) ++ tl 58 g, h3 la lb (wU (dx ++ px)), s)
      fun e' y => match e' with
        | none => ∃ (k : Value) (g : Nat → Value), y.1 = aF a b (sl 2 0 n n) (uu 0) i0 x0 k ++ tl 58 g ∧ y.2.1 = h3 la lb (wU (dg n V))
        | some _ => False := by
  refine (Runs.forLoop (R := fun _ => False) (P := fun y => ∃ (k : Value) (g : Nat → Value), y.1 = aF a b (sl 2 0 n n) (uu 0) i0 x0 k ++ tl 58 g ∧ y.2.1 = h3 la lb (wU (dg n V)))
    (fun r y => ∃ (dx px : List Int) (c : Int) (g : Nat → Value), px.length = r ∧ dx.length + px.length = n ∧ wds dx ∧ wds px ∧ (0 ≤ c ∧ c ≤ 1) ∧ y.1 = aF a b (sl 2 0 n n) (uu c) i0 x0 (i6' dx.length) ++ tl 58 g ∧ y.2.1 = h3 la lb (wU (dx ++ px)) ∧ vN dx + 4294967296 ^ dx.length * (vN px - c) = V)
    ?_ (n := px.length) ⟨dx, px, c, g, rfl, hl, wd1, wd2, hc, rfl, rfl, hv⟩).mono fun e' y he => ?_
  · rintro r ⟨t, h', s'⟩ ⟨dx, px, c, g, hr, hl, wd1, wd2, hc, ht, hh, hv⟩
    simp only at ht hh
    subst ht hh
    by_cases c0 : c = 0
    · subst c0
      refine (goesT_runs (tabH_ok conB_ok hcB_ok) (sub_out2 a b _ i0 x0 _ 0 _ g) (okOne (by rfl))).mono fun e' y he => ?_
      obtain ⟨rfl, ⟨g1, e2⟩, e3⟩ := he
      refine ⟨rfl, _, g1, e2, ?_⟩
      have e4 : vN (dx ++ px) = V := by rw [vN_app, ← hv, Int.sub_zero]
      have e5 := dg_vN (dx ++ px) (wds_app wd1 wd2)
      rw [List.length_append, hl, e4] at e5
      rw [e3, e5]
    · have c1 : c = 1 := by omega
      subst c1
      match px, hr, hl, wd2, hv with
      | [], _, hl, _, hv =>
        exfalso
        have := (vN_bd dx wd1).2
        simp only [vN] at hv
        rw [show (0 : Int) - 1 = -1 from rfl, Int.mul_neg, Int.mul_one] at hv
        omega
      | x :: px, hr, hl, wd2, hv =>
        obtain ⟨wx, wd2⟩ := wds_tail wd2
        obtain ⟨k1, k2, k3⟩ := borrow_ok (y := 0) wx (by omega) hc
        have cS := wU_get dx x px
        have lS : (wU (dx ++ x :: px)).length = n := by unfold wU; simp at hl ⊢; omega
        have hl' : dx.length < n := by simp at hl; omega
        have l1 : (stoR (wU (dx ++ x :: px)) dx.length).1 = (stoR (wU (dx ++ x :: px)) dx.length).2 := by unfold stoR; simp only [Int.toNat_natCast, Nat.mul_one, Nat.zero_add]; exact decide_eq_true (by omega)
        have l2 : (inR dx.length n).1 = (inR dx.length n).2 := decide_eq_true (by omega)
        have l3 : wd4 x 0 1 = true := decide_eq_true ⟨wx, by omega, by omega⟩
        have l4 : (celR (wU (dx ++ x :: px)) 0 dx.length x).1 = (celR (wU (dx ++ x :: px)) 0 dx.length x).2 := cel_ok (by rw [Nat.zero_add]; exact cS)
        refine (goesT_runs (tabH_ok conB_ok hcB_ok) (sub_go2 a b i0 x0 n n 1 dx.length x la lb (wU (dx ++ x :: px)) g) (okTwo l1 (okTwo l2 (okTwo l3 (okTwo l4 (okTwo l2 (okOne (by rfl)))))))).mono fun e' y he => ?_
        obtain ⟨rfl, ⟨g1, e2⟩, e3⟩ := he
        refine ⟨px.length, by simp at hr; omega, dx ++ [subD x 0 1], px, subB x 0 1, g1, rfl, by simp at hl ⊢; omega, wds_app wd1 (fun z hz => by rw [List.mem_singleton.1 hz]; exact k1), wd2, k2, ?_, ?_, ?_⟩
        · rw [e2, wrapI (by omega) (by omega)]
          simp
        · rw [e3, Int.toNat_natCast, Nat.mul_one, Nat.zero_add, wU_set]
        · simp only [vN] at hv
          rw [vN_snoc, List.length_append, List.length_singleton, pw]
          have hv' : vN dx + 4294967296 ^ dx.length * (x + 4294967296 * vN px - (0 + 4294967296 * 0) - 1) = V := by rw [← hv]; congr 2; omega
          have := dif_step k3 hv'
          rw [Int.sub_zero] at this
          exact this
  · match e', he with
    | none, he => exact he
    | some none, he => exact he
    | some (some _), he => exact he
theorem cpS_eq {la : List Value} {o : Nat} {L : List Int} (hR : Row la o L) : cpS la o L.length = wU L := by
  unfold cpS
  rw [Int.toNat_natCast, show Nat.min L.length L.length = L.length from by simp]
  have e1 : (la.drop o).take L.length = wU L := hR.cut
  rw [e1, Nat.zero_add, List.take_zero, List.nil_append, List.drop_replicate, Nat.sub_self]
  simp
theorem csOk_eq {la : List Value} {o : Nat} {L : List Int} (hR : Row la o L) : csOk la o L.length = true := by
  unfold csOk
  rw [Int.toNat_natCast, show Nat.min L.length L.length = L.length from by simp]
  have e1 : (la.drop o).take L.length = wU L := hR.cut
  rw [e1, tR_tomb, tU_own]
  have h1 : Nat.ble (o + L.length) la.length = true := Nat.ble_eq_true_of_le hR.len
  have h2 : Nat.ble (0 + L.length) (List.replicate L.length (uu 0)).length = true := Nat.ble_eq_true_of_le (by simp)
  have h3 : ((wU L).all one) = true := by
    unfold wU
    rw [List.all_eq_true]
    intro v hv
    obtain ⟨x, _, rfl⟩ := List.mem_map.1 hv
    rfl
  rw [h1, h2, h3]
  rfl
theorem badL_canon {L : List Int} (hw : wds L) (h : badL L = false) : canon L := by
  unfold badL at h
  simp only [Bool.or_eq_false_iff, decide_eq_false_iff_not, Bool.and_eq_false_iff, beq_eq_false_iff_ne, ne_eq] at h
  refine ⟨hw, ?_⟩
  rcases h.2 with h | h
  · exact .inl (by omega)
  · exact .inr h
end Go.Proofs.YtcnmfjhefioldabDoor
