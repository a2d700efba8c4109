/-
  TxF, UuB, TxG
-/
import Derived.Test.YtgefjidphfdhdaaGreatDoorG15
namespace Go.Proofs.YtgefjidphfdhdaaGreatDoor.Na
open Go.KRun Go.Nt
set_option maxRecDepth 100000
def dOut (a : Value) (la : List Value) (V : Nat) (y : Lf) : Prop := ∃ (D : List Int) (r w : Value) (Y : List Value × TypeId) (g : Nat → Value), y.1 = dF a r (.slice (some ⟨2, 0, none⟩) D.length grown) w ++ tl 38 g ∧ y.2.1 = hB2 (wB (D.map asc)) Y la ∧ D.length < 100000 ∧ (∀ x ∈ D, Dg 10 x) ∧ vb 10 D = V ∧ (Y.1.all still) = true
theorem d_round {o n c : Nat} {la : List Value} {N V : Nat} (hla : la.all still = true) (hN : N ≤ 8192) (hV0 : 0 < V) {e : Nat} (he : e = 262144) (hV : V < 2 ^ e) (r : Nat) (y : Lf) (h : dInv (sl 0 o n c) la N V r y) :
    RunsW (tabH Tryz.prog extY conDc hcDc) (dL Tryz.f80) y fun e z => match e with | none => ∃ r', r' < r ∧ dInv (sl 0 o n c) la N V r' z | some none => False | some (some id') => id' = 0 ∧ dOut (sl 0 o n c) la V z := by
  obtain ⟨k, D, W, Z, w, g, ht, hh, hD, hDg, hwz, hW, hlen, hv, hr, hk9⟩ := h
  obtain ⟨t, h', sc⟩ := y
  simp only at ht hh
  subst ht hh
  have hWw : wds W := fun x hx => hwz x (List.mem_append_left _ hx)
  have hWl : W.length ≤ N := by rw [← hlen, List.length_append]; omega
  have hpos := vb_pos10 hWw hW
  have hsm : smallC N = true := blt_iff.2 (by unfold dead; omega)
  by_cases h0 : 0 < W.length
  · have lc : decide (((W.length : Nat) : Int) > 0) = true := decide_eq_true (by omega)
    have hR := hpos.2 h0
    have hk : k < 9040 := pw_29 (k := k) (V := V) (by
      have := Nat.mul_le_mul_left (10 ^ (9 * k)) (show 1 ≤ vb 4294967296 W by omega)
      omega) he hV
    obtain ⟨q1, Z', q2, q3, q4, q5⟩ := tp_words hwz
    have hp : vb 4294967296 W % 1000000000 < 4294967296 := by omega
    have l1 : rowOk tU (wU (W ++ Z)) 0 W.length N = true := wU_rowAt hwz (by rw [List.length_append]; omega) hWl hsm
    have l2 : rowOk tU (tpS (wU (W ++ Z)) W.length) 0 W.length N = true := by
      rw [q2]
      exact wU_rowAt q4 (by rw [q5, List.length_append]; omega) hWl hsm
    have stS : ∀ v ∈ (tpS (wU (W ++ Z)) W.length), still v = true := by
      rw [q2]
      exact List.all_eq_true.1 (wU_allS _)
    have ep : ∀ (D : List Int) (j : Nat), apB (wB (D.map asc)) (tpP (wU (W ++ Z)) W.length) j = wB ((D ++ ld j (vb 4294967296 W % 1000000000)).map asc) := fun D j => by rw [q1]; exact apB_eq hp D j
    have dec : vb 4294967296 W / 1000000000 < vb 4294967296 W := Nat.div_lt_self hR (by omega)
    have next : ∀ (D : List Int), D.length = 9 * k → vb 10 D + 10 ^ (9 * k) * vb 4294967296 W = V → (∀ x ∈ D, Dg 10 x) → ∀ (z : Lf) (w' : Value), (∃ g, z.1 = dF (sl 0 o n c) (sl 1 0 (trS (wU (W ++ Z)) W.length) N) (.slice (some ⟨2, 0, none⟩) (D.length + 9) grown) w' ++ tl 38 g) → z.2.1 = ⟨3, [(wB ((D ++ ld 9 (vb 4294967296 W % 1000000000)).map asc), tBy), (tpS (wU (W ++ Z)) W.length, tU), (la, tR)]⟩ → ∃ r', r' < r ∧ dInv (sl 0 o n c) la N V r' z := fun D hD hv hDg z w' hz1 hz2 => by
      obtain ⟨g', hz1⟩ := hz1
      refine ⟨_, by rw [hr]; exact dec, k + 1, D ++ ld 9 (vb 4294967296 W % 1000000000), db 4294967296 (vb 4294967296 W / 1000000000), Z', w', g', ?_, ?_, ?_, ?_, q4, ?_, by rw [q5]; exact hlen, ?_, ?_⟩
      · rw [hz1, q3]
        unfold dS
        rw [if_neg (by omega), List.length_append, ld_len]
      · rw [hz2, q2]
        unfold dX
        rw [if_neg (by omega)]
        rfl
      · rw [List.length_append, ld_len, hD]; omega
      · intro x hx
        rcases List.mem_append.1 hx with hx | hx
        · exact hDg x hx
        · exact ld_dg _ _ x hx
      · exact (can_db (by omega) _).2
      · rw [vb_db (by omega)]
        exact piece_step hD hv
      · exact ⟨by rw [vb_db (by omega)], by omega⟩
    by_cases hk0 : k = 0
    · have hDn : D = [] := List.length_eq_zero_iff.1 (by omega)
      have ap : ∀ (m j : Nat), m = j → m < 1073741824 → (apL [] (tpP (wU (W ++ Z)) W.length) m j).1 = (apL [] (tpP (wU (W ++ Z)) W.length) m j).2 := fun m j hm hb => by
        rw [q1]
        exact apL_ok hp [] (m := m) (j := j) (by simpa using hm) hb
      have e0 : dS k D = nilS := by unfold dS; rw [if_pos hk0]
      have e1 : dX k D = [] := by unfold dX; rw [if_pos hk0]
      rw [e0, e1]
      have stY : ∀ v ∈ ((apB [] (tpP (wU (W ++ Z)) W.length) 9, tBy) : List Value × TypeId).1, still v = true := by
        have := ep [] 9
        rw [show wB (List.map asc []) = [] from rfl] at this
        simp only [this]
        exact List.all_eq_true.1 (wB_still _)
      refine ((goesT_runsW (s0 := sc) tabDc (dc_go0 W.length N (sl 0 o n c) w (wU (W ++ Z)) la g) (okCons l2 (okCons rfl (okCons (ap 8 8 (by simp) (by omega)) (okCons rfl (okCons (ap 7 7 (by simp) (by omega)) (okCons rfl (okCons (ap 6 6 (by simp) (by omega)) (okCons rfl (okCons (ap 5 5 (by simp) (by omega)) (okCons rfl (okCons (ap 4 4 (by simp) (by omega)) (okCons rfl (okCons (ap 3 3 (by simp) (by omega)) (okCons rfl (okCons (ap 2 2 (by simp) (by omega)) (okCons rfl (okCons (ap 1 1 (by simp) (by omega)) (okCons rfl (okCons rfl (okCons rfl (okCons rfl (okCons rfl (okCons l1 (okCons hla (okCons rfl (okL1 lc))))))))))))))))))))))))))).kept (k := 2) (b := 19) (base := [(tpS (wU (W ++ Z)) W.length, tU), (la, tR)]) (y := (apB [] (tpP (wU (W ++ Z)) W.length) 9, tBy)) (front' := dF (sl 0 o n c) (sl 1 0 (trS (wU (W ++ Z)) W.length) N) (.slice (some ⟨2, 0, none⟩) 9 grown) (uu (pNx (tpP (wU (W ++ Z)) W.length) 9))) rfl (by kernel_rfl) (fun i x hi => by
        have hi2 : i < 2 := Hp.blk_lt hi
        have h01 : i = 0 ∨ i = 1 := by omega
        rcases h01 with rfl | rfl
        · obtain rfl := (Option.some.inj hi).symm
          exact ⟨rfl, List.all_eq_true.1 hla⟩
        · obtain rfl := (Option.some.inj hi).symm
          exact ⟨rfl, stS⟩) rfl (by omega) stY (by
        intro v hv
        simp only [dF, List.mem_cons, List.not_mem_nil, or_false] at hv
        rcases hv with rfl | rfl | rfl | rfl | rfl | rfl | rfl | rfl <;> rfl)).mono fun e z hz => ?_
      obtain ⟨rfl, hz1, hz2⟩ := hz
      have e9 := ep [] 9
      rw [show wB (List.map asc []) = [] from rfl] at e9
      rw [e9] at hz2
      refine next [] (by rw [hk0]; rfl) (by rw [← hDn]; exact hv) (fun x hx => by cases hx) z (uu (pNx (tpP (wU (W ++ Z)) W.length) 9)) hz1 hz2
    · have e0 : dS k D = .slice (some ⟨2, 0, none⟩) D.length grown := by unfold dS; rw [if_neg hk0]
      have e1 : dX k D = [(wB (D.map asc), tBy)] := by unfold dX; rw [if_neg hk0]
      rw [e0, e1]
      have ap : ∀ (m j : Nat), m = D.length + j → m < 1073741824 → (apL (wB (D.map asc)) (tpP (wU (W ++ Z)) W.length) m j).1 = (apL (wB (D.map asc)) (tpP (wU (W ++ Z)) W.length) m j).2 := fun m j hm hb => by
        rw [q1]
        exact apL_ok hp D hm hb
      have lX : (([(wB (D.map asc), tBy)] : List (List Value × TypeId)).all fun x => x.1.all still) = true := by
        rw [List.all_cons, wB_still]
        rfl
      have stY : ∀ v ∈ ((apB (wB (D.map asc)) (tpP (wU (W ++ Z)) W.length) 9, tBy) : List Value × TypeId).1, still v = true := by
        simp only [ep D 9]
        exact List.all_eq_true.1 (wB_still _)
      refine ((goesT_runsW (s0 := sc) tabDc (dc_go1 W.length N D.length (sl 0 o n c) w (wB (D.map asc)) (wU (W ++ Z)) la g) (okCons l2 (okCons rfl (okCons (ap (D.length + 8) 8 rfl (by omega)) (okCons rfl (okCons (ap (D.length + 7) 7 rfl (by omega)) (okCons rfl (okCons (ap (D.length + 6) 6 rfl (by omega)) (okCons rfl (okCons (ap (D.length + 5) 5 rfl (by omega)) (okCons rfl (okCons (ap (D.length + 4) 4 rfl (by omega)) (okCons rfl (okCons (ap (D.length + 3) 3 rfl (by omega)) (okCons rfl (okCons (ap (D.length + 2) 2 rfl (by omega)) (okCons rfl (okCons (ap (D.length + 1) 1 rfl (by omega)) (okCons rfl (okCons (ap D.length 0 rfl (by omega)) (okCons rfl (okCons rfl (okCons rfl (okCons l1 (okCons hla (okCons lX (okL1 lc))))))))))))))))))))))))))).kept (k := 2) (b := 20) (base := [(tpS (wU (W ++ Z)) W.length, tU), (la, tR)]) (y := (apB (wB (D.map asc)) (tpP (wU (W ++ Z)) W.length) 9, tBy)) (front' := dF (sl 0 o n c) (sl 1 0 (trS (wU (W ++ Z)) W.length) N) (.slice (some ⟨2, 0, none⟩) (D.length + 9) grown) (uu (pNx (tpP (wU (W ++ Z)) W.length) 9))) rfl (by kernel_rfl) (fun i x hi => by
        have hi2 : i < 2 := Hp.blk_lt hi
        have h01 : i = 0 ∨ i = 1 := by omega
        rcases h01 with rfl | rfl
        · obtain rfl := (Option.some.inj hi).symm
          exact ⟨rfl, List.all_eq_true.1 hla⟩
        · obtain rfl := (Option.some.inj hi).symm
          exact ⟨rfl, stS⟩) rfl (by omega) stY (by
        intro v hv
        simp only [dF, List.mem_cons, List.not_mem_nil, or_false] at hv
        rcases hv with rfl | rfl | rfl | rfl | rfl | rfl | rfl | rfl <;> rfl)).mono fun e z hz => ?_
      obtain ⟨rfl, hz1, hz2⟩ := hz
      rw [ep D 9] at hz2
      exact next D hD hv hDg z _ hz1 hz2
  · have hR : vb 4294967296 W = 0 := by
      rcases Nat.eq_zero_or_pos (vb 4294967296 W) with h1 | h1
      · exact h1
      · exact absurd (hpos.1 h1) h0
    rw [hR, Nat.mul_zero, Nat.add_zero] at hv
    have hk0 : k ≠ 0 := fun hk => by
      have : D = [] := List.length_eq_zero_iff.1 (by omega)
      rw [this] at hv
      simp [vb] at hv
      omega
    refine (goesT_runsW (s0 := sc) tabDc (dc_out W.length N (sl 0 o n c) (dS k D) w _ g) (okL1 (decide_eq_false (by omega)))).mono fun e z hz => ?_
    obtain ⟨rfl, ⟨g', hz1⟩, hz2⟩ := hz
    have e0 : dS k D = .slice (some ⟨2, 0, none⟩) D.length grown := by unfold dS; rw [if_neg hk0]
    have e1 : dX k D = [(wB (D.map asc), tBy)] := by unfold dX; rw [if_neg hk0]
    rw [e0] at hz1
    rw [e1] at hz2
    exact ⟨rfl, D, _, w, (wU (W ++ Z), tU), g', hz1, hz2, by omega, hDg, hv, wU_allS _⟩
/-- the letters, the highest first, without noughts ahead -/
theorem dec_text {D : List Int} {V : Nat} (hV : 0 < V) (hD : ∀ x ∈ D, Dg 10 x) (hv : vb 10 D = V) : trL 48 ((D.map asc).reverse.map fun n => UInt8.ofNat n.toNat) = decS V := by
  have h1 := dropZ_rev hD
  rw [hv] at h1
  unfold decS decL
  rw [if_neg (by omega), ← h1]
  have key : ∀ L : List Int, (∀ x ∈ L, Dg 10 x) → trL 48 ((L.map asc).map fun n => UInt8.ofNat n.toNat) = (dropZ L).map fun x => UInt8.ofNat (asc x).toNat := by
    intro L
    induction L with
    | nil => intro _; rfl
    | cons x L ih =>
      intro hL
      have hx := hL x List.mem_cons_self
      have ih := ih fun y hy => hL y (List.mem_cons_of_mem _ hy)
      have hx0 := hx.1
      have hx1 : x < 10 := by have := hx.2; omega
      have ev : (((UInt8.ofNat (asc x).toNat).toNat : Nat) : Int) = 48 + x := by
        unfold asc
        simp
        omega
      by_cases h0 : x = 0
      · subst h0
        unfold trL dropZ at *
        rw [List.map_cons, List.map_cons, List.dropWhile_cons_of_pos (by rfl), List.dropWhile_cons_of_pos (by rfl)]
        exact ih
      · unfold trL dropZ at *
        rw [List.map_cons, List.map_cons, List.dropWhile_cons_of_neg (by rw [ev]; simp; omega), List.dropWhile_cons_of_neg (by simpa using h0)]
        simp
  rw [← List.map_reverse]
  exact key D.reverse fun x hx => hD x (List.mem_reverse.1 hx)
theorem bytesL_wB : ∀ L : List Int, bytesL (wB L) = some L
  | [] => rfl
  | x :: L => by
    show bytesL (ub x :: wB L) = _
    simp [bytesL, ub, bytesL_wB L]
theorem d_end {a r w : Value} {D : List Int} {Y : List Value × TypeId} {la : List Value} {V : Nat} (hla : la.all still = true) (hV : 0 < V) (hl : D.length < 100000) (hD : ∀ x ∈ D, Dg 10 x) (hv : vb 10 D = V) (hY : Y.1.all still = true) (g : Nat → Value) (sc : List Dec) :
    RunsW (tabH Tryz.prog extY conDc hcDc) (dE Tryz.f80) (dF a r (.slice (some ⟨2, 0, none⟩) D.length grown) w ++ tl 38 g, hB2 (wB (D.map asc)) Y la, sc) fun e z => (e = none ∨ e = some none) ∧ resS Tryz.prog Tryz.f80 z.1 z.2.1 = some (.tuple #[bS (decS V), .nilIface]) := by
  have l1 : txtChk ((wB (D.map asc)).reverse, tBy) 0 D.length ⟨⟨(D.map asc).reverse.map fun n => UInt8.ofNat n.toNat⟩⟩ = true := by
    unfold txtChk
    have e : (wB (D.map asc)).reverse = wB (D.map asc).reverse := by simp [wB]
    have e2 : ((wB (D.map asc).reverse).drop 0).take D.length = wB (D.map asc).reverse := by
      rw [List.drop_zero]
      exact List.take_of_length_le (by simp [wB])
    simp only [e, e2, bytesL_wB]
    rw [show tomb tBy = false from by kernel_rfl, Nat.ble_eq_true_of_le (by simp [wB])]
    simp
  refine (goesT_runsW (s0 := sc) tabDc (dc_end D.length a r w ⟨⟨(D.map asc).reverse.map fun n => UInt8.ofNat n.toNat⟩⟩ (wB (D.map asc)) Y la g) (okCons rfl (okCons l1 (okCons hY (okCons rfl (okCons rfl (okCons (by rw [wB_len, List.length_map]; exact Nat.beq_refl _) (okCons (isB_wB _) (okCons rfl (okCons hla (okL1 (blt_iff.2 (by omega))))))))))))).mono fun e z hz => ?_
  obtain ⟨rfl, ⟨g', hz1⟩, hz2⟩ := hz
  refine ⟨.inr rfl, ?_⟩
  have et := dec_text hV hD hv
  have : bS (trL 48 (⟨⟨(D.map asc).reverse.map fun n => UInt8.ofNat n.toNat⟩⟩ : ByteArray).data.toList) = bS (decS V) := by rw [← et]
  rw [this] at hz1
  rw [hz1, hz2]
  rfl
end Go.Proofs.YtgefjidphfdhdaaGreatDoor.Na
namespace Go.Proofs.YtgefjidphfdhdaaGreatDoor
open Go.KRun
set_option maxRecDepth 100000
theorem b1_of {x : List Value × TypeId} {i : Nat} {z : List Value × TypeId} (hz : (⟨1, [x]⟩ : Hp).blk? i = some z) : i = 0 ∧ z = x := by
  have : i < 1 := Hp.blk_lt hz
  have hi : i = 0 := by omega
  subst hi
  exact ⟨rfl, (Option.some.inj hz).symm⟩
end Go.Proofs.YtgefjidphfdhdaaGreatDoor
namespace Go.Proofs.YtgefjidphfdhdaaGreatDoor.Na
open Go.KRun Go.Nt
set_option maxRecDepth 100000
theorem dc_body1 : Tryz.f80.body = some (cBody Tryz.f80) := by kernel_rfl
theorem cpD_eq {l : List Value} {o : Nat} {L : List Int} (h : Row l o L) : cpD l o L.length = wU L ∧ cpC l o L.length = true := by
  have e : L.length.min L.length = L.length := Nat.min_self _
  have h1 := h.cut
  have h2 := h.len
  unfold cutV at h1
  unfold cpD cpC
  rw [e, h1]
  refine ⟨by simp, ?_⟩
  rw [show tomb tR = false from by kernel_rfl, show ro tU = false from by kernel_rfl, Nat.ble_eq_true_of_le h2, Nat.ble_eq_true_of_le (by simp), wU_one]
  rfl
theorem canon_trim {L : List Int} (h : canon L) : trimN L = L.length := by
  apply trimN_uniq
  · intro i hi
    simp [List.getD, List.getElem?_eq_none hi]
  · exact h.2
theorem dec_runs {l : List Value} {o n c : Nat} (ha : rowOk tR l o n c = true) (hb : badL (cutI l o n) = false) (h0 : 0 < n) :
    RunsW (tabH Tryz.prog extY conDc hcDc) (seqs (dP Tryz.f80) (.seq (.block 0 (.loop (dL Tryz.f80))) (dE Tryz.f80))) ([sl 0 o n c] ++ List.replicate 45 undef, h1R l, []) fun e z => (e = none ∨ e = some none) ∧ resS Tryz.prog Tryz.f80 z.1 z.2.1 = some (.tuple #[bS (decS (vb 4294967296 (cutI l o n))), .nilIface]) := by
  obtain ⟨a1, a2, a3, a4, a5, a6, a7⟩ := row_of ha
  obtain ⟨L, hL⟩ : ∃ L, L = cutI l o n := ⟨_, rfl⟩
  rw [← hL] at a1 a2 hb ⊢
  have h8 := badL_len hb
  have hc := badL_canon a1.rng hb
  have hla : l.all still = true := List.all_eq_true.2 a7
  have ht := canon_trim hc
  have hw : wds L := a1.rng
  have hV : 0 < vb 4294967296 L := (vb_pos10 hw ht).2 (by omega)
  obtain ⟨k, hk⟩ : ∃ k : Nat, k = 8192 := ⟨_, rfl⟩
  have hlt := vb_lt32 (m := k) hw (by omega)
  obtain ⟨e, he⟩ : ∃ e : Nat, e = 262144 := ⟨_, rfl⟩
  have hlt2 : vb 4294967296 L < 2 ^ e := by
    rw [show (4294967296 : Nat) = 2 ^ 32 from rfl, ← Nat.pow_mul] at hlt
    rw [show e = 32 * k by omega]
    exact hlt
  obtain ⟨c1, c2⟩ := cpD_eq a1
  rw [a2] at c1 c2
  have rX : rowX (h1R l) (some ⟨0, o, none⟩) n c = true := by
    show rowOk tR l o n c = true
    exact ha
  have rO : rowOf (h1R l) (some ⟨0, o, none⟩) n = L := by rw [hL]; rfl
  have lm : okMakeB 4 n n = true := by unfold okMakeB; exact decide_eq_true ⟨by omega, by omega, by omega, by omega⟩
  refine goesT_listW tabDc (dc_pre o n c l) (okCons c2 (okCons lm (okCons (by simp; omega) (okCons rX (okL1 (by rw [rO]; exact hb)))))) fun g => ?_
  refine RunsW.seq (P1 := fun e y => e = none ∧ dOut (sl 0 o n c) l (vb 4294967296 L) y) ?_ ?_ (fun e y he => by cases he.1)
  · refine (RunsW.forLoop (R := fun _ => False) (P := dOut (sl 0 o n c) l (vb 4294967296 L)) (dInv (sl 0 o n c) l n (vb 4294967296 L)) (d_round hla (by omega) hV he hlt2) (n := vb 4294967296 L) ⟨0, [], L, [], undef, g, ?_, ?_, rfl, (fun x hx => by cases hx), (by simpa using hw), ht, by simpa using a2, by simp [vb], rfl, by omega⟩).mono fun e z hz => ?_
    · rw [a2]; rfl
    · show hX [] (cpD l o n) l = hX (dX 0 []) (wU (L ++ [])) l
      rw [c1, List.append_nil]
      rfl
    · match e, hz with
      | none, hz => exact ⟨rfl, hz⟩
  · rintro ⟨t, hh, s⟩ ⟨_, D, r, w, Y, g', e1, e2, e3, e4, e5, e6⟩
    simp only at e1 e2
    subst e1 e2
    exact d_end hla hV e3 e4 e5 e6 g' s
/-- the digits of a number: told ahead whether words are no number, and the text -/
def gDc : AnsH := fun vals h s =>
  match vals, s with
  | [.slice p n c], .inr (.inr (.inr (.inl true))) :: s' => some (.tuple #[bS [], errV 1], h, s', [(rowX h p n c, true), (badL (rowOf h p n), true)])
  | [.slice p n c], .inr (.inr (.inr (.inl false))) :: .inr (.inr (.inr (.inr (.inr (.string b))))) :: s' => some (.tuple #[.string b, .nilIface], h, s', [(rowX h p n c, true), (badL (rowOf h p n), false), (decide (decS (v32O h p n) = b.data.toList), true)])
  | _, _ => none
theorem gDc_ok : AnsHOk 80 gDc := by
  intro vals h s v h' s' lg hg hl m B w E hv
  unfold gDc at hg
  split at hg
  · rename_i p n c s2
    cases hg
    obtain ⟨l1, q⟩ := logB hl
    obtain ⟨l2, _⟩ := logB q
    rcases rowX_cases l1 with ⟨rfl, rfl, rfl, e0⟩ | ⟨b, o, x, rfl, hx, r1, e0⟩
    · rw [e0, badL_nil] at l2
      cases l2
    · rw [e0] at l2
      obtain ⟨a1, a2, a3, a4, a5, a6, a7⟩ := row_of r1
      have hr : Runs (tabH Tryz.prog extY conDc hcDc) (cBody Tryz.f80) ([sl 0 o n c] ++ List.replicate 45 undef, h1R x.1, []) fun e z => (e = none ∨ e = some none) ∧ resS Tryz.prog Tryz.f80 z.1 z.2.1 = some (.tuple #[bS [], errV 1]) := by
        refine (goesT_runs tabDc (dc_bad (some ⟨0, o, none⟩) n c (h1R x.1)) (okCons (rowOk_R r1) (okL1 l2))).mono fun e z he => ?_
        obtain ⟨rfl, ⟨g, z1⟩, z2⟩ := he
        exact ⟨.inr rfl, by rw [z1, z2]; rfl⟩
      exact row_calls0 (T := tabH Tryz.prog extY conDc hcDc) Tryz.func80 dc_body1 (rows1 a7) (vals := [sl 0 o n c]) (fun v hv => by rw [List.mem_singleton.1 hv]; rfl) (by rfl) hr.w E (s := fun _ => b) (fitsR1 hx a5 a6 rfl)
  · rename_i p n c t s2
    cases hg
    obtain ⟨l1, q⟩ := logB hl
    obtain ⟨l2, q⟩ := logB q
    obtain ⟨l3, _⟩ := logB q
    have l3 := of_decide_eq_true l3
    have et : Value.string t = bS t.data.toList := rfl
    rw [et, ← l3]
    rcases rowX_cases l1 with ⟨rfl, rfl, rfl, e0⟩ | ⟨b, o, x, rfl, hx, r1, e0⟩
    · have ev : v32O h none 0 = 0 := by unfold v32O; rw [e0]; rfl
      rw [ev]
      have hr : Runs (tabH Tryz.prog extY conDc hcDc) (cBody Tryz.f80) ([.slice none 0 0] ++ List.replicate 45 undef, ⟨0, []⟩, []) fun e z => (e = none ∨ e = some none) ∧ resS Tryz.prog Tryz.f80 z.1 z.2.1 = some (.tuple #[bS (decS 0), .nilIface]) := by
        refine (goesT_runs tabDc (dc_zero none 0 0 ⟨0, []⟩) (okCons rfl (okCons rfl (okL1 rfl)))).mono fun e z he => ?_
        obtain ⟨rfl, ⟨g, z1⟩, z2⟩ := he
        exact ⟨.inr rfl, by rw [z1, z2]; rfl⟩
      exact row_calls0 (T := tabH Tryz.prog extY conDc hcDc) Tryz.func80 dc_body1 (h0 := ⟨0, []⟩) ⟨rfl, fun b x hx => by have : b < 0 := Hp.blk_lt hx; omega⟩ (vals := [.slice none 0 0]) (fun v hv => by rw [List.mem_singleton.1 hv]; rfl) (by rfl) hr.w E (s := fun i => i) (fun i x hx => by have : i < 0 := Hp.blk_lt hx; omega)
    · have ev : v32O h (some ⟨b, o, none⟩) n = vb 4294967296 (cutI x.1 o n) := by unfold v32O; rw [e0]
      rw [e0] at l2
      obtain ⟨a1, a2, a3, a4, a5, a6, a7⟩ := row_of r1
      rw [ev]
      by_cases hn : n = 0
      · subst hn
        have e1 : cutI x.1 o 0 = [] := List.length_eq_zero_iff.1 a2
        have hr : Runs (tabH Tryz.prog extY conDc hcDc) (cBody Tryz.f80) ([sl 0 o 0 c] ++ List.replicate 45 undef, h1R x.1, []) fun e z => (e = none ∨ e = some none) ∧ resS Tryz.prog Tryz.f80 z.1 z.2.1 = some (.tuple #[bS (decS 0), .nilIface]) := by
          refine (goesT_runs tabDc (dc_zero (some ⟨0, o, none⟩) 0 c (h1R x.1)) (okCons rfl (okCons (rowOk_R r1) (okL1 l2)))).mono fun e z he => ?_
          obtain ⟨rfl, ⟨g, z1⟩, z2⟩ := he
          exact ⟨.inr rfl, by rw [z1, z2]; rfl⟩
        rw [e1]
        exact row_calls0 (T := tabH Tryz.prog extY conDc hcDc) Tryz.func80 dc_body1 (rows1 a7) (vals := [sl 0 o 0 c]) (fun v hv => by rw [List.mem_singleton.1 hv]; rfl) (by rfl) hr.w E (s := fun _ => b) (fitsR1 hx a5 a6 rfl)
      · exact row_calls0 (T := tabH Tryz.prog extY conDc hcDc) Tryz.func80 dc_body (rows1 a7) (vals := [sl 0 o n c]) (fun v hv => by rw [List.mem_singleton.1 hv]; rfl) (by rfl) (dec_runs (rowOk_R r1) l2 (by omega)) E (s := fun _ => b) (fitsR1 hx a5 a6 rfl)
  · cases hg
end Go.Proofs.YtgefjidphfdhdaaGreatDoor.Na
