/-
  ConNF, ConNP, SlM, ConO1, NumTo, ConO2
-/
import Derived.Test.YtgefjidphfdhdabGreatDoorG09
namespace Go.Proofs.YtgefjidphfdhdabGreatDoor.Na
open Go.KRun Go.Nt
set_option maxRecDepth 100000
theorem lenN_bd {L : List Int} (hL : wds L) : 0 ≤ lenN L ∧ lenN L ≤ 262144 := by
  unfold lenN
  cases h : (L.length == 0 || badL L) with
  | true =>
    show (0 : Int) ≤ 0 ∧ (0 : Int) ≤ 262144
    omega
  | false =>
    simp only [Bool.or_eq_false_iff] at h
    have h8 := badL_len h.2
    have h0 : L.length ≠ 0 := by simpa using h.1
    have hx := hL (L.getD (L.length - 1) 0) (by
      have hk' : L.length - 1 < L.length := by omega
      simp [List.getD, List.getElem?_eq_getElem hk'])
    have := bitLen_32 hx.1 hx.2
    simp only
    omega
theorem sk_eq {K : Nat} (h : K ≤ 262144) : skI K = ((K / 32 : Nat) : Int) := by
  unfold skI
  have e : ((K : Nat) : Int).tdiv 32 = ((K / 32 : Nat) : Int) := rfl
  rw [e, wrapI (by omega) (by omega)]
theorem rm_eq (K : Nat) : rmI K = ((K % 32 : Nat) : Int) := rfl
theorem zI_eq {n K : Nat} (h : K ≤ 262144) (hn : n ≤ 8192) : zI n K = ((K / 32 + (n + 1) : Nat) : Int) := by
  unfold zI
  rw [sk_eq h, wrapI (n := ((K / 32 : Nat) : Int) + (n : Nat)) (by omega) (by omega), wrapI (by omega) (by omega)]
  omega
theorem zN_eq {n K : Nat} (h : K ≤ 262144) (hn : n ≤ 8192) : zN n K = K / 32 + (n + 1) := by unfold zN; rw [zI_eq h hn, Int.toNat_natCast]
theorem oN_eq {K : Nat} (h : K ≤ 262144) : oN K = K / 32 := by unfold oN; rw [sk_eq h, Int.toNat_natCast]; omega
theorem pN_eq {n K : Nat} (h : K ≤ 262144) (hn : n ≤ 8192) : pN n K = n + 1 := by unfold pN; rw [sk_eq h, zN_eq h hn, Int.toNat_natCast]; omega
theorem cpN_eq {n K : Nat} (h : K ≤ 262144) (hn : n ≤ 8192) : cpN n K = n := by unfold cpN; rw [pN_eq h hn]; simp
theorem cpL_eq {la : List Value} {o K : Nat} {L : List Int} (hR : Row la o L) (h : K ≤ 262144) (hn : L.length ≤ 8192) : cpL la o L.length K = wU (List.replicate (K / 32) 0 ++ (L ++ [0])) := by
  unfold cpL
  rw [cpN_eq h hn, zN_eq h hn, oN_eq h]
  have e1 : (la.drop o).take L.length = wU L := hR.cut
  rw [e1, List.drop_replicate, List.take_replicate, show K / 32 + (L.length + 1) - (K / 32 + L.length) = 1 from by omega, show min (K / 32) (K / 32 + (L.length + 1)) = K / 32 from by omega]
  unfold wU uu
  simp
theorem clOk_eq {la : List Value} {o K : Nat} {L : List Int} (hR : Row la o L) (h : K ≤ 262144) (hn : L.length ≤ 8192) : clOk la o L.length K = true := by
  unfold clOk
  rw [cpN_eq h hn, zN_eq h hn, oN_eq h]
  have e1 : (la.drop o).take L.length = wU L := hR.cut
  rw [e1, tR_tomb, tU_own]
  have h1 : Nat.ble (o + L.length) la.length = true := Nat.ble_eq_true_of_le hR.len
  have h2 : Nat.ble (K / 32 + L.length) (List.replicate (K / 32 + (L.length + 1)) (uu 0)).length = true := Nat.ble_eq_true_of_le (by rw [List.length_replicate]; omega)
  have h3 : ((wU L).all one) = true := by
    unfold wU
    rw [List.all_eq_true]
    intro v hv
    obtain ⟨x, _, rfl⟩ := List.mem_map.1 hv
    rfl
  rw [h1, h2, h3]
  rfl
theorem cutI_app (A B : List Int) : cutI (wU (A ++ B)) A.length B.length = B := by
  unfold cutI cutV wU
  rw [List.map_append, List.drop_append_of_le_length (by simp), show A.length = (A.map (Value.int .u32)).length from by simp, List.drop_length, List.nil_append, List.take_of_length_le (by simp), List.map_map]
  exact (List.map_congr_left fun x _ => rfl).trans (List.map_id' _)
theorem wds_rep (s : Nat) : wds (List.replicate s 0) := fun x hx => by rw [List.eq_of_mem_replicate hx]; omega
theorem wds_zero {L : List Int} (h : wds L) : wds (L ++ [0]) := wds_app h (fun x hx => by rw [List.mem_singleton.1 hx]; omega)
theorem upM_eq {la : List Value} {o K : Nat} {L : List Int} (hR : Row la o L) (h : K ≤ 262144) (hn : L.length ≤ 8192) : upM la o L.length K = wU (shlR L K) := by
  unfold upM upS
  rw [cpL_eq hR h hn, oN_eq h, pN_eq h hn, rm_eq, Int.toNat_natCast]
  have e1 := cutI_app (List.replicate (K / 32) 0) (L ++ [0])
  rw [List.length_replicate, List.length_append, List.length_singleton] at e1
  rw [e1, vN_snoc, Int.mul_zero, Int.add_zero, shlR_eq]
  unfold wU
  rw [List.map_append, List.map_append, List.take_append_of_le_length (by simp), List.take_of_length_le (by simp), List.map_append]
theorem rep_row {la : List Value} {o K : Nat} {L : List Int} (hR : Row la o L) (h : K ≤ 262144) (hn : L.length ≤ 8192) : rowOk tU (cpL la o L.length K) (oN K) (pN L.length K) (pN L.length K) = true := by
  rw [cpL_eq hR h hn, oN_eq h, pN_eq h hn]
  unfold rowOk
  have e1 := cutI_app (List.replicate (K / 32) 0) (L ++ [0])
  rw [show tomb tU = false from by kernel_rfl, show Nat.beq (rt tU) tU = true from by kernel_rfl, Nat.ble_eq_true_of_le (show K / 32 + (L.length + 1) ≤ (wU (List.replicate (K / 32) 0 ++ (L ++ [0]))).length by unfold wU; simp), Nat.ble_eq_true_of_le (Nat.le_refl _), show smallC (L.length + 1) = true from blt_iff.2 (by unfold dead; omega), wU_allS]
  have h3 : ((cutV (wU (List.replicate (K / 32) 0 ++ (L ++ [0]))) (K / 32) (L.length + 1)).all isU) = true := by
    rw [List.all_eq_true]
    intro v hv
    unfold cutV wU at hv
    obtain ⟨x, hx, rfl⟩ := List.mem_map.1 (List.mem_of_mem_drop (List.mem_of_mem_take hv))
    exact decide_eq_true ((wds_app (wds_rep _) (wds_zero hR.rng)) x hx)
  rw [h3]
  rfl
theorem shl_runs {la : List Value} {o n c K : Nat} (ha : rowOk tR la o n c = true) (hb : badL (cutI la o n) = false) (h0 : n ≠ 0) (hK : (K : Int) ≤ 262144 - lenN (cutI la o n)) :
    Runs (tabH Tryz.prog extY conN hcS) (cBody Tryz.f29) ([sl 0 o n c, i6' K] ++ List.replicate 45 undef, ⟨1, [(la, tR)]⟩, []) fun e y => (e = none ∨ e = some none) ∧ resS Tryz.prog Tryz.f29 y.1 y.2.1 = some (.tuple #[sl 1 0 (trimN (shlR (cutI la o n) K)) (K / 32 + (n + 1)), .nilIface]) ∧ y.2.1.blk? 1 = some (wU (shlR (cutI la o n) K), tU) := by
  obtain ⟨a1, a2, a3, a4, a5, a6, a7⟩ := row_of ha
  have h8 := badL_len hb
  have hl := lenN_bd a1.rng
  have g0 := shl_good o n c K la
  have lI : lnI la o n = 262144 - lenN (cutI la o n) := by unfold lnI; rw [wrapI (by omega) (by omega)]
  rw [lI] at g0
  generalize hL : cutI la o n = L at *
  subst a2
  have hK2 : K ≤ 262144 := by omega
  rw [upM_eq a1 hK2 h8] at g0
  have ez := zN_eq (n := L.length) hK2 h8
  have esm : smallC (zN L.length K) = true := blt_iff.2 (by rw [ez]; unfold dead; omega)
  have r1 := wU_row (dg_wds (K / 32 + (L.length + 1)) (vN L * 2 ^ K)) (c := zN L.length K) (by rw [dg_len, ez]; exact Nat.le_refl _) esm
  rw [dg_len, ← ez] at r1
  have r2 : rowOk tU (wU (shlR L K)) 0 (zN L.length K) (zN L.length K) = true := by unfold shlR; rw [← ez]; exact r1.1
  have r3 : cutI (wU (shlR L K)) 0 (zN L.length K) = shlR L K := by unfold shlR; rw [← ez]; exact r1.2
  have part : okPart (skI K) (zN L.length K) (zN L.length K) (zN L.length K) = true := by unfold okPart; rw [sk_eq hK2, ez]; exact decide_eq_true (by omega)
  have part2 : decide (((zN L.length K : Nat) : Int) = skI K ∧ skI K ≠ 0) = false := by rw [sk_eq hK2, ez]; exact decide_eq_false (by omega)
  have mk : okMakeB 4 (zI L.length K) (zI L.length K) = true := by unfold okMakeB; rw [zI_eq hK2 h8]; exact decide_eq_true (by omega)
  have len : Nat.beq (oN K + pN L.length K) (cpL la o L.length K).length = true := by
    rw [cpL_eq a1 hK2 h8, oN_eq hK2, pN_eq hK2 h8]
    unfold wU
    simp
  have calm : la.all still = true := List.all_eq_true.2 a7
  have d1 : decide (0 ≤ rmI K ∧ rmI K < 32) = true := by rw [rm_eq]; exact decide_eq_true (by omega)
  have d2 : decide ((K : Int) > 262144 - lenN L) = false := decide_eq_false (by omega)
  have d3 : ((L.length : Int) == 0) = false := by simpa using h0
  have d4 : decide ((K : Int) < 0) = false := decide_eq_false (by omega)
  refine (goesT_runs (tabH_ok conN_ok hcS_ok) g0 (okTwo r2 (okTwo (by kernel_rfl) (okTwo (by kernel_rfl) (okTwo (rep_row a1 hK2 h8) (okTwo len (okTwo calm (okTwo d1
    (okTwo esm (okTwo part (okTwo part2 (okTwo (clOk_eq a1 hK2 h8) (okTwo esm (okTwo part (okTwo part2 (okTwo mk (okTwo d2 (okTwo ha (okTwo d3 (okTwo d4 (okTwo ha (okOne hb)))))))))))))))))))))).mono fun e y he => ?_
  obtain ⟨rfl, ⟨g, e2⟩, e3⟩ := he
  refine ⟨.inr rfl, ?_, ?_⟩
  · rw [e2, e3, r3, ez]
    rfl
  · rw [e3]
    rfl
theorem shl_row {la : List Value} {o n c : Nat} {k : Int} {r e : Value} {cs : Log} {s : List Dec} (g0 : GoesT (evC (tabH Tryz.prog extY conN hcS) 200 false (cBody Tryz.f29) ([sl 0 o n c, i6' k] ++ List.replicate 45 undef, ⟨1, [(la, tR)]⟩, s) ⟨[], [], []⟩) 6 41 (some none) (fS o n c k r e) ⟨1, [(la, tR)]⟩ cs) (hcs : okLog cs)
    (hres : ∀ g, resS Tryz.prog Tryz.f29 (fS o n c k r e ++ tl 41 g) ⟨1, [(la, tR)]⟩ = some (.tuple #[r, e])) :
    Runs (tabH Tryz.prog extY conN hcS) (cBody Tryz.f29) ([sl 0 o n c, i6' k] ++ List.replicate 45 undef, ⟨1, [(la, tR)]⟩, []) fun e' y => (e' = none ∨ e' = some none) ∧ resS Tryz.prog Tryz.f29 y.1 y.2.1 = some (.tuple #[r, e]) := by
  refine (goesT_runs (tabH_ok conN_ok hcS_ok) g0 hcs).mono fun e' y he => ?_
  obtain ⟨rfl, ⟨g, e2⟩, e3⟩ := he
  refine ⟨.inr rfl, ?_⟩
  rw [e2, e3]
  exact hres g
def gShl : AnsH := fun vals h s =>
  match vals with
  | [.slice (some ⟨b, o, none⟩) n c, .int .i64 k] =>
    match h.blk? b, s with
    | some x, .inr (.inr (.inr (.inl true))) :: s' => some (.tuple #[nilS, errV 1], h, s', [(rowOk x.2 x.1 o n c, true), (badL (cutI x.1 o n) || decide (k < 0), true)])
    | some x, .inr (.inr (.inr (.inl false))) :: .inr (.inr (.inr (.inl true))) :: s' => some (.tuple #[nilS, .nilIface], h, s', [(rowOk x.2 x.1 o n c, true), (badL (cutI x.1 o n) || decide (k < 0), false), (decide (n = 0), true)])
    | some x, .inr (.inr (.inr (.inl false))) :: .inr (.inr (.inr (.inl false))) :: .inr (.inr (.inr (.inl true))) :: s' => some (.tuple #[nilS, errV 2], h, s', [(rowOk x.2 x.1 o n c, true), (badL (cutI x.1 o n) || decide (k < 0), false), (decide (n = 0), false), (decide (k > 262144 - lenN (cutI x.1 o n)), true)])
    | some x, .inr (.inr (.inr (.inl false))) :: .inr (.inr (.inr (.inl false))) :: .inr (.inr (.inr (.inl false))) :: s' => some (.tuple #[sl h.n 0 (trimN (shlR (cutI x.1 o n) k.toNat)) (k.toNat / 32 + (n + 1)), .nilIface], h.push (wU (shlR (cutI x.1 o n) k.toNat)) tU, s', [(rowOk x.2 x.1 o n c, true), (badL (cutI x.1 o n) || decide (k < 0), false), (decide (n = 0), false), (decide (k > 262144 - lenN (cutI x.1 o n)), false)])
    | _, _ => none
  | _ => none
theorem gShl_ok : AnsHOk 29 gShl := by
  intro vals h s v h' s' lg hg hl m B w E hv
  unfold gShl at hg
  split at hg
  · rename_i b o n c k
    have one1 : ∀ x : List Value × TypeId, h.blk? b = some x → rowOk x.2 x.1 o n c = true → ∀ v0 : Value, oc (List.range 1) v0 = true → rn (fun _ => b) v0 = v0 →
        Runs (tabH Tryz.prog extY conN hcS) (cBody Tryz.f29) ([sl 0 o n c, i6' k] ++ List.replicate 45 undef, ⟨1, [(x.1, tR)]⟩, []) (fun e y => (e = none ∨ e = some none) ∧ resS Tryz.prog Tryz.f29 y.1 y.2.1 = some v0) →
        Calls Tryz.prog 29 (([.slice (some ⟨b, o, none⟩) n c, .int .i64 k] : List Value).map (mv m)).toArray w fun e w' => ∃ m', e = .returned (mv m' v0) ∧ Came m B h w v0 h m' w' := by
      intro x hx ra v0 ho e0 r
      obtain ⟨a1, a2, a3, a4, a5, a6, a7⟩ := row_of ra
      have hlt := Hp.blk_lt hx
      have := row_calls (T := tabH Tryz.prog extY conN hcS) Tryz.func29 shl_body (rows1 a7) (vals := [sl 0 o n c, i6' k]) (fun v hv => by
        simp only [List.mem_cons, List.not_mem_nil, or_false] at hv
        rcases hv with rfl | rfl <;> rfl) ho r E (s := fun _ => b) (fun i _ => hlt) (fitsR1 hx a5 a6 rfl)
      rw [e0] at this
      exact this.mono fun e w' he => ⟨m, he.1, he.2⟩
    split at hg
    · rename_i x s2 hx
      cases hg
      have ra := hl _ (List.mem_cons_self)
      have hd := hl _ (List.mem_cons_of_mem _ (List.mem_singleton.2 rfl))
      simp only at hd
      refine one1 x hx ra _ (by rfl) (rn_still (by rfl)) ?_
      cases hb : badL (cutI x.1 o n) with
      | true => exact shl_row (shl_bad o n c k x.1) (okTwo (rowOk_R ra) (okOne hb)) (fun _ => rfl)
      | false =>
        rw [hb, Bool.false_or] at hd
        exact shl_row (shl_neg o n c k x.1) (okTwo hd (okTwo (rowOk_R ra) (okOne hb))) (fun _ => rfl)
    · rename_i x s2 hx
      cases hg
      have ra := hl _ (List.mem_cons_self)
      have hd := hl _ (List.mem_cons_of_mem _ List.mem_cons_self)
      have h0 := of_decide_eq_true (hl _ (List.mem_cons_of_mem _ (List.mem_cons_of_mem _ (List.mem_singleton.2 rfl))))
      simp only [Bool.or_eq_false_iff] at hd
      have d3 : ((n : Int) == 0) = true := by rw [h0]; rfl
      exact one1 x hx ra _ (by rfl) (rn_still (by rfl)) (shl_row (shl_nil o n c k x.1) (okTwo d3 (okTwo hd.2 (okTwo (rowOk_R ra) (okOne hd.1)))) (fun _ => rfl))
    · rename_i x s2 hx
      cases hg
      have ra := hl _ (List.mem_cons_self)
      have hd := hl _ (List.mem_cons_of_mem _ List.mem_cons_self)
      have h0 := of_decide_eq_false (hl _ (List.mem_cons_of_mem _ (List.mem_cons_of_mem _ List.mem_cons_self)))
      have hk := hl _ (List.mem_cons_of_mem _ (List.mem_cons_of_mem _ (List.mem_cons_of_mem _ (List.mem_singleton.2 rfl))))
      simp only [Bool.or_eq_false_iff] at hd
      have d3 : ((n : Int) == 0) = false := by simpa using h0
      obtain ⟨a1, a2, a3, a4, a5, a6, a7⟩ := row_of ra
      have hle := lenN_bd a1.rng
      have lI : lnI x.1 o n = 262144 - lenN (cutI x.1 o n) := by unfold lnI; rw [wrapI (by omega) (by omega)]
      have g0 := shl_long o n c k x.1
      rw [lI] at g0
      exact one1 x hx ra _ (by rfl) (rn_still (by rfl)) (shl_row g0 (okTwo hk (okTwo (rowOk_R ra) (okTwo d3 (okTwo hd.2 (okTwo (rowOk_R ra) (okOne hd.1)))))) (fun _ => rfl))
    · rename_i x s2 hx
      cases hg
      have ra := hl _ (List.mem_cons_self)
      have hd := hl _ (List.mem_cons_of_mem _ List.mem_cons_self)
      have h0 := of_decide_eq_false (hl _ (List.mem_cons_of_mem _ (List.mem_cons_of_mem _ List.mem_cons_self)))
      have hk := of_decide_eq_false (hl _ (List.mem_cons_of_mem _ (List.mem_cons_of_mem _ (List.mem_cons_of_mem _ (List.mem_singleton.2 rfl)))))
      simp only [Bool.or_eq_false_iff] at hd
      have hk0 := of_decide_eq_false hd.2
      obtain ⟨K, rfl⟩ := Int.eq_ofNat_of_zero_le (show 0 ≤ k by omega)
      rw [Int.toNat_natCast]
      obtain ⟨a1, a2, a3, a4, a5, a6, a7⟩ := row_of ra
      have r := shl_runs (K := K) (rowOk_R ra) hd.1 h0 (by omega)
      have e1 : ∀ j M : Nat, rn (fun _ => h.n) (.tuple #[sl 1 0 j M, .nilIface]) = .tuple #[sl h.n 0 j M, .nilIface] := fun j M => by simp [rn, rn2, rn1, sl]
      have := row_calls1 (T := tabH Tryz.prog extY conN hcS) Tryz.func29 shl_body (rows1 a7) (vals := [sl 0 o n c, i6' K]) (fun v hv => by
        simp only [List.mem_cons, List.not_mem_nil, or_false] at hv
        rcases hv with rfl | rfl <;> rfl) (k := 1) (wU_calm _) tU_own (r.w.mono fun e y h => ⟨h.1, h.2.1, [], by rw [List.append_nil]; exact h.2.2⟩) (by rfl) E (s := fun _ => b) (fitsR1 hx a5 a6 rfl)
      rw [e1] at this
      exact this
    · cases hg
  · cases hg
end Go.Proofs.YtgefjidphfdhdabGreatDoor.Na
namespace Go.Proofs.YtgefjidphfdhdabGreatDoor.Na
open Go.KRun Go.Nt
set_option maxRecDepth 100000
set_option linter.unusedVariables false
def mulR (L M : List Int) : List Int := dg (L.length + M.length) (vN L * vN M)
theorem wU_rowAt {L : List Int} (h : wds L) {o n c : Nat} (hl : o + n ≤ L.length) (hc : n ≤ c) (h2 : smallC c = true) : rowOk tU (wU L) o n c = true := by
  unfold rowOk
  have h3 : ((cutV (wU L) o n).all isU) = true := by
    rw [List.all_eq_true]
    intro v hv
    unfold cutV wU at hv
    obtain ⟨x, hx, rfl⟩ := List.mem_map.1 (List.mem_of_mem_drop (List.mem_of_mem_take hv))
    exact decide_eq_true (h x hx)
  rw [show tomb tU = false from by kernel_rfl, show Nat.beq (rt tU) tU = true from by kernel_rfl, Nat.ble_eq_true_of_le (show o + n ≤ (wU L).length by rw [wU_len]; exact hl), Nat.ble_eq_true_of_le hc, h2, h3, wU_allS]
  rfl
theorem cut_mid (D M R : List Int) : cutI (wU (D ++ (M ++ R))) D.length M.length = M := by
  unfold cutI cutV wU
  rw [List.map_append, List.map_append, List.drop_left' (by simp), List.take_left' (by simp), List.map_map]
  exact (List.map_congr_left fun x _ => rfl).trans (List.map_id' _)
theorem tmS_mid (D M R L : List Int) : tmS (wU (D ++ (M ++ R))) D.length M.length L = wU (D ++ (L ++ R)) := by
  have e1 : (wU (D ++ (M ++ R))).take D.length = wU D := by
    unfold wU
    rw [List.map_append]
    exact List.take_left' (by simp)
  have e2 : (wU (D ++ (M ++ R))).drop (D.length + M.length) = wU R := by
    unfold wU
    rw [← List.append_assoc, List.map_append]
    exact List.drop_left' (by simp)
  unfold tmS
  rw [e1, e2]
  unfold wU
  rw [List.map_append, List.map_append]
theorem set_mid (D L : List Int) (z c : Int) (R : List Int) : (wU (D ++ (L ++ z :: R))).set (D.length + L.length) (uu c) = wU (D ++ ((L ++ [c]) ++ R)) := by
  rw [← List.append_assoc, show D.length + L.length = (D ++ L).length from by simp, wU_set]
  simp
theorem pd_runs {la lb : List Value} {o c o' c' : Nat} {LA LB : List Int} (RA : Row la o LA) (RB : Row lb o' LB) (sa : ∀ v ∈ la, still v = true) (hrb : rowOk tR lb o' LB.length c' = true) (ha : 0 < LA.length) (hb : 0 < LB.length) (h8 : LA.length + LB.length ≤ 8192) :
    Runs (tabH Tryz.prog extY conN hcM) (seqs (pdP Tryz.f56) (.seq (.seq (cFst (cFst (sn 4 Tryz.f56))) (.block 0 (.loop (pdL Tryz.f56)))) (cSnd (sn 4 Tryz.f56)))) ([sl 0 o LA.length c, sl 1 o' LB.length c'] ++ List.replicate 57 undef, h2 la lb, []) fun e y => (e = none ∨ e = some none) ∧ resS Tryz.prog Tryz.f56 y.1 y.2.1 = some (.tuple #[sl 2 0 (trimN (mulR LA LB)) (LA.length + LB.length), .nilIface]) ∧ y.2.1.blk? 2 = some (wU (mulR LA LB), tU) := by
  have hT := tabH_ok conN_ok hcM_ok
  have eZ : pZ LA.length LB.length = ((LA.length + LB.length : Nat) : Int) := by
    unfold pZ
    rw [wrapI (by omega) (by omega)]
    omega
  have g0 := pd_pre o LA.length c o' LB.length c' la lb
  rw [eZ, Int.toNat_natCast] at g0
  have esm : ∀ q : Nat, q ≤ 8192 → smallC q = true := fun q hq => blt_iff.2 (by unfold dead; omega)
  have bA := RA.rng
  have bB := vN_bd LB RB.rng
  have erep : List.replicate (LA.length + LB.length) (uu 0) = wU ([] ++ (List.replicate LB.length 0 ++ List.replicate LA.length 0)) := by
    unfold wU uu
    rw [Nat.add_comm]
    simp [List.replicate_append_replicate]
  rw [erep] at g0
  refine goesT_list hT g0 (okTwo (by unfold okMakeB; exact decide_eq_true (by omega)) (okTwo (by rw [wrapI (by omega) (by omega)]; exact decide_eq_false (by omega)) (okTwo (by simpa using (show LB.length ≠ 0 by omega)) (okOne (by simpa using (show LA.length ≠ 0 by omega)))))) fun g => ?_
  refine Runs.seq (P1 := fun e' y => e' = none ∧ ∃ (D M : List Int) (v7 v8 u1 u2 u3 : Value) (g g' : Nat → Value), y.1 = ml (pdF o LA.length c o' LB.length c' (LA.length + LB.length) v7 v8) 22 g [u1, u2, u3] 25 g' ∧ D.length = LA.length ∧ M.length = LB.length ∧ wds D ∧ wds M ∧ vN D + 4294967296 ^ D.length * vN M = vN LA * vN LB ∧ y.2.1 = h3 la lb (wU (D ++ (M ++ [])))) ?_ ?_ (fun e y he => by cases he.1)
  · refine Runs.seq (P1 := fun e' y => e' = none ∧ (∃ g g', y.1 = ml (pdF o LA.length c o' LB.length c' (LA.length + LB.length) undef undef) 22 g [sl 0 o LA.length c, i6' LA.length, i6' 0] 25 g') ∧ y.2.1 = h3 la lb (wU ([] ++ (List.replicate LB.length 0 ++ List.replicate LA.length 0)))) (goesM_runs hT (pd_r o LA.length c o' LB.length c' (LA.length + LB.length) undef undef la lb _ g) (fun x hx => by cases hx)) ?_ (fun e y he => by cases he.1)
    rintro ⟨t, h', s'⟩ ⟨_, ⟨g1, g2, ht⟩, hh⟩
    simp only at ht hh
    subst ht hh
    refine (Runs.forLoop (R := fun _ => False) (P := fun y => ∃ (D M : List Int) (v7 v8 u1 u2 u3 : Value) (g g' : Nat → Value), y.1 = ml (pdF o LA.length c o' LB.length c' (LA.length + LB.length) v7 v8) 22 g [u1, u2, u3] 25 g' ∧ D.length = LA.length ∧ M.length = LB.length ∧ wds D ∧ wds M ∧ vN D + 4294967296 ^ D.length * vN M = vN LA * vN LB ∧ y.2.1 = h3 la lb (wU (D ++ (M ++ []))))
      (fun r y => ∃ (D M : List Int) (v7 v8 : Value) (g g' : Nat → Value), D.length + r = LA.length ∧ M.length = LB.length ∧ wds D ∧ wds M ∧ vN D + 4294967296 ^ D.length * vN M = vN (LA.take D.length) * vN LB ∧ y.1 = ml (pdF o LA.length c o' LB.length c' (LA.length + LB.length) v7 v8) 22 g [sl 0 o LA.length c, i6' LA.length, i6' D.length] 25 g' ∧ y.2.1 = h3 la lb (wU (D ++ (M ++ List.replicate r 0))))
      ?_ (n := LA.length) ⟨[], List.replicate LB.length 0, undef, undef, g1, g2, by simp, by simp, (fun x hx => by cases hx), wds_rep _, ?_, rfl, rfl⟩).mono fun e' y he => ?_
    · rintro r ⟨t, h', s'⟩ ⟨D, M, v7, v8, g, g', hr, hM, w1, w2, hv, ht, hh⟩
      simp only at ht hh
      subst ht hh
      cases r with
      | zero =>
        have ek : D.length = LA.length := by omega
        refine (goesM_runs hT (pd_out o LA.length c o' LB.length c' (LA.length + LB.length) D.length v7 v8 la lb _ g g') (okOne (decide_eq_false (by omega)))).mono fun e' y he => ?_
        obtain ⟨rfl, ⟨g1, g2, e2⟩, e3⟩ := he
        rw [ek, List.take_length] at hv
        rw [← ek] at hv
        exact ⟨rfl, D, M, v7, v8, _, _, _, g1, g2, e2, ek, hM, w1, w2, hv, e3⟩
      | succ r =>
        have hk : D.length < LA.length := by omega
        have cA := RA.cell hk
        have hx := bA (LA.getD D.length 0) (by simp [List.getD, List.getElem?_eq_getElem hk])
        have et := take_succ hk
        generalize LA.getD D.length 0 = x at *
        have eJ : pJ D.length = D.length := by unfold pJ; omega
        have eK : pK D.length LB.length = ((D.length + LB.length : Nat) : Int) := by unfold pK; rw [wrapI (by omega) (by omega)]; omega
        have eL : pLn D.length LB.length = M.length := by unfold pLn; rw [eK]; omega
        have ecB : cutI lb o' LB.length = LB := by
          unfold cutI
          rw [RB.cut]
          unfold wU
          rw [List.map_map]
          exact (List.map_congr_left fun x _ => rfl).trans (List.map_id' _)
        have ecM : cutI (wU (D ++ (M ++ List.replicate (r + 1) 0))) (pJ D.length) (pLn D.length LB.length) = M := by rw [eJ, eL]; exact cut_mid _ _ _
        have ePS : pS (wU (D ++ (M ++ List.replicate (r + 1) 0))) lb o' LB.length D.length x = wU (D ++ (tmR M LB x ++ List.replicate (r + 1) 0)) := by
          unfold pS
          rw [ecM, ecB, eJ, eL]
          exact tmS_mid _ _ _ _
        have ePC : pC (wU (D ++ (M ++ List.replicate (r + 1) 0))) lb o' LB.length D.length x = tmC M LB x := by
          unfold pC
          rw [ecM, ecB]
        have lR : (tmR M LB x).length = M.length := by unfold tmR; rw [dg_len]
        have bM := vN_bd M w2
        rw [hM] at bM
        have bT := tm_bd bM bB hx
        rw [← hM] at bT
        obtain ⟨y, m, e1, e2, w3, w4, e5⟩ := tm_split bT
        have eW : tmR M LB x ++ [tmC M LB x] = y :: m := e1
        have g1 := pd_go o LA.length c o' LB.length c' (LA.length + LB.length) D.length x v7 v8 la lb (wU (D ++ (M ++ List.replicate (r + 1) 0))) g g'
        rw [ePS, ePC, eK, eJ, eL, Int.toNat_natCast, Int.toNat_natCast, Nat.zero_add, Nat.mul_one] at g1
        have hall : wds (D ++ (M ++ List.replicate (r + 1) 0)) := wds_app w1 (wds_app w2 (wds_rep _))
        have l1 : decide (D.length + LB.length < (wU (D ++ (tmR M LB x ++ List.replicate (r + 1) 0))).length) = true := decide_eq_true (by rw [wU_len]; simp [lR]; omega)
        have l2 : (inR ((D.length + LB.length : Nat) : Int) (LA.length + LB.length)).1 = (inR ((D.length + LB.length : Nat) : Int) (LA.length + LB.length)).2 := decide_eq_true (by omega)
        have l3 : okTm (wU (D ++ (M ++ List.replicate (r + 1) 0))) lb la tU tR tR D.length M.length (LA.length + LB.length - D.length) o' LB.length c' x = true := by
          unfold okTm
          rw [wU_rowAt hall (by simp) (by omega) (esm _ (by omega)), hrb, List.all_eq_true.2 sa, blt_iff.2 (show M.length < 1099511627776 by omega), decide_eq_true hx, hM]
          simp
        have l5 : okPart D.length ((D.length + LB.length : Nat) : Int) ((LA.length + LB.length : Nat) : Int) ((LA.length + LB.length : Nat) : Int) = true := by unfold okPart; exact decide_eq_true (by omega)
        have l6 : decide (((LA.length + LB.length : Nat) : Int) = (D.length : Int) ∧ (D.length : Int) ≠ 0) = false := decide_eq_false (by omega)
        have l7 : (inR D.length LA.length).1 = (inR D.length LA.length).2 := decide_eq_true (by omega)
        refine (goesM_runs hT g1 (okTwo l1 (okTwo l2 (okTwo l3 (okTwo (esm _ (by omega)) (okTwo l5 (okTwo l6 (okTwo (cel_ok cA) (okTwo l7 (okOne (decide_eq_true (by omega)))))))))))).mono fun e' Y he => ?_
        obtain ⟨rfl, ⟨g2, g3, f2⟩, f3⟩ := he
        refine ⟨r, by omega, D ++ [y], m, i6' D.length, uu x, g2, g3, by simp; omega, by omega, wds_app w1 w3, w4, ?_, ?_, ?_⟩
        · rw [vN_snoc, List.length_append, List.length_singleton, pw, et, vN_snoc, List.length_take, Nat.min_eq_left (by omega)]
          exact pd_step e5 hv
        · rw [f2, wrapI (by omega) (by omega)]
          simp
        · rw [f3, List.replicate_succ, ← hM, ← lR, set_mid, eW]
          simp
    · simp only [List.length_nil, List.take_zero]
      have : vN (List.replicate LB.length 0) = 0 := vN_rep _
      rw [this]
      simp [vN]
    · match e', he with
      | none, he => exact ⟨rfl, he⟩
      | some none, he => exact he.elim
      | some (some _), he => exact he.elim
  · rintro ⟨t, h', s'⟩ ⟨_, D, M, v7, v8, u1, u2, u3, g, g', ht, hD, hM, w1, w2, hv, hh⟩
    simp only at ht hh
    subst ht hh
    have hw : wds (D ++ M) := wds_app w1 w2
    have hl : (D ++ M).length = LA.length + LB.length := by simp; omega
    have ew : D ++ M = mulR LA LB := by
      have := dg_vN (D ++ M) hw
      rw [vN_app, hv, hl] at this
      exact this.symm
    have hr := wU_row hw (c := LA.length + LB.length) (by omega) (esm _ h8)
    rw [hl] at hr
    have htr := trimN_le (D ++ M)
    have g1 := pd_end o LA.length c o' LB.length c' (LA.length + LB.length) v7 v8 u1 u2 u3 la lb (wU (D ++ M)) g g'
    rw [hr.2] at g1
    rw [List.append_nil]
    refine (goesT_runs hT g1 (okTwo (decide_eq_false (by omega)) (okOne hr.1))).mono fun e' y he => ?_
    obtain ⟨rfl, ⟨g1, e2⟩, e3⟩ := he
    refine ⟨.inr rfl, ?_, ?_⟩
    · rw [e2, e3, ew]
      rfl
    · rw [e3, ew]
      rfl
def gPdU : AnsH := fun vals h s =>
  match vals, s with
  | [.slice p n c, .slice q n' c'], .inr (.inr (.inr (.inl true))) :: s' => some (.tuple #[nilS, .nilIface], h, s', [(decide (n = 0 ∨ n' = 0), true)])
  | [.slice p n c, .slice q n' c'], .inr (.inr (.inr (.inl false))) :: s' => some (.tuple #[sl h.n 0 (trimN (mulR (rowOf h p n) (rowOf h q n'))) (n + n'), .nilIface], h.push (wU (mulR (rowOf h p n) (rowOf h q n'))) tU, s', [(rowX h p n c, true), (rowX h q n' c', true), (!decide (n = 0 ∨ n' = 0) && Nat.ble (n + n') 8192, true)])
  | _, _ => none
theorem gPdU_ok : AnsHOk 56 gPdU := by
  intro vals h s v h' s' lg hg hl m B w E hv
  unfold gPdU at hg
  split at hg
  · rename_i p n c q n' c' s2
    cases hg
    have l1 := of_decide_eq_true (hl _ (List.mem_singleton.2 rfl))
    by_cases h0 : n = 0
    · have r := goesT_runs (s0 := []) (tabH_ok conN_ok hcM_ok) (pd_n1 p q n c n' c' h) (okOne (by simp [h0]))
      exact hcalls_keep (T := tabH Tryz.prog extY conN hcM) Tryz.func56 pd_cbody (vals := [.slice p n c, .slice q n' c']) (v := .tuple #[nilS, .nilIface]) (h := h) (by rfl) (r.mono fun e y he => by
        obtain ⟨rfl, ⟨g, e1⟩, e2⟩ := he
        exact ⟨.inr rfl, by rw [e1, e2]; rfl, e2⟩) m B w E hv
    · have h1 : n' = 0 := l1.resolve_left h0
      have r := goesT_runs (s0 := []) (tabH_ok conN_ok hcM_ok) (pd_n2 p q n c n' c' h) (okTwo (by simp [h1]) (okOne (by simpa using h0)))
      exact hcalls_keep (T := tabH Tryz.prog extY conN hcM) Tryz.func56 pd_cbody (vals := [.slice p n c, .slice q n' c']) (v := .tuple #[nilS, .nilIface]) (h := h) (by rfl) (r.mono fun e y he => by
        obtain ⟨rfl, ⟨g, e1⟩, e2⟩ := he
        exact ⟨.inr rfl, by rw [e1, e2]; rfl, e2⟩) m B w E hv
  · rename_i p n c q n' c' s2
    cases hg
    obtain ⟨l1, l2, l3⟩ := log3 hl
    simp only [Bool.and_eq_true, Bool.not_eq_true', decide_eq_false_iff_not] at l1 l2 l3
    obtain ⟨l3, l4⟩ := l3
    have l4 := Nat.le_of_ble_eq_true l4
    rcases rowX_cases l1 with ⟨_, h0, _⟩ | ⟨b, o, x, rfl, hx, r1, e0⟩
    · omega
    rcases rowX_cases l2 with ⟨_, h0, _⟩ | ⟨b', o', y, rfl, hy, t1, f0⟩
    · omega
    rw [e0, f0]
    obtain ⟨a1, a2, a3, a4, a5, a6, a7⟩ := row_of r1
    obtain ⟨b1, b2, b3, b4, b5, b6, b7⟩ := row_of t1
    have r := pd_runs (c := c) (c' := c') a1 b1 a7 (by rw [b2]; exact rowOk_R t1) (by omega) (by omega) (by omega)
    rw [a2, b2] at r
    have e1 : ∀ k M : Nat, rn (fun _ => h.n) (.tuple #[sl 2 0 k M, .nilIface]) = .tuple #[sl h.n 0 k M, .nilIface] := fun k M => by simp [rn, rn2, rn1, sl]
    have := row_calls1 (T := tabH Tryz.prog extY conN hcM) Tryz.func56 pd_body (rows2 a7 b7) (vals := [sl 0 o n c, sl 1 o' n' c']) (fun v hv => by
      simp only [List.mem_cons, List.not_mem_nil, or_false] at hv
      rcases hv with rfl | rfl <;> rfl) (k := 2) (wU_calm _) tU_own (r.w.mono fun e y h => ⟨h.1, h.2.1, [], by rw [List.append_nil]; exact h.2.2⟩) (by rfl) E (s := pair b b') (fitsR2 hx a5 a6 hy b5 b6)
    rw [e1] at this
    exact this
  · cases hg
def gPdN : AnsH := fun vals h s =>
  match vals, s with
  | [.slice p n c, .slice q n' c'], .inr (.inr (.inr (.inl true))) :: s' => some (.tuple #[nilS, .nilIface], h, s', [(decide (n = 0 ∨ n' = 0), true)])
  | [.slice p n c, .slice q n' c'], .inr (.inr (.inr (.inl false))) :: .inr (.inl V) :: s' => some (.tuple #[sl h.n 0 (trimN (dg (n + n') V)) (n + n'), .nilIface], h.push (wU (dg (n + n') V)) tU, s', [(decide (mulR (rowOf h p n) (rowOf h q n') = dg (n + n') V), true), (rowX h p n c, true), (rowX h q n' c', true), (!decide (n = 0 ∨ n' = 0) && Nat.ble (n + n') 8192, true)])
  | _, _ => none
theorem gPdN_ok : AnsHOk 56 gPdN := by
  intro vals h s v h' s' lg hg hl
  unfold gPdN at hg
  split at hg
  · cases hg
    exact gPdU_ok _ h [cmp true] _ _ [] _ rfl hl
  · rename_i p n c q n' c' V s3
    cases hg
    obtain ⟨l1, l2⟩ := log_tl hl
    have l1 := of_decide_eq_true l1
    refine gPdU_ok _ h [cmp false] _ _ [] _ ?_ l2
    simp only [gPdU, l1]
  · cases hg
def h5 (la lb R Y Q : List Value) : Hp := ⟨5, [(Q, tU), (Y, tU), (R, tU), (lb, tR), (la, tR)]⟩
def toT (k x d : Int) : Int := IntKind.u64.wrap (k + IntKind.u64.wrap (IntKind.u64.wrap x * IntKind.u64.wrap d))
def toW (k x d : Int) : Int := IntKind.u32.wrap (toT k x d)
def toC (k x d : Int) : Int := (toT k x d).fdiv (2 ^ min (Int.toNat 32) 64)
def toP (F : Func) : List Code := [cFst (sn 0 F), cFst (sn 1 F), cFst (sn 2 F), cFst (sn 3 F), cFst (sn 4 F)]
def toB (F : Func) : Code := cFst (sn 5 F)
def toL (F : Func) : Code := cIn (cIn (cSnd (toB F)))
def toF (o m c n k : Nat) (d cy b : Int) (v11 v12 : Value) : List Value := [sl 2 o m c, sl 3 0 n k, uu d, undef, undef, undef, .bool false, i6' n, sl 2 o n c, .int .u64 cy, uu b, v11, v12]
theorem to_body : Tryz.f134.body = some (seqs (toP Tryz.f134) (.seq (.seq (cFst (toB Tryz.f134)) (.block 0 (.loop (toL Tryz.f134)))) (sn 6 Tryz.f134))) := by kernel_rfl
theorem to_pre (o m c n k : Nat) (d : Int) (la lb R Y Q : List Value) : GoesT (evL (tabOf Tryz.prog extY conB true) 100 (toP Tryz.f134) ([sl 2 o m c, sl 3 0 n k, uu d] ++ List.replicate 62 undef, h5 la lb R Y Q, [num 0]) ⟨[], [], []⟩) 13 52 none (toF o m c n k d 0 0 undef undef) (h5 la lb R Y Q) [(smallC c, true), (okPart 0 n c c, true), (decide ((c : Int) = 0 ∧ (0 : Int) ≠ 0), false)] := ⟨by kernel_rfl, by kernel_rfl, by kernel_rfl⟩
theorem to_r (o m c n k : Nat) (d cy b : Int) (v11 v12 : Value) (h : Hp) (g : Nat → Value) : GoesM (evC (tabOf Tryz.prog extY conB true) 100 false (cFst (toB Tryz.f134)) (toF o m c n k d cy b v11 v12 ++ tl 52 g, h, []) ⟨[], [], []⟩) 13 5 3 44 none (toF o m c n k d cy b v11 v12) [sl 3 0 n k, i6' n, i6' 0] h [] := ⟨by kernel_rfl, by kernel_rfl, by kernel_rfl⟩
theorem to_out (o m c n k : Nat) (d cy b j : Int) (v11 v12 : Value) (h : Hp) (g g' : Nat → Value) : GoesM (evC (tabOf Tryz.prog extY conB true) 100 false (toL Tryz.f134) (ml (toF o m c n k d cy b v11 v12) 5 g [sl 3 0 n k, i6' n, i6' j] 44 g', h, [cmp false]) ⟨[], [], []⟩) 13 5 3 44 (some (some 0)) (toF o m c n k d cy b v11 v12) [sl 3 0 n k, i6' n, i6' j] h [(decide (j < n), false)] := ⟨by kernel_rfl, by kernel_rfl, by kernel_rfl⟩
theorem to_go (o m c n k : Nat) (d cy b j x y : Int) (v11 v12 : Value) (la lb R Y Q : List Value) (g g' : Nat → Value) : GoesM (evC (tabOf Tryz.prog extY conB true) 100 false (toL Tryz.f134) (ml (toF o m c n k d cy b v11 v12) 5 g [sl 3 0 n k, i6' n, i6' j] 44 g', h5 la lb R Y Q, [cmp true, at_, val (uu x), at_, val (uu y), at_, at_]) ⟨[], [], []⟩) 13 5 3 44 none (toF o m c n k d (toC cy x d) (subB y (toW cy x d) b) (i6' j) (uu x)) [sl 3 0 n k, i6' n, i6' (IntKind.i64.wrap (j + 1))] (h5 la lb (R.set (o + j.toNat * 1) (uu (subD y (toW cy x d) b))) Y Q)
    [(decide ((32 : Int) < 0), false), (decide (o + j.toNat * 1 < R.length), true), inR j n, (wd4 y (toW cy x d) b, true), celR R o j y, inR j n, celR Y 0 j x, inR j n, (decide (j < n), true)] := ⟨by kernel_rfl, by kernel_rfl, by kernel_rfl⟩
theorem to_end (e : Bool) (o m c n k : Nat) (d cy b y : Int) (v11 v12 u1 u2 u3 : Value) (la lb R Y Q : List Value) (g g' : Nat → Value) : GoesT (evC (tabOf Tryz.prog extY conB true) 100 false (sn 6 Tryz.f134) (ml (toF o m c n k d cy b v11 v12) 5 g [u1, u2, u3] 44 g', h5 la lb R Y Q, [at_, val (uu y), at_, at_, cmp e]) ⟨[], [], []⟩) 7 58 (some none) [sl 2 o m c, sl 3 0 n k, uu d, undef, undef, undef, .bool e] (h5 la lb (R.set (o + ((n : Int)).toNat * 1) (uu (subD y (IntKind.u32.wrap cy) b))) Y Q)
    [(subB y (IntKind.u32.wrap cy) b != 0, e), (decide (o + ((n : Int)).toNat * 1 < R.length), true), inR n m, (wd4 y (IntKind.u32.wrap cy) b, true), celR R o n y, inR n m] := by
  cases e <;> exact ⟨by kernel_rfl, by kernel_rfl, by kernel_rfl⟩
end Go.Proofs.YtgefjidphfdhdabGreatDoor.Na
namespace Go.Nt
theorem to_step {P a b x y k br d e l A B D W : Int} (hk : k + x * d = W + 4294967296 * e) (hs : y - W - br = D - 4294967296 * l) (h : a + P * ((y + 4294967296 * A) - d * (x + 4294967296 * B) - k - br) = b) : a + P * D + 4294967296 * P * (A - d * B - e - l) = b := by
  rw [← h]
  have e1 : (y + 4294967296 * A) - d * (x + 4294967296 * B) - k - br = D + 4294967296 * (A - d * B - e - l) := by
    rw [Int.mul_add d x, ← Int.mul_assoc d 4294967296 B, Int.mul_comm d 4294967296, Int.mul_assoc 4294967296 d B, Int.mul_comm d x]
    omega
  rw [e1]
  generalize A - d * B - e - l = Z
  rw [Int.mul_add P D, ← Int.mul_assoc P 4294967296 Z, Int.mul_comm P 4294967296]
  omega
theorem pb_step {P a b x y br e A B D : Int} (hs : y + x + br = D + 4294967296 * e) (h : a + P * ((y + 4294967296 * A) + (x + 4294967296 * B) + br) = b) : a + P * D + 4294967296 * P * (A + B + e) = b := by
  rw [← h]
  have e1 : (y + 4294967296 * A) + (x + 4294967296 * B) + br = D + 4294967296 * (A + B + e) := by omega
  rw [e1]
  generalize A + B + e = Z
  rw [Int.mul_add P D, ← Int.mul_assoc P 4294967296 Z, Int.mul_comm P 4294967296]
  omega
/-- the last word: what comes, and whether it went below 0 or beyond -/
theorem last_word {dx : List Int} {D l V : Int} (hd : wds dx) (hD : 0 ≤ D ∧ D < 4294967296) (h : vN dx + 4294967296 ^ dx.length * (D + 4294967296 * l) = V) : dx ++ [D] = dg (dx.length + 1) V ∧ V / 4294967296 ^ (dx.length + 1) = l := by
  have hw : wds (dx ++ [D]) := wds_app hd (fun x hx => by rw [List.mem_singleton.1 hx]; exact hD)
  have hv : vN (dx ++ [D]) + 4294967296 ^ (dx.length + 1) * l = V := by
    rw [vN_snoc, ← h, pw, Int.mul_add, ← Int.mul_assoc, Int.mul_comm (4294967296 ^ dx.length) 4294967296]
    omega
  have hl : (dx ++ [D]).length = dx.length + 1 := by simp
  have hb := vN_bd (dx ++ [D]) hw
  rw [hl] at hb
  constructor
  · rw [← hv, dg_mod, ← hl]
    exact (dg_vN _ hw).symm
  · rw [← hv, Int.add_mul_ediv_left _ _ (by have := pw_pos (dx.length + 1); omega), Int.ediv_eq_zero_of_lt hb.1 hb.2, Int.zero_add]
theorem neg_div {V Q l : Int} (hQ : 0 < Q) (h : V / Q = l) : V < 0 ↔ l < 0 := by
  subst h
  constructor
  · intro hv
    exact Int.ediv_lt_of_lt_mul hQ (by omega)
  · intro hl
    refine Decidable.byContradiction fun hn => ?_
    have := Int.ediv_nonneg (a := V) (b := Q) (by omega) (by omega)
    omega
end Go.Nt
namespace Go.Proofs.YtgefjidphfdhdabGreatDoor.Na
open Go.KRun Go.Nt
set_option maxRecDepth 100000
set_option linter.unusedVariables false
theorem to_word {k x d : Int} (hk : 0 ≤ k ∧ k < 4294967296) (hx : 0 ≤ x ∧ x < 4294967296) (hd : 0 ≤ d ∧ d < 4294967296) :
    (0 ≤ toW k x d ∧ toW k x d < 4294967296) ∧ (0 ≤ toC k x d ∧ toC k x d < 4294967296) ∧ k + x * d = toW k x d + 4294967296 * toC k x d := by
  have hxy := xy_bd hx hd
  have e : toT k x d = k + x * d := by
    unfold toT
    simp only [u64w]
    rw [Int.emod_eq_of_lt hx.1 (by omega), Int.emod_eq_of_lt hd.1 (by omega), Int.emod_eq_of_lt hxy.1 (by omega), Int.emod_eq_of_lt (by omega) (by omega)]
  unfold toW toC
  rw [e, u32w, show ((2 : Int) ^ min (Int.toNat 32) 64) = 4294967296 from by decide, Int.fdiv_eq_ediv_of_nonneg _ (by omega)]
  generalize x * d = W at *
  omega
theorem wd4_ok {x y c : Int} (hx : 0 ≤ x ∧ x < 4294967296) (hy : 0 ≤ y ∧ y < 4294967296) (hc : 0 ≤ c ∧ c ≤ 1) : wd4 x y c = true := by
  unfold wd4
  simp only [decide_eq_true_eq]
  omega
theorem to_runs {F G la lb Y Q : List Value} {o c k : Nat} {M LB : List Int} {d : Int} (hF : F.length = o) (hM : wds M) (RB : Row Y 0 LB) (hl : M.length = LB.length + 1) (hN : M.length < 1099511627776) (hd : 0 ≤ d ∧ d < 4294967296) (hc : M.length ≤ c) (hs : smallC c = true) (e : Bool) (he : decide (vN M - d * vN LB < 0) = e) :
    Runs (tabOf Tryz.prog extY conB true) (seqs (toP Tryz.f134) (.seq (.seq (cFst (toB Tryz.f134)) (.block 0 (.loop (toL Tryz.f134)))) (sn 6 Tryz.f134))) ([sl 2 o M.length c, sl 3 0 LB.length k, uu d] ++ List.replicate 62 undef, h5 la lb (F ++ (wU M ++ G)) Y Q, []) fun e' y => (e' = none ∨ e' = some none) ∧ resS Tryz.prog Tryz.f134 y.1 y.2.1 = some (.bool e) ∧ y.2.1.cut 5 = h5 la lb (F ++ (wU (dg M.length (vN M - d * vN LB)) ++ G)) Y Q := by
  have hwB := RB.rng
  have hcs : c < 4611686018427387904 := blt_iff.1 hs
  have hT := tabY_ok conB_ok
  refine goesT_list hT (to_pre o M.length c LB.length k d la lb _ Y Q) (okTwo hs (okTwo (by unfold okPart; exact decide_eq_true (by omega)) (okOne (decide_eq_false (by omega))))) fun g => ?_
  refine Runs.seq (P1 := fun e' y => e' = none ∧ ∃ (dx : List Int) (t cy b : Int) (v11 v12 u1 u2 u3 : Value) (g g' : Nat → Value), dx.length = LB.length ∧ wds dx ∧ (0 ≤ t ∧ t < 4294967296) ∧ (0 ≤ cy ∧ cy < 4294967296) ∧ (0 ≤ b ∧ b ≤ 1) ∧ y.1 = ml (toF o M.length c LB.length k d cy b v11 v12) 5 g [u1, u2, u3] 44 g' ∧ y.2.1 = h5 la lb (F ++ (wU (dx ++ t :: []) ++ G)) Y Q ∧ vN dx + 4294967296 ^ dx.length * (t - cy - b) = vN M - d * vN LB) ?_ ?_ (fun e y he => by cases he.1)
  · refine Runs.seq (P1 := fun e' y => e' = none ∧ (∃ g g', y.1 = ml (toF o M.length c LB.length k d 0 0 undef undef) 5 g [sl 3 0 LB.length k, i6' LB.length, i6' 0] 44 g') ∧ y.2.1 = h5 la lb (F ++ (wU M ++ G)) Y Q) (goesM_runs hT (to_r o M.length c LB.length k d 0 0 undef undef _ g) (fun x hx => by cases hx)) ?_ (fun e y he => by cases he.1)
    rintro ⟨t, h', s'⟩ ⟨_, ⟨g1, g2, ht⟩, hh⟩
    simp only at ht hh
    subst ht hh
    refine (Runs.forLoop (R := fun _ => False) (P := fun y => ∃ (dx : List Int) (t cy b : Int) (v11 v12 u1 u2 u3 : Value) (g g' : Nat → Value), dx.length = LB.length ∧ wds dx ∧ (0 ≤ t ∧ t < 4294967296) ∧ (0 ≤ cy ∧ cy < 4294967296) ∧ (0 ≤ b ∧ b ≤ 1) ∧ y.1 = ml (toF o M.length c LB.length k d cy b v11 v12) 5 g [u1, u2, u3] 44 g' ∧ y.2.1 = h5 la lb (F ++ (wU (dx ++ t :: []) ++ G)) Y Q ∧ vN dx + 4294967296 ^ dx.length * (t - cy - b) = vN M - d * vN LB)
      (fun r y => ∃ (dx px bx : List Int) (cy b : Int) (v11 v12 : Value) (g g' : Nat → Value), px.length = r + 1 ∧ dx.length + px.length = M.length ∧ wds dx ∧ wds px ∧ bx = LB.drop dx.length ∧ (0 ≤ cy ∧ cy < 4294967296) ∧ (0 ≤ b ∧ b ≤ 1) ∧ y.1 = ml (toF o M.length c LB.length k d cy b v11 v12) 5 g [sl 3 0 LB.length k, i6' LB.length, i6' dx.length] 44 g' ∧ y.2.1 = h5 la lb (F ++ (wU (dx ++ px) ++ G)) Y Q ∧ vN dx + 4294967296 ^ dx.length * (vN px - d * vN bx - cy - b) = vN M - d * vN LB)
      ?_ (n := LB.length) ⟨[], M, LB, 0, 0, undef, undef, g1, g2, by omega, by simp, (fun x hx => by cases hx), hM, rfl, by omega, by omega, rfl, rfl, by simp [vN]⟩).mono fun e' y he => ?_
    · rintro r ⟨t, h', s'⟩ ⟨dx, px, bx, cy, b, v11, v12, g, g', hr, hlen, wd1, wd2, hb, hcy, hbb, ht, hh, hv⟩
      simp only at ht hh
      subst ht hh
      cases r with
      | zero =>
        have hl' : dx.length = LB.length := by omega
        match px, hr, wd2, hv with
        | [t], hr, wd2, hv =>
          refine (goesM_runs hT (to_out o M.length c LB.length k d cy b dx.length v11 v12 _ g g') (okOne (decide_eq_false (by omega)))).mono fun e' y he => ?_
          obtain ⟨rfl, ⟨g1, g2, e2⟩, e3⟩ := he
          have hbx : bx = [] := by rw [hb, List.drop_eq_nil_of_le (by omega)]
          subst hbx
          refine ⟨rfl, dx, t, cy, b, v11, v12, _, _, _, g1, g2, hl', wd1, wd2 t (List.mem_singleton.2 rfl), hcy, hbb, e2, e3, ?_⟩
          simpa [vN] using hv
      | succ r =>
        match px, hr, hlen, wd2, hv with
        | y :: px, hr, hlen, wd2, hv =>
          obtain ⟨wy, wd2⟩ := wds_tail wd2
          have hl' : dx.length < LB.length := by simp at hlen hr; omega
          have hx := RB.cell (k := dx.length) (by omega)
          have hxr := hwB (LB.getD dx.length 0) (by simp [List.getD, List.getElem?_eq_getElem hl'])
          have hbx : bx = LB.getD dx.length 0 :: LB.drop (dx.length + 1) := by
            rw [hb, List.drop_eq_getElem_cons hl']
            simp [List.getD, List.getElem?_eq_getElem hl']
          generalize LB.getD dx.length 0 = x at *
          obtain ⟨k1, k2, k3⟩ := to_word hcy hxr hd
          obtain ⟨s1, s2, s3⟩ := borrow_ok wy k1 hbb
          have cS := fR_get hF dx y px G
          have lS : o + dx.length < (F ++ (wU (dx ++ y :: px) ++ G)).length := (List.getElem?_eq_some_iff.1 cS).1
          have l1 : decide (o + ((dx.length : Int)).toNat * 1 < (F ++ (wU (dx ++ y :: px) ++ G)).length) = true := by
            rw [Int.toNat_natCast, Nat.mul_one]
            exact decide_eq_true lS
          have l2 : (inR dx.length LB.length).1 = (inR dx.length LB.length).2 := decide_eq_true (by omega)
          refine (goesM_runs hT (to_go o M.length c LB.length k d cy b dx.length x y v11 v12 la lb _ Y Q g g') (okTwo (by decide) (okTwo l1 (okTwo l2 (okTwo (wd4_ok wy k1 hbb) (okTwo (cel_ok cS) (okTwo l2 (okTwo (cel_ok hx) (okTwo l2 (okOne (decide_eq_true (by omega))))))))))) ).mono fun e' z he => ?_
          obtain ⟨rfl, ⟨g1, g2, e2⟩, e3⟩ := he
          refine ⟨r, by omega, dx ++ [subD y (toW cy x d) b], px, LB.drop (dx.length + 1), toC cy x d, subB y (toW cy x d) b, i6' dx.length, uu x, g1, g2, by simp at hr; omega, by simp at hlen ⊢; omega, wds_app wd1 (fun u hu => by rw [List.mem_singleton.1 hu]; exact s1), wd2, by simp, k2, s2, ?_, ?_, ?_⟩
          · rw [e2, wrapI (by omega) (by omega)]
            simp
          · rw [e3, Int.toNat_natCast, Nat.mul_one, fR_set hF]
          · rw [hbx] at hv
            simp only [vN] at hv
            rw [vN_snoc, List.length_append, List.length_singleton, pw]
            exact to_step k3 s3 hv
    · match e', he with
      | none, he => exact ⟨rfl, he⟩
      | some none, he => exact he.elim
      | some (some _), he => exact he.elim
  · rintro ⟨t, h', s'⟩ ⟨_, dx, tw, cy, b, v11, v12, u1, u2, u3, g, g', hdl, wd1, wt, hcy, hbb, ht, hh, hv⟩
    simp only at ht hh
    subst ht hh
    have ew : IntKind.u32.wrap cy = cy := by rw [u32w, Int.emod_eq_of_lt hcy.1 hcy.2]
    obtain ⟨s1, s2, s3⟩ := borrow_ok wt hcy hbb
    have cS := fR_get hF dx tw [] G
    have lS : o + dx.length < (F ++ (wU (dx ++ tw :: []) ++ G)).length := (List.getElem?_eq_some_iff.1 cS).1
    obtain ⟨f1, f2⟩ := last_word (l := - subB tw cy b) (V := vN M - d * vN LB) wd1 s1 (by rw [← hv, s3]; congr 2; omega)
    have hn := neg_div (pw_pos (dx.length + 1)) f2
    have g0 := to_end e o M.length c LB.length k d cy b tw v11 v12 u1 u2 u3 la lb (F ++ (wU (dx ++ tw :: []) ++ G)) Y Q g g'
    rw [ew, ← hdl, Int.toNat_natCast, Nat.mul_one, fR_set hF] at g0
    have l0 : (subB tw cy b != 0) = e := by
      rw [← he]
      by_cases hneg : vN M - d * vN LB < 0
      · rw [decide_eq_true hneg]
        have := hn.1 hneg
        exact bne_iff_ne.2 (by omega)
      · rw [decide_eq_false hneg]
        have : subB tw cy b = 0 := Decidable.byContradiction fun h0 => hneg (hn.2 (by omega))
        rw [this]
        rfl
    have l2 : (inR dx.length M.length).1 = (inR dx.length M.length).2 := decide_eq_true (by omega)
    rw [← hdl]
    refine (goesT_runs hT g0 (okTwo l0 (okTwo (decide_eq_true lS) (okTwo l2 (okTwo (wd4_ok wt hcy hbb) (okTwo (cel_ok cS) (okOne l2))))))).mono fun e' y he => ?_
    obtain ⟨rfl, ⟨g1, e2⟩, e3⟩ := he
    refine ⟨.inr rfl, ?_, ?_⟩
    · rw [e2, e3]; rfl
    · rw [e3, hl, ← hdl, ← f1, List.append_nil]; rfl
def okTo (la lb R Y Q : List Value) (t0 t1 t2 t3 t4 : TypeId) (o m c n k : Nat) : Bool := Nat.beq t0 tR && Nat.beq t1 tR && Nat.beq t2 tU && Nat.beq t3 tU && Nat.beq t4 tU && rowOk tU R o m c && rowOk tU Y 0 n k && Nat.beq m (n + 1) && Nat.blt m 1099511627776 && la.all still && lb.all still && Q.all still
theorem okTo_of {la lb R Y Q : List Value} {t0 t1 t2 t3 t4 : TypeId} {o m c n k : Nat} (q : okTo la lb R Y Q t0 t1 t2 t3 t4 o m c n k = true) : t0 = tR ∧ t1 = tR ∧ t2 = tU ∧ t3 = tU ∧ t4 = tU ∧ rowOk tU R o m c = true ∧ rowOk tU Y 0 n k = true ∧ m = n + 1 ∧ m < 1099511627776 ∧ la.all still = true ∧ lb.all still = true ∧ Q.all still = true := by
  unfold okTo at q
  simp only [Bool.and_eq_true] at q
  obtain ⟨⟨⟨⟨⟨⟨⟨⟨⟨⟨⟨q0, q1⟩, q2⟩, q3⟩, q4⟩, ra⟩, rb⟩, qn⟩, qN⟩, s0⟩, s1⟩, s2⟩ := q
  exact ⟨Nat.eq_of_beq_eq_true q0, Nat.eq_of_beq_eq_true q1, Nat.eq_of_beq_eq_true q2, Nat.eq_of_beq_eq_true q3, Nat.eq_of_beq_eq_true q4, ra, rb, Nat.eq_of_beq_eq_true qn, blt_iff.1 qN, s0, s1, s2⟩
theorem row_parts {R : List Value} {o m c : Nat} (ra : rowOk tU R o m c = true) : R = R.take o ++ (wU (cutI R o m) ++ R.drop (o + m)) ∧ (R.take o).length = o := by
  obtain ⟨a1, a2, a3, a4, a5, a6, a7⟩ := row_of ra
  constructor
  · have h1 := a1.cut
    rw [a2] at h1
    rw [← h1]
    unfold cutV
    rw [← List.drop_drop, List.take_append_drop, List.take_append_drop]
  · have := a1.len
    simp
    omega
theorem tight5 {la lb R Y Q : List Value} {o m c n k : Nat} {L : List Int} (ra : rowOk tU R o m c = true) (rb : rowOk tU Y 0 n k = true) (s0 : la.all still = true) (s1 : lb.all still = true) (s2 : Q.all still = true) : (h5 la lb (tmS R o m L) Y Q).tight = true := by
  obtain ⟨a1, a2, a3, a4, a5, a6, a7⟩ := row_of ra
  obtain ⟨b1, b2, b3, b4, b5, b6, b7⟩ := row_of rb
  unfold Hp.tight tmS h5
  simp only [List.all_cons, List.all_nil, List.all_append, Bool.and_true, Bool.and_eq_true]
  refine ⟨all_mono (by omega) s2, all_mono (by omega) (List.all_eq_true.2 b7), ⟨?_, wU_tight _ _, ?_⟩, all_mono (by omega) s1, all_mono (by omega) s0⟩
  · rw [List.all_eq_true]
    exact fun v hv => still_lt (by omega) (a7 v (List.mem_of_mem_take hv))
  · rw [List.all_eq_true]
    exact fun v hv => still_lt (by omega) (a7 v (List.mem_of_mem_drop hv))
def gTo5 : AnsH := fun vals h s =>
  match vals, h, s with
  | [.slice (some ⟨2, o, none⟩) m c, .slice (some ⟨3, 0, none⟩) n k, .int .u32 d], ⟨5, [(Q, t4), (Y, t3), (R, t2), (lb, t1), (la, t0)]⟩, .inr (.inr (.inr (.inl e))) :: s' => some (.bool e, h5 la lb (tmS R o m (dg m (vN (cutI R o m) - d * vN (cutI Y 0 n)))) Y Q, s', [(okTo la lb R Y Q t0 t1 t2 t3 t4 o m c n k && decide (0 ≤ d ∧ d < 4294967296), true), (decide (vN (cutI R o m) - d * vN (cutI Y 0 n) < 0), e)])
  | _, _, _ => none
theorem gTo5_ok : AnsHOk 134 gTo5 := by
  intro vals h s v h' s' lg hg hl m B w E hv
  unfold gTo5 at hg
  split at hg
  · rename_i o mm c n k d Q t4 Y t3 R t2 lb t1 la t0 e s2
    cases hg
    have l1 := hl _ List.mem_cons_self
    have l2 := hl _ (List.mem_cons_of_mem _ (List.mem_singleton.2 rfl))
    simp only [Bool.and_eq_true, decide_eq_true_eq] at l1 l2
    obtain ⟨l1, hd⟩ := l1
    obtain ⟨q0, q1, q2, q3, q4, ra, rb, qn, qN, st0, st1, st2⟩ := okTo_of l1
    subst q0 q1 q2 q3 q4
    obtain ⟨a1, a2, a3, a4, a5, a6, a7⟩ := row_of ra
    obtain ⟨b1, b2, b3, b4, b5, b6, b7⟩ := row_of rb
    obtain ⟨eS, hF⟩ := row_parts ra
    have r := to_runs (G := R.drop (o + mm)) (la := la) (lb := lb) (Q := Q) (c := c) (k := k) hF a1.rng b1 (by rw [a2, b2]; exact qn) (by rw [a2]; exact qN) hd (by rw [a2]; exact a3) a4 e l2
    rw [a2, b2, ← eS] at r
    exact hcalls_of_runs (T := tabOf Tryz.prog extY conB true) Tryz.func134 to_body (vals := [sl 2 o mm c, sl 3 0 n k, uu d]) (v := .bool e) (h := h5 la lb R Y Q) (by rfl) (tight5 ra rb st0 st1 st2) r m B w E hv
  · cases hg
end Go.Proofs.YtgefjidphfdhdabGreatDoor.Na
