/-
  nat.Shl, as a call with a row.
-/
import Derived.Test.YtcnmfjhefioldabDoorConNE
import Derived.Test.YtcnmfjhefioldabDoorNumR
namespace Go.Proofs.YtcnmfjhefioldabDoor
open Go.KRun Go.Nt
set_option maxRecDepth 100000

theorem lenN_bd {L : List Int} (hL : wds L) : 0 ≤ lenN L ∧ lenN L ≤ 262144 := by
  unfold lenN
  cases h : (L.length == 0 || badL L) with
  | true =>
    show (0 : Int) ≤ 0 ∧ (0 : Int) ≤ 262144
    omega
  | false =>
    simp only [Bool.or_eq_false_iff] at h
    have h8 := badL_len h.2
    have h0 : L.length ≠ 0 := by simpa using h.1
    have hx := hL (L.getD (L.length - 1) 0) (by
      have hk' : L.length - 1 < L.length := by omega
      simp [List.getD, List.getElem?_eq_getElem hk'])
    have := bitLen_32 hx.1 hx.2
    simp only
    omega
theorem sk_eq {K : Nat} (h : K ≤ 262144) : skI K = ((K / 32 : Nat) : Int) := by
  unfold skI
  have e : ((K : Nat) : Int).tdiv 32 = ((K / 32 : Nat) : Int) := rfl
  rw [e, wrapI (by omega) (by omega)]
theorem rm_eq (K : Nat) : rmI K = ((K % 32 : Nat) : Int) := rfl
theorem zI_eq {n K : Nat} (h : K ≤ 262144) (hn : n ≤ 8192) : zI n K = ((K / 32 + (n + 1) : Nat) : Int) := by
  unfold zI
  rw [sk_eq h, wrapI (n := ((K / 32 : Nat) : Int) + (n : Nat)) (by omega) (by omega), wrapI (by omega) (by omega)]
  omega
theorem zN_eq {n K : Nat} (h : K ≤ 262144) (hn : n ≤ 8192) : zN n K = K / 32 + (n + 1) := by unfold zN; rw [zI_eq h hn, Int.toNat_natCast]
theorem oN_eq {K : Nat} (h : K ≤ 262144) : oN K = K / 32 := by unfold oN; rw [sk_eq h, Int.toNat_natCast]; omega
theorem pN_eq {n K : Nat} (h : K ≤ 262144) (hn : n ≤ 8192) : pN n K = n + 1 := by unfold pN; rw [sk_eq h, zN_eq h hn, Int.toNat_natCast]; omega
theorem cpN_eq {n K : Nat} (h : K ≤ 262144) (hn : n ≤ 8192) : cpN n K = n := by unfold cpN; rw [pN_eq h hn]; simp
theorem cpL_eq {la : List Value} {o K : Nat} {L : List Int} (hR : Row la o L) (h : K ≤ 262144) (hn : L.length ≤ 8192) : cpL la o L.length K = wU (List.replicate (K / 32) 0 ++ (L ++ [0])) := by
  unfold cpL
  rw [cpN_eq h hn, zN_eq h hn, oN_eq h]
  have e1 : (la.drop o).take L.length = wU L := hR.cut
  rw [e1, List.drop_replicate, List.take_replicate, show K / 32 + (L.length + 1) - (K / 32 + L.length) = 1 from by omega, show min (K / 32) (K / 32 + (L.length + 1)) = K / 32 from by omega]
  unfold wU uu
  simp
theorem clOk_eq {la : List Value} {o K : Nat} {L : List Int} (hR : Row la o L) (h : K ≤ 262144) (hn : L.length ≤ 8192) : clOk la o L.length K = true := by
  unfold clOk
  rw [cpN_eq h hn, zN_eq h hn, oN_eq h]
  have e1 : (la.drop o).take L.length = wU L := hR.cut
  rw [e1, tR_tomb, tU_own]
  have h1 : Nat.ble (o + L.length) la.length = true := Nat.ble_eq_true_of_le hR.len
  have h2 : Nat.ble (K / 32 + L.length) (List.replicate (K / 32 + (L.length + 1)) (uu 0)).length = true := Nat.ble_eq_true_of_le (by rw [List.length_replicate]; omega)
  have h3 : ((wU L).all one) = true := by
    unfold wU
    rw [List.all_eq_true]
    intro v hv
    obtain ⟨x, _, rfl⟩ := List.mem_map.1 hv
    rfl
  rw [h1, h2, h3]
  rfl
theorem cutI_app (A B : List Int) : cutI (wU (A ++ B)) A.length B.length = B := by
  unfold cutI cutV wU
  rw [List.map_append, List.drop_append_of_le_length (by simp), show A.length = (A.map (Value.int .u32)).length from by simp, List.drop_length, List.nil_append, List.take_of_length_le (by simp), List.map_map]
  exact (List.map_congr_left fun x _ => rfl).trans (List.map_id' _)
theorem wds_rep (s : Nat) : wds (List.replicate s 0) := fun x hx => by rw [List.eq_of_mem_replicate hx]; omega
theorem wds_zero {L : List Int} (h : wds L) : wds (L ++ [0]) := wds_app h (fun x hx => by rw [List.mem_singleton.1 hx]; omega)
theorem upM_eq {la : List Value} {o K : Nat} {L : List Int} (hR : Row la o L) (h : K ≤ 262144) (hn : L.length ≤ 8192) : upM la o L.length K = wU (shlR L K) := by
  unfold upM upS
  rw [cpL_eq hR h hn, oN_eq h, pN_eq h hn, rm_eq, Int.toNat_natCast]
  have e1 := cutI_app (List.replicate (K / 32) 0) (L ++ [0])
  rw [List.length_replicate, List.length_append, List.length_singleton] at e1
  rw [e1, vN_snoc, Int.mul_zero, Int.add_zero, shlR_eq]
  unfold wU
  rw [List.map_append, List.map_append, List.take_append_of_le_length (by simp), List.take_of_length_le (by simp), List.map_append]
theorem rep_row {la : List Value} {o K : Nat} {L : List Int} (hR : Row la o L) (h : K ≤ 262144) (hn : L.length ≤ 8192) : rowOk tU (cpL la o L.length K) (oN K) (pN L.length K) (pN L.length K) = true := by
  rw [cpL_eq hR h hn, oN_eq h, pN_eq h hn]
  unfold rowOk
  have e1 := cutI_app (List.replicate (K / 32) 0) (L ++ [0])
  rw [show tomb tU = false from by kernel_rfl, show Nat.beq (rt tU) tU = true from by kernel_rfl, Nat.ble_eq_true_of_le (show K / 32 + (L.length + 1) ≤ (wU (List.replicate (K / 32) 0 ++ (L ++ [0]))).length by unfold wU; simp), Nat.ble_eq_true_of_le (Nat.le_refl _), show smallC (L.length + 1) = true from blt_iff.2 (by unfold dead; omega), wU_tight]
  have h3 : ((cutV (wU (List.replicate (K / 32) 0 ++ (L ++ [0]))) (K / 32) (L.length + 1)).all isU) = true := by
    rw [List.all_eq_true]
    intro v hv
    unfold cutV wU at hv
    obtain ⟨x, hx, rfl⟩ := List.mem_map.1 (List.mem_of_mem_drop (List.mem_of_mem_take hv))
    exact decide_eq_true ((wds_app (wds_rep _) (wds_zero hR.rng)) x hx)
  rw [h3]
  rfl
theorem shl_runs {la : List Value} {o n c K : Nat} (ha : rowOk tR la o n c = true) (hb : badL (cutI la o n) = false) (h0 : n ≠ 0) (hK : (K : Int) ≤ 262144 - lenN (cutI la o n)) :
    Runs (tabH Tryd.prog extY conN hcS) (cBody Tryd.f5) ([sl 0 o n c, i6' K] ++ List.replicate 45 undef, ⟨1, [(la, tR)]⟩, []) fun e y => (e = none ∨ e = some none) ∧ resS Tryd.prog Tryd.f5 y.1 y.2.1 = some (.tuple #[sl 1 0 (trimN (shlR (cutI la o n) K)) (K / 32 + (n + 1)), .nilIface]) ∧ y.2.1.blk? 1 = some (wU (shlR (cutI la o n) K), tU) := by
  obtain ⟨a1, a2, a3, a4, a5, a6, a7⟩ := row_of ha
  have h8 := badL_len hb
  have hl := lenN_bd a1.rng
  have g0 := shl_good o n c K la
  have lI : lnI la o n = 262144 - lenN (cutI la o n) := by unfold lnI; rw [wrapI (by omega) (by omega)]
  rw [lI] at g0
  generalize hL : cutI la o n = L at *
  subst a2
  have hK2 : K ≤ 262144 := by omega
  rw [upM_eq a1 hK2 h8] at g0
  have ez := zN_eq (n := L.length) hK2 h8
  have esm : smallC (zN L.length K) = true := blt_iff.2 (by rw [ez]; unfold dead; omega)
  have r1 := wU_row (dg_wds (K / 32 + (L.length + 1)) (vN L * 2 ^ K)) (c := zN L.length K) (by rw [dg_len, ez]; exact Nat.le_refl _) esm
  rw [dg_len, ← ez] at r1
  have r2 : rowOk tU (wU (shlR L K)) 0 (zN L.length K) (zN L.length K) = true := by unfold shlR; rw [← ez]; exact r1.1
  have r3 : cutI (wU (shlR L K)) 0 (zN L.length K) = shlR L K := by unfold shlR; rw [← ez]; exact r1.2
  have part : okPart (skI K) (zN L.length K) (zN L.length K) (zN L.length K) = true := by unfold okPart; rw [sk_eq hK2, ez]; exact decide_eq_true (by omega)
  have part2 : decide (((zN L.length K : Nat) : Int) = skI K ∧ skI K ≠ 0) = false := by rw [sk_eq hK2, ez]; exact decide_eq_false (by omega)
  have mk : okMakeB 4 (zI L.length K) (zI L.length K) = true := by unfold okMakeB; rw [zI_eq hK2 h8]; exact decide_eq_true (by omega)
  have len : Nat.beq (oN K + pN L.length K) (cpL la o L.length K).length = true := by
    rw [cpL_eq a1 hK2 h8, oN_eq hK2, pN_eq hK2 h8]
    unfold wU
    simp
  have calm : la.all (lt1 0) = true := List.all_eq_true.2 a7
  have d1 : decide (0 ≤ rmI K ∧ rmI K < 32) = true := by rw [rm_eq]; exact decide_eq_true (by omega)
  have d2 : decide ((K : Int) > 262144 - lenN L) = false := decide_eq_false (by omega)
  have d3 : ((L.length : Int) == 0) = false := by simpa using h0
  have d4 : decide ((K : Int) < 0) = false := decide_eq_false (by omega)
  refine (goesT_runs (tabH_ok conN_ok hcS_ok) g0 (okTwo r2 (okTwo (by kernel_rfl) (okTwo (by kernel_rfl) (okTwo (rep_row a1 hK2 h8) (okTwo len (okTwo calm (okTwo d1
    (okTwo esm (okTwo part (okTwo part2 (okTwo (clOk_eq a1 hK2 h8) (okTwo esm (okTwo part (okTwo part2 (okTwo mk (okTwo d2 (okTwo ha (okTwo d3 (okTwo d4 (okTwo ha (okOne hb)))))))))))))))))))))).mono fun e y he => ?_
  obtain ⟨rfl, ⟨g, e2⟩, e3⟩ := he
  refine ⟨.inr rfl, ?_, ?_⟩
  · rw [e2, e3, r3, ez]
    rfl
  · rw [e3]
    rfl
theorem shl_row {la : List Value} {o n c : Nat} {k : Int} {r e : Value} {cs : Log} {s : List Dec} (g0 : GoesT (evC (tabH Tryd.prog extY conN hcS) 200 false (cBody Tryd.f5) ([sl 0 o n c, i6' k] ++ List.replicate 45 undef, ⟨1, [(la, tR)]⟩, s) ⟨[], [], []⟩) 6 41 (some none) (fS o n c k r e) ⟨1, [(la, tR)]⟩ cs) (hcs : okLog cs)
    (hres : ∀ g, resS Tryd.prog Tryd.f5 (fS o n c k r e ++ tl 41 g) ⟨1, [(la, tR)]⟩ = some (.tuple #[r, e])) :
    Runs (tabH Tryd.prog extY conN hcS) (cBody Tryd.f5) ([sl 0 o n c, i6' k] ++ List.replicate 45 undef, ⟨1, [(la, tR)]⟩, []) fun e' y => (e' = none ∨ e' = some none) ∧ resS Tryd.prog Tryd.f5 y.1 y.2.1 = some (.tuple #[r, e]) := by
  refine (goesT_runs (tabH_ok conN_ok hcS_ok) g0 hcs).mono fun e' y he => ?_
  obtain ⟨rfl, ⟨g, e2⟩, e3⟩ := he
  refine ⟨.inr rfl, ?_⟩
  rw [e2, e3]
  exact hres g
def gShl : AnsH := fun vals h s =>
  match vals with
  | [.slice (some ⟨b, o, none⟩) n c, .int .i64 k] =>
    match h.blk? b, s with
    | some x, .inr (.inr (.inr (.inl true))) :: s' => some (.tuple #[nilS, errV 1], h, s', [(rowOk x.2 x.1 o n c, true), (badL (cutI x.1 o n) || decide (k < 0), true)])
    | some x, .inr (.inr (.inr (.inl false))) :: .inr (.inr (.inr (.inl true))) :: s' => some (.tuple #[nilS, .nilIface], h, s', [(rowOk x.2 x.1 o n c, true), (badL (cutI x.1 o n) || decide (k < 0), false), (decide (n = 0), true)])
    | some x, .inr (.inr (.inr (.inl false))) :: .inr (.inr (.inr (.inl false))) :: .inr (.inr (.inr (.inl true))) :: s' => some (.tuple #[nilS, errV 2], h, s', [(rowOk x.2 x.1 o n c, true), (badL (cutI x.1 o n) || decide (k < 0), false), (decide (n = 0), false), (decide (k > 262144 - lenN (cutI x.1 o n)), true)])
    | some x, .inr (.inr (.inr (.inl false))) :: .inr (.inr (.inr (.inl false))) :: .inr (.inr (.inr (.inl false))) :: s' => some (.tuple #[sl h.n 0 (trimN (shlR (cutI x.1 o n) k.toNat)) (k.toNat / 32 + (n + 1)), .nilIface], h.push (wU (shlR (cutI x.1 o n) k.toNat)) tU, s', [(rowOk x.2 x.1 o n c, true), (badL (cutI x.1 o n) || decide (k < 0), false), (decide (n = 0), false), (decide (k > 262144 - lenN (cutI x.1 o n)), false)])
    | _, _ => none
  | _ => none
theorem gShl_ok : AnsHOk 5 gShl := by
  intro vals h s v h' s' lg hg hl m B w E hv
  unfold gShl at hg
  split at hg
  · rename_i b o n c k
    have one1 : ∀ x : List Value × TypeId, h.blk? b = some x → rowOk x.2 x.1 o n c = true → ∀ v0 : Value, oc (List.range 1) v0 = true → rn (fun _ => b) v0 = v0 →
        Runs (tabH Tryd.prog extY conN hcS) (cBody Tryd.f5) ([sl 0 o n c, i6' k] ++ List.replicate 45 undef, ⟨1, [(x.1, tR)]⟩, []) (fun e y => (e = none ∨ e = some none) ∧ resS Tryd.prog Tryd.f5 y.1 y.2.1 = some v0) →
        Calls Tryd.prog 5 (([.slice (some ⟨b, o, none⟩) n c, .int .i64 k] : List Value).map (mv m)).toArray w fun e w' => ∃ m', e = .returned (mv m' v0) ∧ Came m B h w v0 h m' w' := by
      intro x hx ra v0 ho e0 r
      obtain ⟨a1, a2, a3, a4, a5, a6, a7⟩ := row_of ra
      have hlt := Hp.blk_lt hx
      have := row_calls (T := tabH Tryd.prog extY conN hcS) Tryd.func5 shl_body (rows1 a7) (vals := [sl 0 o n c, i6' k]) (fun v hv => by
        simp only [List.mem_cons, List.not_mem_nil, or_false] at hv
        rcases hv with rfl | rfl <;> rfl) ho r E (s := fun _ => b) (fun i _ => hlt) (fitsR1 hx a5 a6 rfl)
      rw [e0] at this
      exact this.mono fun e w' he => ⟨m, he.1, he.2⟩
    split at hg
    · rename_i x s2 hx
      cases hg
      have ra := hl _ (List.mem_cons_self)
      have hd := hl _ (List.mem_cons_of_mem _ (List.mem_singleton.2 rfl))
      simp only at hd
      refine one1 x hx ra _ (by rfl) (rn_still (by rfl)) ?_
      cases hb : badL (cutI x.1 o n) with
      | true => exact shl_row (shl_bad o n c k x.1) (okTwo (rowOk_R ra) (okOne hb)) (fun _ => rfl)
      | false =>
        rw [hb, Bool.false_or] at hd
        exact shl_row (shl_neg o n c k x.1) (okTwo hd (okTwo (rowOk_R ra) (okOne hb))) (fun _ => rfl)
    · rename_i x s2 hx
      cases hg
      have ra := hl _ (List.mem_cons_self)
      have hd := hl _ (List.mem_cons_of_mem _ List.mem_cons_self)
      have h0 := of_decide_eq_true (hl _ (List.mem_cons_of_mem _ (List.mem_cons_of_mem _ (List.mem_singleton.2 rfl))))
      simp only [Bool.or_eq_false_iff] at hd
      have d3 : ((n : Int) == 0) = true := by rw [h0]; rfl
      exact one1 x hx ra _ (by rfl) (rn_still (by rfl)) (shl_row (shl_nil o n c k x.1) (okTwo d3 (okTwo hd.2 (okTwo (rowOk_R ra) (okOne hd.1)))) (fun _ => rfl))
    · rename_i x s2 hx
      cases hg
      have ra := hl _ (List.mem_cons_self)
      have hd := hl _ (List.mem_cons_of_mem _ List.mem_cons_self)
      have h0 := of_decide_eq_false (hl _ (List.mem_cons_of_mem _ (List.mem_cons_of_mem _ List.mem_cons_self)))
      have hk := hl _ (List.mem_cons_of_mem _ (List.mem_cons_of_mem _ (List.mem_cons_of_mem _ (List.mem_singleton.2 rfl))))
      simp only [Bool.or_eq_false_iff] at hd
      have d3 : ((n : Int) == 0) = false := by simpa using h0
      obtain ⟨a1, a2, a3, a4, a5, a6, a7⟩ := row_of ra
      have hle := lenN_bd a1.rng
      have lI : lnI x.1 o n = 262144 - lenN (cutI x.1 o n) := by unfold lnI; rw [wrapI (by omega) (by omega)]
      have g0 := shl_long o n c k x.1
      rw [lI] at g0
      exact one1 x hx ra _ (by rfl) (rn_still (by rfl)) (shl_row g0 (okTwo hk (okTwo (rowOk_R ra) (okTwo d3 (okTwo hd.2 (okTwo (rowOk_R ra) (okOne hd.1)))))) (fun _ => rfl))
    · rename_i x s2 hx
      cases hg
      have ra := hl _ (List.mem_cons_self)
      have hd := hl _ (List.mem_cons_of_mem _ List.mem_cons_self)
      have h0 := of_decide_eq_false (hl _ (List.mem_cons_of_mem _ (List.mem_cons_of_mem _ List.mem_cons_self)))
      have hk := of_decide_eq_false (hl _ (List.mem_cons_of_mem _ (List.mem_cons_of_mem _ (List.mem_cons_of_mem _ (List.mem_singleton.2 rfl)))))
      simp only [Bool.or_eq_false_iff] at hd
      have hk0 := of_decide_eq_false hd.2
      obtain ⟨K, rfl⟩ := Int.eq_ofNat_of_zero_le (show 0 ≤ k by omega)
      rw [Int.toNat_natCast]
      obtain ⟨a1, a2, a3, a4, a5, a6, a7⟩ := row_of ra
      have r := shl_runs (K := K) (rowOk_R ra) hd.1 h0 (by omega)
      have e1 : ∀ j M : Nat, rn (fun _ => h.n) (.tuple #[sl 1 0 j M, .nilIface]) = .tuple #[sl h.n 0 j M, .nilIface] := fun j M => by simp [rn, rn2, rn1, sl]
      have := row_calls1 (T := tabH Tryd.prog extY conN hcS) Tryd.func5 shl_body (rows1 a7) (vals := [sl 0 o n c, i6' K]) (fun v hv => by
        simp only [List.mem_cons, List.not_mem_nil, or_false] at hv
        rcases hv with rfl | rfl <;> rfl) (k := 1) (wU_calm _) tU_own (r.w.mono fun e y h => ⟨h.1, h.2.1, [], by rw [List.append_nil]; exact h.2.2⟩) (by rfl) E (s := fun _ => b) (fitsR1 hx a5 a6 rfl)
      rw [e1] at this
      exact this
    · cases hg
  · cases hg
end Go.Proofs.YtcnmfjhefioldabDoor
