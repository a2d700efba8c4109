/-
  nat.Shl, as a call with a row.
-/
import Derived.Test.YtbjgkhbhabdjgaaDoorG26
import Derived.Test.YtbjgkhbhabdjgaaDoorG18
import Derived.Test.YtbjgkhbhabdjgaaDoorG24
import Derived.Test.YtbjgkhbhabdjgaaDoorG21
namespace Go.Proofs.YtbjgkhbhabdjgaaDoor
open Go.KRun Go.Nt
set_option maxRecDepth 100000

theorem lenN_bd {L : List Int} (hL : wds L) : 0 ≤ lenN L ∧ lenN L ≤ 262144 := by
  unfold lenN
  cases h : (L.length == 0 || badL L) with
  | true =>
    show (0 : Int) ≤ 0 ∧ (0 : Int) ≤ 262144
    omega
  | false =>
    simp only [Bool.or_eq_false_iff] at h
    have h8 := badL_len h.2
    have h0 : L.length ≠ 0 := by simpa using h.1
    have hx := hL (L.getD (L.length - 1) 0) (by
      have hk' : L.length - 1 < L.length := by omega
      simp [List.getD, List.getElem?_eq_getElem hk'])
    have := bitLen_32 hx.1 hx.2
    simp only
    omega
theorem sk_eq {K : Nat} (h : K ≤ 262144) : skI K = ((K / 32 : Nat) : Int) := by
  unfold skI
  have e : ((K : Nat) : Int).tdiv 32 = ((K / 32 : Nat) : Int) := rfl
  rw [e, wrapI (by omega) (by omega)]
theorem rm_eq (K : Nat) : rmI K = ((K % 32 : Nat) : Int) := rfl
theorem zI_eq {n K : Nat} (h : K ≤ 262144) (hn : n ≤ 8192) : zI n K = ((K / 32 + (n + 1) : Nat) : Int) := by
  unfold zI
  rw [sk_eq h, wrapI (n := ((K / 32 : Nat) : Int) + (n : Nat)) (by omega) (by omega), wrapI (by omega) (by omega)]
  omega
theorem zN_eq {n K : Nat} (h : K ≤ 262144) (hn : n ≤ 8192) : zN n K = K / 32 + (n + 1) := by unfold zN; rw [zI_eq h hn, Int.toNat_natCast]
theorem oN_eq {K : Nat} (h : K ≤ 262144) : oN K = K / 32 := by unfold oN; rw [sk_eq h, Int.toNat_natCast]; omega
theorem pN_eq {n K : Nat} (h : K ≤ 262144) (hn : n ≤ 8192) : pN n K = n + 1 := by unfold pN; rw [sk_eq h, zN_eq h hn, Int.toNat_natCast]; omega
theorem cpN_eq {n K : Nat} (h : K ≤ 262144) (hn : n ≤ 8192) : cpN n K = n := by unfold cpN; rw [pN_eq h hn]; simp
theorem cpL_eq {la : List Value} {o K : Nat} {L : List Int} (hR : Row la o L) (h : K ≤ 262144) (hn : L.length ≤ 8192) : cpL la o L.length K = wU (List.replicate (K / 32) 0 ++ (L ++ [0])) := by
  unfold cpL
  rw [cpN_eq h hn, zN_eq h hn, oN_eq h]
  have e1 : (la.drop o).take L.length = wU L := hR.cut
  rw [e1, List.drop_replicate, List.take_replicate, show K / 32 + (L.length + 1) - (K / 32 + L.length) = 1 from by omega, show min (K / 32) (K / 32 + (L.length + 1)) = K / 32 from by omega]
  unfold wU uu
  simp
theorem clOk_eq {la : List Value} {o K : Nat} {L : List Int} (hR : Row la o L) (h : K ≤ 262144) (hn : L.length ≤ 8192) : clOk la o L.length K = true := by
  unfold clOk
  rw [cpN_eq h hn, zN_eq h hn, oN_eq h]
  have e1 : (la.drop o).take L.length = wU L := hR.cut
  rw [e1, tR_tomb, tU_own]
  have h1 : Nat.ble (o + L.length) la.length = true := Nat.ble_eq_true_of_le hR.len
  have h2 : Nat.ble (K / 32 + L.length) (List.replicate (K / 32 + (L.length + 1)) (uu 0)).length = true := Nat.ble_eq_true_of_le (by rw [List.length_replicate]; omega)
  have h3 : ((wU L).all one) = true := by
    unfold wU
    rw [List.all_eq_true]
    intro v hv
    obtain ⟨x, _, rfl⟩ := List.mem_map.1 hv
    rfl
  rw [h1, h2, h3]
  rfl
theorem cutI_app (A B : List Int) : cutI (wU (A ++ B)) A.length B.length = B := by
  unfold cutI cutV wU
  rw [List.map_append, List.drop_append_of_le_length (by simp), show A.length = (A.map (Value.int .u32)).length from by simp, List.drop_length, List.nil_append, List.take_of_length_le (by simp), List.map_map]
  exact (List.map_congr_left fun x _ => rfl).trans (List.map_id' _)
theorem wds_rep (s : Nat) : wds (List.replicate s 0) := fun x hx => by rw [List.eq_of_mem_replicate hx]; omega
theorem wds_zero {L : List Int} (h : wds L) : wds (L ++ [0]) := wds_app h (fun x hx => by rw [List.mem_singleton.1 hx]; omega)
theorem upM_eq {la : List Value} {o K : Nat} {L : List Int} (hR : Row la o L) (h : K ≤ 262144) (hn : L.length ≤ 8192) : upM la o L.length K = wU (shlR L K) := by
  unfold upM upS
  rw [cpL_eq hR h hn, oN_eq h, pN_eq h hn, rm_eq, Int.toNat_natCast]
  have e1 := cutI_app (List.replicate (K / 32) 0) (L ++ [0])
  rw [List.length_replicate, List.length_append, List.length_singleton] at e1
  rw [e1, vN_snoc, Int.mul_zero, Int.add_zero, shlR_eq]
  unfold wU
  rw [List.map_append, List.map_append, List.take_append_of_le_length (by simp), List.take_of_length_le (by simp), List.map_append]
theorem rep_row {la : List Value} {o K : Nat} {L : List Int} (hR : Row la o L) (h : K ≤ 262144) (hn : L.length ≤ 8192) : rowOk tU (cpL la o L.length K) (oN K) (pN L.length K) (pN L.length K) = true := by
  rw [cpL_eq hR h hn, oN_eq h, pN_eq h hn]
  unfold rowOk
  have e1 := cutI_app (List.replicate (K / 32) 0) (L ++ [0])
  rw [show tomb tU = false from by kernel_rfl, show Nat.beq (rt tU) tU = true from by kernel_rfl, Nat.ble_eq_true_of_le (show K / 32 + (L.length + 1) ≤ (wU (List.replicate (K / 32) 0 ++ (L ++ [0]))).length by unfold wU; simp), Nat.ble_eq_true_of_le (Nat.le_refl _), show smallC (L.length + 1) = true from blt_iff.2 (by unfold dead; omega), wU_allS]
  have h3 : ((cutV (wU (List.replicate (K / 32) 0 ++ (L ++ [0]))) (K / 32) (L.length + 1)).all isU) = true := by
    rw [List.all_eq_true]
    intro v hv
    unfold cutV wU at hv
    obtain ⟨x, hx, rfl⟩ := List.mem_map.1 (List.mem_of_mem_drop (List.mem_of_mem_take hv))
    exact decide_eq_true ((wds_app (wds_rep _) (wds_zero hR.rng)) x hx)
  rw [h3]
  rfl
theorem shl_runs {la : List Value} {o n c K : Nat} (ha : rowOk tR la o n c = true) (hb : badL (cutI la o n) = false) (h0 : n ≠ 0) (hK : (K : Int) ≤ 262144 - lenN (cutI la o n)) :
    Runs (tabH Tryd.prog extY conN hcS) (cBody Tryd.f27) ([sl 0 o n c, i6' K] ++ List.replicate 45 undef, ⟨1, [(la, tR)]⟩, []) fun e y => (e = none ∨ e = some none) ∧ resS Tryd.prog Tryd.f27 y.1 y.2.1 = some (.tuple #[sl 1 0 (trimN (shlR (cutI la o n) K)) (K / 32 + (n + 1)), .nilIface]) ∧ y.2.1.blk? 1 = some (wU (shlR (cutI la o n) K), tU) := by
  obtain ⟨a1, a2, a3, a4, a5, a6, a7⟩ := row_of ha
  have h8 := badL_len hb
  have hl := lenN_bd a1.rng
  have g0 := shl_good o n c K la
  have lI : lnI la o n = 262144 - lenN (cutI la o n) := by unfold lnI; rw [wrapI (by omega) (by omega)]
  rw [lI] at g0
  generalize hL : cutI la o n = L at *
  subst a2
  have hK2 : K ≤ 262144 := by omega
  rw [upM_eq a1 hK2 h8] at g0
  have ez := zN_eq (n := L.length) hK2 h8
  have esm : smallC (zN L.length K) = true := blt_iff.2 (by rw [ez]; unfold dead; omega)
  have r1 := wU_row (dg_wds (K / 32 + (L.length + 1)) (vN L * 2 ^ K)) (c := zN L.length K) (by rw [dg_len, ez]; exact Nat.le_refl _) esm
  rw [dg_len, ← ez] at r1
  have r2 : rowOk tU (wU (shlR L K)) 0 (zN L.length K) (zN L.length K) = true := by unfold shlR; rw [← ez]; exact r1.1
  have r3 : cutI (wU (shlR L K)) 0 (zN L.length K) = shlR L K := by unfold shlR; rw [← ez]; exact r1.2
  have part : okPart (skI K) (zN L.length K) (zN L.length K) (zN L.length K) = true := by unfold okPart; rw [sk_eq hK2, ez]; exact decide_eq_true (by omega)
  have part2 : decide (((zN L.length K : Nat) : Int) = skI K ∧ skI K ≠ 0) = false := by rw [sk_eq hK2, ez]; exact decide_eq_false (by omega)
  have mk : okMakeB 4 (zI L.length K) (zI L.length K) = true := by unfold okMakeB; rw [zI_eq hK2 h8]; exact decide_eq_true (by omega)
  have len : Nat.beq (oN K + pN L.length K) (cpL la o L.length K).length = true := by
    rw [cpL_eq a1 hK2 h8, oN_eq hK2, pN_eq hK2 h8]
    unfold wU
    simp
  have calm : la.all still = true := List.all_eq_true.2 a7
  have d1 : decide (0 ≤ rmI K ∧ rmI K < 32) = true := by rw [rm_eq]; exact decide_eq_true (by omega)
  have d2 : decide ((K : Int) > 262144 - lenN L) = false := decide_eq_false (by omega)
  have d3 : ((L.length : Int) == 0) = false := by simpa using h0
  have d4 : decide ((K : Int) < 0) = false := decide_eq_false (by omega)
  refine (goesT_runs (tabH_ok conN_ok hcS_ok) g0 (okTwo r2 (okTwo (by kernel_rfl) (okTwo (by kernel_rfl) (okTwo (rep_row a1 hK2 h8) (okTwo len (okTwo calm (okTwo d1
    (okTwo esm (okTwo part (okTwo part2 (okTwo (clOk_eq a1 hK2 h8) (okTwo esm (okTwo part (okTwo part2 (okTwo mk (okTwo d2 (okTwo ha (okTwo d3 (okTwo d4 (okTwo ha (okOne hb)))))))))))))))))))))).mono fun e y he => ?_
  obtain ⟨rfl, ⟨g, e2⟩, e3⟩ := he
  refine ⟨.inr rfl, ?_, ?_⟩
  · rw [e2, e3, r3, ez]
    rfl
  · rw [e3]
    rfl
theorem shl_row {la : List Value} {o n c : Nat} {k : Int} {r e : Value} {cs : Log} {s : List Dec} (g0 : GoesT (evC (tabH Tryd.prog extY conN hcS) 200 false (cBody Tryd.f27) ([sl 0 o n c, i6' k] ++ List.replicate 45 undef, ⟨1, [(la, tR)]⟩, s) ⟨[], [], []⟩) 6 41 (some none) (fS o n c k r e) ⟨1, [(la, tR)]⟩ cs) (hcs : okLog cs)
    (hres : ∀ g, resS Tryd.prog Tryd.f27 (fS o n c k r e ++ tl 41 g) ⟨1, [(la, tR)]⟩ = some (.tuple #[r, e])) :
    Runs (tabH Tryd.prog extY conN hcS) (cBody Tryd.f27) ([sl 0 o n c, i6' k] ++ List.replicate 45 undef, ⟨1, [(la, tR)]⟩, []) fun e' y => (e' = none ∨ e' = some none) ∧ resS Tryd.prog Tryd.f27 y.1 y.2.1 = some (.tuple #[r, e]) := by
  refine (goesT_runs (tabH_ok conN_ok hcS_ok) g0 hcs).mono fun e' y he => ?_
  obtain ⟨rfl, ⟨g, e2⟩, e3⟩ := he
  refine ⟨.inr rfl, ?_⟩
  rw [e2, e3]
  exact hres g
def gShl : AnsH := fun vals h s =>
  match vals with
  | [.slice (some ⟨b, o, none⟩) n c, .int .i64 k] =>
    match h.blk? b, s with
    | some x, .inr (.inr (.inr (.inl true))) :: s' => some (.tuple #[nilS, errV 1], h, s', [(rowOk x.2 x.1 o n c, true), (badL (cutI x.1 o n) || decide (k < 0), true)])
    | some x, .inr (.inr (.inr (.inl false))) :: .inr (.inr (.inr (.inl true))) :: s' => some (.tuple #[nilS, .nilIface], h, s', [(rowOk x.2 x.1 o n c, true), (badL (cutI x.1 o n) || decide (k < 0), false), (decide (n = 0), true)])
    | some x, .inr (.inr (.inr (.inl false))) :: .inr (.inr (.inr (.inl false))) :: .inr (.inr (.inr (.inl true))) :: s' => some (.tuple #[nilS, errV 2], h, s', [(rowOk x.2 x.1 o n c, true), (badL (cutI x.1 o n) || decide (k < 0), false), (decide (n = 0), false), (decide (k > 262144 - lenN (cutI x.1 o n)), true)])
    | some x, .inr (.inr (.inr (.inl false))) :: .inr (.inr (.inr (.inl false))) :: .inr (.inr (.inr (.inl false))) :: s' => some (.tuple #[sl h.n 0 (trimN (shlR (cutI x.1 o n) k.toNat)) (k.toNat / 32 + (n + 1)), .nilIface], h.push (wU (shlR (cutI x.1 o n) k.toNat)) tU, s', [(rowOk x.2 x.1 o n c, true), (badL (cutI x.1 o n) || decide (k < 0), false), (decide (n = 0), false), (decide (k > 262144 - lenN (cutI x.1 o n)), false)])
    | _, _ => none
  | _ => none
theorem gShl_ok : AnsHOk 27 gShl := by
  intro vals h s v h' s' lg hg hl m B w E hv
  unfold gShl at hg
  split at hg
  · rename_i b o n c k
    have one1 : ∀ x : List Value × TypeId, h.blk? b = some x → rowOk x.2 x.1 o n c = true → ∀ v0 : Value, oc (List.range 1) v0 = true → rn (fun _ => b) v0 = v0 →
        Runs (tabH Tryd.prog extY conN hcS) (cBody Tryd.f27) ([sl 0 o n c, i6' k] ++ List.replicate 45 undef, ⟨1, [(x.1, tR)]⟩, []) (fun e y => (e = none ∨ e = some none) ∧ resS Tryd.prog Tryd.f27 y.1 y.2.1 = some v0) →
        Calls Tryd.prog 27 (([.slice (some ⟨b, o, none⟩) n c, .int .i64 k] : List Value).map (mv m)).toArray w fun e w' => ∃ m', e = .returned (mv m' v0) ∧ Came m B h w v0 h m' w' := by
      intro x hx ra v0 ho e0 r
      obtain ⟨a1, a2, a3, a4, a5, a6, a7⟩ := row_of ra
      have hlt := Hp.blk_lt hx
      have := row_calls (T := tabH Tryd.prog extY conN hcS) Tryd.func27 shl_body (rows1 a7) (vals := [sl 0 o n c, i6' k]) (fun v hv => by
        simp only [List.mem_cons, List.not_mem_nil, or_false] at hv
        rcases hv with rfl | rfl <;> rfl) ho r E (s := fun _ => b) (fun i _ => hlt) (fitsR1 hx a5 a6 rfl)
      rw [e0] at this
      exact this.mono fun e w' he => ⟨m, he.1, he.2⟩
    split at hg
    · rename_i x s2 hx
      cases hg
      have ra := hl _ (List.mem_cons_self)
      have hd := hl _ (List.mem_cons_of_mem _ (List.mem_singleton.2 rfl))
      simp only at hd
      refine one1 x hx ra _ (by rfl) (rn_still (by rfl)) ?_
      cases hb : badL (cutI x.1 o n) with
      | true => exact shl_row (shl_bad o n c k x.1) (okTwo (rowOk_R ra) (okOne hb)) (fun _ => rfl)
      | false =>
        rw [hb, Bool.false_or] at hd
        exact shl_row (shl_neg o n c k x.1) (okTwo hd (okTwo (rowOk_R ra) (okOne hb))) (fun _ => rfl)
    · rename_i x s2 hx
      cases hg
      have ra := hl _ (List.mem_cons_self)
      have hd := hl _ (List.mem_cons_of_mem _ List.mem_cons_self)
      have h0 := of_decide_eq_true (hl _ (List.mem_cons_of_mem _ (List.mem_cons_of_mem _ (List.mem_singleton.2 rfl))))
      simp only [Bool.or_eq_false_iff] at hd
      have d3 : ((n : Int) == 0) = true := by rw [h0]; rfl
      exact one1 x hx ra _ (by rfl) (rn_still (by rfl)) (shl_row (shl_nil o n c k x.1) (okTwo d3 (okTwo hd.2 (okTwo (rowOk_R ra) (okOne hd.1)))) (fun _ => rfl))
    · rename_i x s2 hx
      cases hg
      have ra := hl _ (List.mem_cons_self)
      have hd := hl _ (List.mem_cons_of_mem _ List.mem_cons_self)
      have h0 := of_decide_eq_false (hl _ (List.mem_cons_of_mem _ (List.mem_cons_of_mem _ List.mem_cons_self)))
      have hk := hl _ (List.mem_cons_of_mem _ (List.mem_cons_of_mem _ (List.mem_cons_of_mem _ (List.mem_singleton.2 rfl))))
      simp only [Bool.or_eq_false_iff] at hd
      have d3 : ((n : Int) == 0) = false := by simpa using h0
      obtain ⟨a1, a2, a3, a4, a5, a6, a7⟩ := row_of ra
      have hle := lenN_bd a1.rng
      have lI : lnI x.1 o n = 262144 - lenN (cutI x.1 o n) := by unfold lnI; rw [wrapI (by omega) (by omega)]
      have g0 := shl_long o n c k x.1
      rw [lI] at g0
      exact one1 x hx ra _ (by rfl) (rn_still (by rfl)) (shl_row g0 (okTwo hk (okTwo (rowOk_R ra) (okTwo d3 (okTwo hd.2 (okTwo (rowOk_R ra) (okOne hd.1)))))) (fun _ => rfl))
    · rename_i x s2 hx
      cases hg
      have ra := hl _ (List.mem_cons_self)
      have hd := hl _ (List.mem_cons_of_mem _ List.mem_cons_self)
      have h0 := of_decide_eq_false (hl _ (List.mem_cons_of_mem _ (List.mem_cons_of_mem _ List.mem_cons_self)))
      have hk := of_decide_eq_false (hl _ (List.mem_cons_of_mem _ (List.mem_cons_of_mem _ (List.mem_cons_of_mem _ (List.mem_singleton.2 rfl)))))
      simp only [Bool.or_eq_false_iff] at hd
      have hk0 := of_decide_eq_false hd.2
      obtain ⟨K, rfl⟩ := Int.eq_ofNat_of_zero_le (show 0 ≤ k by omega)
      rw [Int.toNat_natCast]
      obtain ⟨a1, a2, a3, a4, a5, a6, a7⟩ := row_of ra
      have r := shl_runs (K := K) (rowOk_R ra) hd.1 h0 (by omega)
      have e1 : ∀ j M : Nat, rn (fun _ => h.n) (.tuple #[sl 1 0 j M, .nilIface]) = .tuple #[sl h.n 0 j M, .nilIface] := fun j M => by simp [rn, rn2, rn1, sl]
      have := row_calls1 (T := tabH Tryd.prog extY conN hcS) Tryd.func27 shl_body (rows1 a7) (vals := [sl 0 o n c, i6' K]) (fun v hv => by
        simp only [List.mem_cons, List.not_mem_nil, or_false] at hv
        rcases hv with rfl | rfl <;> rfl) (k := 1) (wU_calm _) tU_own (r.w.mono fun e y h => ⟨h.1, h.2.1, [], by rw [List.append_nil]; exact h.2.2⟩) (by rfl) E (s := fun _ => b) (fitsR1 hx a5 a6 rfl)
      rw [e1] at this
      exact this
    · cases hg
  · cases hg
end Go.Proofs.YtbjgkhbhabdjgaaDoor

/-
  nat.product: its loop, and the contract.
-/
namespace Go.Proofs.YtbjgkhbhabdjgaaDoor
open Go.KRun Go.Nt
set_option maxRecDepth 100000
set_option linter.unusedVariables false

def mulR (L M : List Int) : List Int := dg (L.length + M.length) (vN L * vN M)
theorem wU_rowAt {L : List Int} (h : wds L) {o n c : Nat} (hl : o + n ≤ L.length) (hc : n ≤ c) (h2 : smallC c = true) : rowOk tU (wU L) o n c = true := by
  unfold rowOk
  have h3 : ((cutV (wU L) o n).all isU) = true := by
    rw [List.all_eq_true]
    intro v hv
    unfold cutV wU at hv
    obtain ⟨x, hx, rfl⟩ := List.mem_map.1 (List.mem_of_mem_drop (List.mem_of_mem_take hv))
    exact decide_eq_true (h x hx)
  rw [show tomb tU = false from by kernel_rfl, show Nat.beq (rt tU) tU = true from by kernel_rfl, Nat.ble_eq_true_of_le (show o + n ≤ (wU L).length by rw [wU_len]; exact hl), Nat.ble_eq_true_of_le hc, h2, h3, wU_allS]
  rfl
theorem cut_mid (D M R : List Int) : cutI (wU (D ++ (M ++ R))) D.length M.length = M := by
  unfold cutI cutV wU
  rw [List.map_append, List.map_append, List.drop_left' (by simp), List.take_left' (by simp), List.map_map]
  exact (List.map_congr_left fun x _ => rfl).trans (List.map_id' _)
theorem tmS_mid (D M R L : List Int) : tmS (wU (D ++ (M ++ R))) D.length M.length L = wU (D ++ (L ++ R)) := by
  have e1 : (wU (D ++ (M ++ R))).take D.length = wU D := by
    unfold wU
    rw [List.map_append]
    exact List.take_left' (by simp)
  have e2 : (wU (D ++ (M ++ R))).drop (D.length + M.length) = wU R := by
    unfold wU
    rw [← List.append_assoc, List.map_append]
    exact List.drop_left' (by simp)
  unfold tmS
  rw [e1, e2]
  unfold wU
  rw [List.map_append, List.map_append]
theorem set_mid (D L : List Int) (z c : Int) (R : List Int) : (wU (D ++ (L ++ z :: R))).set (D.length + L.length) (uu c) = wU (D ++ ((L ++ [c]) ++ R)) := by
  rw [← List.append_assoc, show D.length + L.length = (D ++ L).length from by simp, wU_set]
  simp
theorem pd_runs {la lb : List Value} {o c o' c' : Nat} {LA LB : List Int} (RA : Row la o LA) (RB : Row lb o' LB) (sa : ∀ v ∈ la, still v = true) (hrb : rowOk tR lb o' LB.length c' = true) (ha : 0 < LA.length) (hb : 0 < LB.length) (h8 : LA.length + LB.length ≤ 8192) :
    Runs (tabH Tryd.prog extY conN hcM) (seqs (pdP Tryd.f45) (.seq (.seq (cFst (cFst (sn 4 Tryd.f45))) (.block 0 (.loop (pdL Tryd.f45)))) (cSnd (sn 4 Tryd.f45)))) ([sl 0 o LA.length c, sl 1 o' LB.length c'] ++ List.replicate 57 undef, h2 la lb, []) fun e y => (e = none ∨ e = some none) ∧ resS Tryd.prog Tryd.f45 y.1 y.2.1 = some (.tuple #[sl 2 0 (trimN (mulR LA LB)) (LA.length + LB.length), .nilIface]) ∧ y.2.1.blk? 2 = some (wU (mulR LA LB), tU) := by
  have hT := tabH_ok conN_ok hcM_ok
  have eZ : pZ LA.length LB.length = ((LA.length + LB.length : Nat) : Int) := by
    unfold pZ
    rw [wrapI (by omega) (by omega)]
    omega
  have g0 := pd_pre o LA.length c o' LB.length c' la lb
  rw [eZ, Int.toNat_natCast] at g0
  have esm : ∀ q : Nat, q ≤ 8192 → smallC q = true := fun q hq => blt_iff.2 (by unfold dead; omega)
  have bA := RA.rng
  have bB := vN_bd LB RB.rng
  have erep : List.replicate (LA.length + LB.length) (uu 0) = wU ([] ++ (List.replicate LB.length 0 ++ List.replicate LA.length 0)) := by
    unfold wU uu
    rw [Nat.add_comm]
    simp [List.replicate_append_replicate]
  rw [erep] at g0
  refine goesT_list hT g0 (okTwo (by unfold okMakeB; exact decide_eq_true (by omega)) (okTwo (by rw [wrapI (by omega) (by omega)]; exact decide_eq_false (by omega)) (okTwo (by simpa using (show LB.length ≠ 0 by omega)) (okOne (by simpa using (show LA.length ≠ 0 by omega)))))) fun g => ?_
  refine Runs.seq (P1 := fun e' y => e' = none ∧ ∃ (D M : List Int) (v7 v8 u1 u2 u3 : Value) (g g' : Nat → Value), y.1 = ml (pdF o LA.length c o' LB.length c' (LA.length + LB.length) v7 v8) 22 g [u1, u2, u3] 25 g' ∧ D.length = LA.length ∧ M.length = LB.length ∧ wds D ∧ wds M ∧ vN D + 4294967296 ^ D.length * vN M = vN LA * vN LB ∧ y.2.1 = h3 la lb (wU (D ++ (M ++ [])))) ?_ ?_ (fun e y he => by cases he.1)
  · refine Runs.seq (P1 := fun e' y => e' = none ∧ (∃ g g', y.1 = ml (pdF o LA.length c o' LB.length c' (LA.length + LB.length) undef undef) 22 g [sl 0 o LA.length c, i6' LA.length, i6' 0] 25 g') ∧ y.2.1 = h3 la lb (wU ([] ++ (List.replicate LB.length 0 ++ List.replicate LA.length 0)))) (goesM_runs hT (pd_r o LA.length c o' LB.length c' (LA.length + LB.length) undef undef la lb _ g) (fun x hx => by cases hx)) ?_ (fun e y he => by cases he.1)
    rintro ⟨t, h', s'⟩ ⟨_, ⟨g1, g2, ht⟩, hh⟩
    simp only at ht hh
    subst ht hh
    refine (Runs.forLoop (R := fun _ => False) (P := fun y => ∃ (D M : List Int) (v7 v8 u1 u2 u3 : Value) (g g' : Nat → Value), y.1 = ml (pdF o LA.length c o' LB.length c' (LA.length + LB.length) v7 v8) 22 g [u1, u2, u3] 25 g' ∧ D.length = LA.length ∧ M.length = LB.length ∧ wds D ∧ wds M ∧ vN D + 4294967296 ^ D.length * vN M = vN LA * vN LB ∧ y.2.1 = h3 la lb (wU (D ++ (M ++ []))))
      (fun r y => ∃ (D M : List Int) (v7 v8 : Value) (g g' : Nat → Value), D.length + r = LA.length ∧ M.length = LB.length ∧ wds D ∧ wds M ∧ vN D + 4294967296 ^ D.length * vN M = vN (LA.take D.length) * vN LB ∧ y.1 = ml (pdF o LA.length c o' LB.length c' (LA.length + LB.length) v7 v8) 22 g [sl 0 o LA.length c, i6' LA.length, i6' D.length] 25 g' ∧ y.2.1 = h3 la lb (wU (D ++ (M ++ List.replicate r 0))))
      ?_ (n := LA.length) ⟨[], List.replicate LB.length 0, undef, undef, g1, g2, by simp, by simp, (fun x hx => by cases hx), wds_rep _, ?_, rfl, rfl⟩).mono fun e' y he => ?_
    · rintro r ⟨t, h', s'⟩ ⟨D, M, v7, v8, g, g', hr, hM, w1, w2, hv, ht, hh⟩
      simp only at ht hh
      subst ht hh
      cases r with
      | zero =>
        have ek : D.length = LA.length := by omega
        refine (goesM_runs hT (pd_out o LA.length c o' LB.length c' (LA.length + LB.length) D.length v7 v8 la lb _ g g') (okOne (decide_eq_false (by omega)))).mono fun e' y he => ?_
        obtain ⟨rfl, ⟨g1, g2, e2⟩, e3⟩ := he
        rw [ek, List.take_length] at hv
        rw [← ek] at hv
        exact ⟨rfl, D, M, v7, v8, _, _, _, g1, g2, e2, ek, hM, w1, w2, hv, e3⟩
      | succ r =>
        have hk : D.length < LA.length := by omega
        have cA := RA.cell hk
        have hx := bA (LA.getD D.length 0) (by simp [List.getD, List.getElem?_eq_getElem hk])
        have et := take_succ hk
        generalize LA.getD D.length 0 = x at *
        have eJ : pJ D.length = D.length := by unfold pJ; omega
        have eK : pK D.length LB.length = ((D.length + LB.length : Nat) : Int) := by unfold pK; rw [wrapI (by omega) (by omega)]; omega
        have eL : pLn D.length LB.length = M.length := by unfold pLn; rw [eK]; omega
        have ecB : cutI lb o' LB.length = LB := by
          unfold cutI
          rw [RB.cut]
          unfold wU
          rw [List.map_map]
          exact (List.map_congr_left fun x _ => rfl).trans (List.map_id' _)
        have ecM : cutI (wU (D ++ (M ++ List.replicate (r + 1) 0))) (pJ D.length) (pLn D.length LB.length) = M := by rw [eJ, eL]; exact cut_mid _ _ _
        have ePS : pS (wU (D ++ (M ++ List.replicate (r + 1) 0))) lb o' LB.length D.length x = wU (D ++ (tmR M LB x ++ List.replicate (r + 1) 0)) := by
          unfold pS
          rw [ecM, ecB, eJ, eL]
          exact tmS_mid _ _ _ _
        have ePC : pC (wU (D ++ (M ++ List.replicate (r + 1) 0))) lb o' LB.length D.length x = tmC M LB x := by
          unfold pC
          rw [ecM, ecB]
        have lR : (tmR M LB x).length = M.length := by unfold tmR; rw [dg_len]
        have bM := vN_bd M w2
        rw [hM] at bM
        have bT := tm_bd bM bB hx
        rw [← hM] at bT
        obtain ⟨y, m, e1, e2, w3, w4, e5⟩ := tm_split bT
        have eW : tmR M LB x ++ [tmC M LB x] = y :: m := e1
        have g1 := pd_go o LA.length c o' LB.length c' (LA.length + LB.length) D.length x v7 v8 la lb (wU (D ++ (M ++ List.replicate (r + 1) 0))) g g'
        rw [ePS, ePC, eK, eJ, eL, Int.toNat_natCast, Int.toNat_natCast, Nat.zero_add, Nat.mul_one] at g1
        have hall : wds (D ++ (M ++ List.replicate (r + 1) 0)) := wds_app w1 (wds_app w2 (wds_rep _))
        have l1 : decide (D.length + LB.length < (wU (D ++ (tmR M LB x ++ List.replicate (r + 1) 0))).length) = true := decide_eq_true (by rw [wU_len]; simp [lR]; omega)
        have l2 : (inR ((D.length + LB.length : Nat) : Int) (LA.length + LB.length)).1 = (inR ((D.length + LB.length : Nat) : Int) (LA.length + LB.length)).2 := decide_eq_true (by omega)
        have l3 : okTm (wU (D ++ (M ++ List.replicate (r + 1) 0))) lb la tU tR tR D.length M.length (LA.length + LB.length - D.length) o' LB.length c' x = true := by
          unfold okTm
          rw [wU_rowAt hall (by simp) (by omega) (esm _ (by omega)), hrb, List.all_eq_true.2 sa, blt_iff.2 (show M.length < 1099511627776 by omega), decide_eq_true hx, hM]
          simp
        have l5 : okPart D.length ((D.length + LB.length : Nat) : Int) ((LA.length + LB.length : Nat) : Int) ((LA.length + LB.length : Nat) : Int) = true := by unfold okPart; exact decide_eq_true (by omega)
        have l6 : decide (((LA.length + LB.length : Nat) : Int) = (D.length : Int) ∧ (D.length : Int) ≠ 0) = false := decide_eq_false (by omega)
        have l7 : (inR D.length LA.length).1 = (inR D.length LA.length).2 := decide_eq_true (by omega)
        refine (goesM_runs hT g1 (okTwo l1 (okTwo l2 (okTwo l3 (okTwo (esm _ (by omega)) (okTwo l5 (okTwo l6 (okTwo (cel_ok cA) (okTwo l7 (okOne (decide_eq_true (by omega)))))))))))).mono fun e' Y he => ?_
        obtain ⟨rfl, ⟨g2, g3, f2⟩, f3⟩ := he
        refine ⟨r, by omega, D ++ [y], m, i6' D.length, uu x, g2, g3, by simp; omega, by omega, wds_app w1 w3, w4, ?_, ?_, ?_⟩
        · rw [vN_snoc, List.length_append, List.length_singleton, pw, et, vN_snoc, List.length_take, Nat.min_eq_left (by omega)]
          exact pd_step e5 hv
        · rw [f2, wrapI (by omega) (by omega)]
          simp
        · rw [f3, List.replicate_succ, ← hM, ← lR, set_mid, eW]
          simp
    · simp only [List.length_nil, List.take_zero]
      have : vN (List.replicate LB.length 0) = 0 := vN_rep _
      rw [this]
      simp [vN]
    · match e', he with
      | none, he => exact ⟨rfl, he⟩
      | some none, he => exact he.elim
      | some (some _), he => exact he.elim
  · rintro ⟨t, h', s'⟩ ⟨_, D, M, v7, v8, u1, u2, u3, g, g', ht, hD, hM, w1, w2, hv, hh⟩
    simp only at ht hh
    subst ht hh
    have hw : wds (D ++ M) := wds_app w1 w2
    have hl : (D ++ M).length = LA.length + LB.length := by simp; omega
    have ew : D ++ M = mulR LA LB := by
      have := dg_vN (D ++ M) hw
      rw [vN_app, hv, hl] at this
      exact this.symm
    have hr := wU_row hw (c := LA.length + LB.length) (by omega) (esm _ h8)
    rw [hl] at hr
    have htr := trimN_le (D ++ M)
    have g1 := pd_end o LA.length c o' LB.length c' (LA.length + LB.length) v7 v8 u1 u2 u3 la lb (wU (D ++ M)) g g'
    rw [hr.2] at g1
    rw [List.append_nil]
    refine (goesT_runs hT g1 (okTwo (decide_eq_false (by omega)) (okOne hr.1))).mono fun e' y he => ?_
    obtain ⟨rfl, ⟨g1, e2⟩, e3⟩ := he
    refine ⟨.inr rfl, ?_, ?_⟩
    · rw [e2, e3, ew]
      rfl
    · rw [e3, ew]
      rfl
def gPdU : AnsH := fun vals h s =>
  match vals, s with
  | [.slice p n c, .slice q n' c'], .inr (.inr (.inr (.inl true))) :: s' => some (.tuple #[nilS, .nilIface], h, s', [(decide (n = 0 ∨ n' = 0), true)])
  | [.slice p n c, .slice q n' c'], .inr (.inr (.inr (.inl false))) :: s' => some (.tuple #[sl h.n 0 (trimN (mulR (rowOf h p n) (rowOf h q n'))) (n + n'), .nilIface], h.push (wU (mulR (rowOf h p n) (rowOf h q n'))) tU, s', [(rowX h p n c, true), (rowX h q n' c', true), (!decide (n = 0 ∨ n' = 0) && Nat.ble (n + n') 8192, true)])
  | _, _ => none
theorem gPdU_ok : AnsHOk 45 gPdU := by
  intro vals h s v h' s' lg hg hl m B w E hv
  unfold gPdU at hg
  split at hg
  · rename_i p n c q n' c' s2
    cases hg
    have l1 := of_decide_eq_true (hl _ (List.mem_singleton.2 rfl))
    by_cases h0 : n = 0
    · have r := goesT_runs (s0 := []) (tabH_ok conN_ok hcM_ok) (pd_n1 p q n c n' c' h) (okOne (by simp [h0]))
      exact hcalls_keep (T := tabH Tryd.prog extY conN hcM) Tryd.func45 pd_cbody (vals := [.slice p n c, .slice q n' c']) (v := .tuple #[nilS, .nilIface]) (h := h) (by rfl) (r.mono fun e y he => by
        obtain ⟨rfl, ⟨g, e1⟩, e2⟩ := he
        exact ⟨.inr rfl, by rw [e1, e2]; rfl, e2⟩) m B w E hv
    · have h1 : n' = 0 := l1.resolve_left h0
      have r := goesT_runs (s0 := []) (tabH_ok conN_ok hcM_ok) (pd_n2 p q n c n' c' h) (okTwo (by simp [h1]) (okOne (by simpa using h0)))
      exact hcalls_keep (T := tabH Tryd.prog extY conN hcM) Tryd.func45 pd_cbody (vals := [.slice p n c, .slice q n' c']) (v := .tuple #[nilS, .nilIface]) (h := h) (by rfl) (r.mono fun e y he => by
        obtain ⟨rfl, ⟨g, e1⟩, e2⟩ := he
        exact ⟨.inr rfl, by rw [e1, e2]; rfl, e2⟩) m B w E hv
  · rename_i p n c q n' c' s2
    cases hg
    obtain ⟨l1, l2, l3⟩ := log3 hl
    simp only [Bool.and_eq_true, Bool.not_eq_true', decide_eq_false_iff_not] at l1 l2 l3
    obtain ⟨l3, l4⟩ := l3
    have l4 := Nat.le_of_ble_eq_true l4
    rcases rowX_cases l1 with ⟨_, h0, _⟩ | ⟨b, o, x, rfl, hx, r1, e0⟩
    · omega
    rcases rowX_cases l2 with ⟨_, h0, _⟩ | ⟨b', o', y, rfl, hy, t1, f0⟩
    · omega
    rw [e0, f0]
    obtain ⟨a1, a2, a3, a4, a5, a6, a7⟩ := row_of r1
    obtain ⟨b1, b2, b3, b4, b5, b6, b7⟩ := row_of t1
    have r := pd_runs (c := c) (c' := c') a1 b1 a7 (by rw [b2]; exact rowOk_R t1) (by omega) (by omega) (by omega)
    rw [a2, b2] at r
    have e1 : ∀ k M : Nat, rn (fun _ => h.n) (.tuple #[sl 2 0 k M, .nilIface]) = .tuple #[sl h.n 0 k M, .nilIface] := fun k M => by simp [rn, rn2, rn1, sl]
    have := row_calls1 (T := tabH Tryd.prog extY conN hcM) Tryd.func45 pd_body (rows2 a7 b7) (vals := [sl 0 o n c, sl 1 o' n' c']) (fun v hv => by
      simp only [List.mem_cons, List.not_mem_nil, or_false] at hv
      rcases hv with rfl | rfl <;> rfl) (k := 2) (wU_calm _) tU_own (r.w.mono fun e y h => ⟨h.1, h.2.1, [], by rw [List.append_nil]; exact h.2.2⟩) (by rfl) E (s := pair b b') (fitsR2 hx a5 a6 hy b5 b6)
    rw [e1] at this
    exact this
  · cases hg
end Go.Proofs.YtbjgkhbhabdjgaaDoor

/-
  nat.Decimal, as a contract: the digits of any number.
-/
namespace Go.Proofs.YtbjgkhbhabdjgaaDoor
open Go.KRun Go.Nt
set_option maxRecDepth 100000

/-- a digit's letter -/
def asc (x : Int) : Int := 48 + x
def decL (V : Nat) : List Int := if V = 0 then [0] else (db 10 V).reverse
/-- a number's letters -/
def decS (V : Nat) : List UInt8 := (decL V).map fun x => UInt8.ofNat (asc x).toNat
theorem cutI_wT (W : List Int) (k : Nat) : cutI (wU W) 0 k = W.take k := by
  unfold cutI cutV wU
  rw [List.drop_zero, ← List.map_take, List.map_map]
  exact (List.map_congr_left fun x _ => rfl).trans (List.map_id' _)
theorem pNx_eq {p : Nat} (hp : p < 4294967296) : ∀ j, pNx (p : Nat) j = ((p / 10 ^ j : Nat) : Int)
  | 0 => by simp [pNx]
  | j + 1 => by
    have h1 : p / 10 ^ j ≤ p := Nat.div_le_self _ _
    rw [show pNx (p : Nat) (j + 1) = IntKind.u32.wrap ((pNx (p : Nat) j).tdiv 10) from rfl, pNx_eq hp j, Nat.pow_succ, ← Nat.div_div_eq_div_mul]
    generalize p / 10 ^ j = q at *
    rw [Int.tdiv_eq_ediv_of_nonneg (by omega)]
    simp [IntKind.wrap, IntKind.bits, IntKind.signed]
    omega
theorem dgV_eq {p : Nat} : dgV (p : Nat) = ub (asc ((p % 10 : Nat) : Int)) := by
  have e : ((p : Nat) : Int).tmod 10 = ((p % 10 : Nat) : Int) := by rw [Int.tmod_eq_emod_of_nonneg (by omega)]; omega
  unfold dgV asc
  rw [e]
  congr 1
  simp [IntKind.wrap, IntKind.bits, IntKind.signed]
  omega
theorem apB_eq {p : Nat} (hp : p < 4294967296) (D : List Int) : ∀ j, apB (wB (D.map asc)) (p : Nat) j = wB ((D ++ ld j p).map asc)
  | 0 => by simp [apB, ld]
  | j + 1 => by
    rw [show apB (wB (D.map asc)) (p : Nat) (j + 1) = apB (wB (D.map asc)) (p : Nat) j ++ [dgV (pNx (p : Nat) j)] from rfl, apB_eq hp D j, pNx_eq hp j, dgV_eq, ld_snoc]
    simp [wB]
theorem appChk_B {L : List Int} {x : Int} {k : Nat} (hk : k = L.length) (hb : k < 1073741824) : appChk tBy (wB L, tBy) ([ub x], tBy) k 0 1 = true := by
  subst hk
  unfold appChk
  simp only [Bool.and_eq_true, Bool.not_eq_true', wB_len]
  refine ⟨⟨⟨⟨⟨⟨⟨⟨Nat.beq_refl _, Nat.ble_eq_true_of_le (by omega)⟩, by kernel_rfl⟩, by kernel_rfl⟩, by kernel_rfl⟩, by kernel_rfl⟩, by rfl⟩, by rfl⟩, by rfl⟩
theorem apL_ok {p : Nat} (hp : p < 4294967296) (D : List Int) {m j : Nat} (hm : m = D.length + j) (hb : m < 1073741824) : (apL (wB (D.map asc)) (p : Nat) m j).1 = (apL (wB (D.map asc)) (p : Nat) m j).2 := by
  unfold apL
  simp only
  rw [apB_eq hp D j, pNx_eq hp j, dgV_eq]
  exact appChk_B (by simp [ld_len, hm]) hb
theorem wB_still (L : List Int) : (wB L).all still = true := by
  unfold wB
  rw [List.all_eq_true]
  intro v hv
  obtain ⟨x, _, rfl⟩ := List.mem_map.1 hv
  rfl
theorem pw_29 {k V : Nat} (h : 10 ^ (9 * k) ≤ V) {e : Nat} (he : e = 262144) (hV : V < 2 ^ e) : k < 9040 := by
  have h1 : (2 : Nat) ^ (29 * k) ≤ 10 ^ (9 * k) := by
    rw [Nat.pow_mul, Nat.pow_mul]
    exact Nat.pow_le_pow_left (by decide) k
  rcases Nat.lt_or_ge k 9040 with h2 | h2
  · exact h2
  · exfalso
    have h3 : (2 : Nat) ^ e ≤ 2 ^ (29 * k) := Nat.pow_le_pow_right (by omega) (by omega)
    omega
/-- the blocks above the words' -/
def dX (k : Nat) (D : List Int) : List (List Value × TypeId) := if k = 0 then [] else [(wB (D.map asc), tBy)]
def dS (k : Nat) (D : List Int) : Value := if k = 0 then nilS else .slice (some ⟨2, 0, none⟩) D.length grown
def dInv (a : Value) (la : List Value) (N V : Nat) (r : Nat) (y : Lf) : Prop := ∃ (k : Nat) (D W Z : List Int) (w : Value) (g : Nat → Value), y.1 = dF a (sl 1 0 W.length N) (dS k D) w ++ tl 38 g ∧ y.2.1 = hX (dX k D) (wU (W ++ Z)) la ∧ D.length = 9 * k ∧ (∀ x ∈ D, Dg 10 x) ∧ wds (W ++ Z) ∧ trimN W = W.length ∧ (W ++ Z).length = N ∧ vb 10 D + 10 ^ (9 * k) * vb 4294967296 W = V ∧ r = vb 4294967296 W ∧ k ≤ 9040
theorem vb_pos10 {W : List Int} (hw : wds W) (ht : trimN W = W.length) : 0 < vb 4294967296 W ↔ 0 < W.length := by
  have hd : db 4294967296 (vb 4294967296 W) = W := db_can (by omega) ⟨fun x hx => ⟨(hw x hx).1, by have := (hw x hx).2; omega⟩, ht⟩
  constructor
  · intro h
    rcases Nat.eq_zero_or_pos W.length with h0 | h0
    · rw [List.length_eq_zero_iff.1 h0] at h
      exact absurd h (by decide)
    · exact h0
  · intro h
    rcases Nat.eq_zero_or_pos (vb 4294967296 W) with h0 | h0
    · rw [h0, db_zero] at hd
      rw [← hd] at h
      exact absurd h (by decide)
    · exact h0
theorem wdsDg {W : List Int} (h : wds W) : ∀ x ∈ W, Dg 4294967296 x := fun x hx => ⟨(h x hx).1, by have := (h x hx).2; omega⟩
theorem wds_db (V : Nat) : wds (db 4294967296 V) := fun x hx => by
  have := db_dg (b := 4294967296) (by omega) V x hx
  exact ⟨this.1, by have := this.2; omega⟩
/-- what the words are behind a piece -/
theorem tp_words {W Z : List Int} (h : wds (W ++ Z)) : tpP (wU (W ++ Z)) W.length = ((vb 4294967296 W % 1000000000 : Nat) : Int) ∧ ∃ Z', tpS (wU (W ++ Z)) W.length = wU (db 4294967296 (vb 4294967296 W / 1000000000) ++ Z') ∧ trS (wU (W ++ Z)) W.length = (db 4294967296 (vb 4294967296 W / 1000000000)).length ∧ wds (db 4294967296 (vb 4294967296 W / 1000000000) ++ Z') ∧ (db 4294967296 (vb 4294967296 W / 1000000000) ++ Z').length = (W ++ Z).length := by
  have hW : wds W := fun x hx => h x (List.mem_append_left _ hx)
  have hZ : wds Z := fun x hx => h x (List.mem_append_right _ hx)
  have ec : cutI (wU (W ++ Z)) 0 W.length = W := by rw [cutI_wT, List.take_left]
  have ev := vN_vb hW
  have e1 : vN W / 1000000000 = ((vb 4294967296 W / 1000000000 : Nat) : Int) := by rw [ev]; omega
  have lt : vb 4294967296 W < 4294967296 ^ W.length := vb_lt (by omega) W (wdsDg hW)
  have hq : vb 4294967296 W / 1000000000 < 4294967296 ^ W.length := Nat.lt_of_le_of_lt (Nat.div_le_self _ _) lt
  have hqi : ((vb 4294967296 W / 1000000000 : Nat) : Int) < (4294967296 : Int) ^ W.length := by
    have h1 := Int.ofNat_lt.2 hq
    rw [Int.natCast_pow] at h1
    exact h1
  have eS : tpS (wU (W ++ Z)) W.length = wU (dg W.length ((vb 4294967296 W / 1000000000 : Nat) : Int) ++ Z) := by
    unfold tpS
    rw [ec, e1]
    have : (wU (W ++ Z)).drop W.length = wU Z := by unfold wU; rw [List.map_append, List.drop_left' (by simp)]
    rw [this]
    unfold wU
    rw [List.map_append]
  have hdg : wds (dg W.length ((vb 4294967296 W / 1000000000 : Nat) : Int)) := dg_wds _ _
  have htk := take_dg (m := W.length) (V := vb 4294967296 W / 1000000000) hqi
  have eT : trS (wU (W ++ Z)) W.length = (db 4294967296 (vb 4294967296 W / 1000000000)).length := by
    unfold trS
    rw [eS, cutI_wT, List.take_left' (dg_len _ _), ← htk, List.length_take, dg_len]
    have := trimN_le (dg W.length ((vb 4294967296 W / 1000000000 : Nat) : Int))
    rw [dg_len] at this
    omega
  have eD : dg W.length ((vb 4294967296 W / 1000000000 : Nat) : Int) = db 4294967296 (vb 4294967296 W / 1000000000) ++ (dg W.length ((vb 4294967296 W / 1000000000 : Nat) : Int)).drop (trimN (dg W.length ((vb 4294967296 W / 1000000000 : Nat) : Int))) := by
    conv => lhs; rw [← List.take_append_drop (trimN (dg W.length ((vb 4294967296 W / 1000000000 : Nat) : Int))) (dg W.length ((vb 4294967296 W / 1000000000 : Nat) : Int))]
    rw [htk]
  refine ⟨?_, (dg W.length ((vb 4294967296 W / 1000000000 : Nat) : Int)).drop (trimN (dg W.length ((vb 4294967296 W / 1000000000 : Nat) : Int))) ++ Z, ?_, eT, ?_, ?_⟩
  · unfold tpP
    rw [ec, ev]
    omega
  · rw [eS, ← List.append_assoc, ← eD]
  · rw [← List.append_assoc, ← eD]
    exact wds_app hdg hZ
  · rw [← List.append_assoc, ← eD]
    simp [dg_len]
end Go.Proofs.YtbjgkhbhabdjgaaDoor
