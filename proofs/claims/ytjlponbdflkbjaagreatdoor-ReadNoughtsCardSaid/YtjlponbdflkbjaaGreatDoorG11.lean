/-
  ConNF, ConNP, TxE, TxI, TxJ, TxK
-/
import Derived.Test.YtjlponbdflkbjaaGreatDoorG10
import Derived.Test.YtjlponbdflkbjaaGreatDoorG09
import Derived.Test.YtjlponbdflkbjaaGreatDoorG06
import Derived.Test.YtjlponbdflkbjaaGreatDoorG08
import Derived.Test.YtjlponbdflkbjaaGreatDoorG07
namespace Go.Proofs.YtjlponbdflkbjaaGreatDoor.Na
open Go.KRun Go.Nt
set_option maxRecDepth 100000
theorem lenN_bd {L : List Int} (hL : wds L) : 0 ≤ lenN L ∧ lenN L ≤ 262144 := by
  unfold lenN
  cases h : (L.length == 0 || badL L) with
  | true =>
    show (0 : Int) ≤ 0 ∧ (0 : Int) ≤ 262144
    omega
  | false =>
    simp only [Bool.or_eq_false_iff] at h
    have h8 := badL_len h.2
    have h0 : L.length ≠ 0 := by simpa using h.1
    have hx := hL (L.getD (L.length - 1) 0) (by
      have hk' : L.length - 1 < L.length := by omega
      simp [List.getD, List.getElem?_eq_getElem hk'])
    have := bitLen_32 hx.1 hx.2
    simp only
    omega
theorem sk_eq {K : Nat} (h : K ≤ 262144) : skI K = ((K / 32 : Nat) : Int) := by
  unfold skI
  have e : ((K : Nat) : Int).tdiv 32 = ((K / 32 : Nat) : Int) := rfl
  rw [e, wrapI (by omega) (by omega)]
theorem rm_eq (K : Nat) : rmI K = ((K % 32 : Nat) : Int) := rfl
theorem zI_eq {n K : Nat} (h : K ≤ 262144) (hn : n ≤ 8192) : zI n K = ((K / 32 + (n + 1) : Nat) : Int) := by
  unfold zI
  rw [sk_eq h, wrapI (n := ((K / 32 : Nat) : Int) + (n : Nat)) (by omega) (by omega), wrapI (by omega) (by omega)]
  omega
theorem zN_eq {n K : Nat} (h : K ≤ 262144) (hn : n ≤ 8192) : zN n K = K / 32 + (n + 1) := by unfold zN; rw [zI_eq h hn, Int.toNat_natCast]
theorem oN_eq {K : Nat} (h : K ≤ 262144) : oN K = K / 32 := by unfold oN; rw [sk_eq h, Int.toNat_natCast]; omega
theorem pN_eq {n K : Nat} (h : K ≤ 262144) (hn : n ≤ 8192) : pN n K = n + 1 := by unfold pN; rw [sk_eq h, zN_eq h hn, Int.toNat_natCast]; omega
theorem cpN_eq {n K : Nat} (h : K ≤ 262144) (hn : n ≤ 8192) : cpN n K = n := by unfold cpN; rw [pN_eq h hn]; simp
theorem cpL_eq {la : List Value} {o K : Nat} {L : List Int} (hR : Row la o L) (h : K ≤ 262144) (hn : L.length ≤ 8192) : cpL la o L.length K = wU (List.replicate (K / 32) 0 ++ (L ++ [0])) := by
  unfold cpL
  rw [cpN_eq h hn, zN_eq h hn, oN_eq h]
  have e1 : (la.drop o).take L.length = wU L := hR.cut
  rw [e1, List.drop_replicate, List.take_replicate, show K / 32 + (L.length + 1) - (K / 32 + L.length) = 1 from by omega, show min (K / 32) (K / 32 + (L.length + 1)) = K / 32 from by omega]
  unfold wU uu
  simp
theorem clOk_eq {la : List Value} {o K : Nat} {L : List Int} (hR : Row la o L) (h : K ≤ 262144) (hn : L.length ≤ 8192) : clOk la o L.length K = true := by
  unfold clOk
  rw [cpN_eq h hn, zN_eq h hn, oN_eq h]
  have e1 : (la.drop o).take L.length = wU L := hR.cut
  rw [e1, tR_tomb, tU_own]
  have h1 : Nat.ble (o + L.length) la.length = true := Nat.ble_eq_true_of_le hR.len
  have h2 : Nat.ble (K / 32 + L.length) (List.replicate (K / 32 + (L.length + 1)) (uu 0)).length = true := Nat.ble_eq_true_of_le (by rw [List.length_replicate]; omega)
  have h3 : ((wU L).all one) = true := by
    unfold wU
    rw [List.all_eq_true]
    intro v hv
    obtain ⟨x, _, rfl⟩ := List.mem_map.1 hv
    rfl
  rw [h1, h2, h3]
  rfl
theorem cutI_app (A B : List Int) : cutI (wU (A ++ B)) A.length B.length = B := by
  unfold cutI cutV wU
  rw [List.map_append, List.drop_append_of_le_length (by simp), show A.length = (A.map (Value.int .u32)).length from by simp, List.drop_length, List.nil_append, List.take_of_length_le (by simp), List.map_map]
  exact (List.map_congr_left fun x _ => rfl).trans (List.map_id' _)
theorem wds_rep (s : Nat) : wds (List.replicate s 0) := fun x hx => by rw [List.eq_of_mem_replicate hx]; omega
theorem wds_zero {L : List Int} (h : wds L) : wds (L ++ [0]) := wds_app h (fun x hx => by rw [List.mem_singleton.1 hx]; omega)
theorem upM_eq {la : List Value} {o K : Nat} {L : List Int} (hR : Row la o L) (h : K ≤ 262144) (hn : L.length ≤ 8192) : upM la o L.length K = wU (shlR L K) := by
  unfold upM upS
  rw [cpL_eq hR h hn, oN_eq h, pN_eq h hn, rm_eq, Int.toNat_natCast]
  have e1 := cutI_app (List.replicate (K / 32) 0) (L ++ [0])
  rw [List.length_replicate, List.length_append, List.length_singleton] at e1
  rw [e1, vN_snoc, Int.mul_zero, Int.add_zero, shlR_eq]
  unfold wU
  rw [List.map_append, List.map_append, List.take_append_of_le_length (by simp), List.take_of_length_le (by simp), List.map_append]
theorem rep_row {la : List Value} {o K : Nat} {L : List Int} (hR : Row la o L) (h : K ≤ 262144) (hn : L.length ≤ 8192) : rowOk tU (cpL la o L.length K) (oN K) (pN L.length K) (pN L.length K) = true := by
  rw [cpL_eq hR h hn, oN_eq h, pN_eq h hn]
  unfold rowOk
  have e1 := cutI_app (List.replicate (K / 32) 0) (L ++ [0])
  rw [show tomb tU = false from by kernel_rfl, show Nat.beq (rt tU) tU = true from by kernel_rfl, Nat.ble_eq_true_of_le (show K / 32 + (L.length + 1) ≤ (wU (List.replicate (K / 32) 0 ++ (L ++ [0]))).length by unfold wU; simp), Nat.ble_eq_true_of_le (Nat.le_refl _), show smallC (L.length + 1) = true from blt_iff.2 (by unfold dead; omega), wU_allS]
  have h3 : ((cutV (wU (List.replicate (K / 32) 0 ++ (L ++ [0]))) (K / 32) (L.length + 1)).all isU) = true := by
    rw [List.all_eq_true]
    intro v hv
    unfold cutV wU at hv
    obtain ⟨x, hx, rfl⟩ := List.mem_map.1 (List.mem_of_mem_drop (List.mem_of_mem_take hv))
    exact decide_eq_true ((wds_app (wds_rep _) (wds_zero hR.rng)) x hx)
  rw [h3]
  rfl
theorem shl_runs {la : List Value} {o n c K : Nat} (ha : rowOk tR la o n c = true) (hb : badL (cutI la o n) = false) (h0 : n ≠ 0) (hK : (K : Int) ≤ 262144 - lenN (cutI la o n)) :
    Runs (tabH Tryz.prog extY conN hcS) (cBody Tryz.f80) ([sl 0 o n c, i6' K] ++ List.replicate 45 undef, ⟨1, [(la, tR)]⟩, []) fun e y => (e = none ∨ e = some none) ∧ resS Tryz.prog Tryz.f80 y.1 y.2.1 = some (.tuple #[sl 1 0 (trimN (shlR (cutI la o n) K)) (K / 32 + (n + 1)), .nilIface]) ∧ y.2.1.blk? 1 = some (wU (shlR (cutI la o n) K), tU) := by
  obtain ⟨a1, a2, a3, a4, a5, a6, a7⟩ := row_of ha
  have h8 := badL_len hb
  have hl := lenN_bd a1.rng
  have g0 := shl_good o n c K la
  have lI : lnI la o n = 262144 - lenN (cutI la o n) := by unfold lnI; rw [wrapI (by omega) (by omega)]
  rw [lI] at g0
  generalize hL : cutI la o n = L at *
  subst a2
  have hK2 : K ≤ 262144 := by omega
  rw [upM_eq a1 hK2 h8] at g0
  have ez := zN_eq (n := L.length) hK2 h8
  have esm : smallC (zN L.length K) = true := blt_iff.2 (by rw [ez]; unfold dead; omega)
  have r1 := wU_row (dg_wds (K / 32 + (L.length + 1)) (vN L * 2 ^ K)) (c := zN L.length K) (by rw [dg_len, ez]; exact Nat.le_refl _) esm
  rw [dg_len, ← ez] at r1
  have r2 : rowOk tU (wU (shlR L K)) 0 (zN L.length K) (zN L.length K) = true := by unfold shlR; rw [← ez]; exact r1.1
  have r3 : cutI (wU (shlR L K)) 0 (zN L.length K) = shlR L K := by unfold shlR; rw [← ez]; exact r1.2
  have part : okPart (skI K) (zN L.length K) (zN L.length K) (zN L.length K) = true := by unfold okPart; rw [sk_eq hK2, ez]; exact decide_eq_true (by omega)
  have part2 : decide (((zN L.length K : Nat) : Int) = skI K ∧ skI K ≠ 0) = false := by rw [sk_eq hK2, ez]; exact decide_eq_false (by omega)
  have mk : okMakeB 4 (zI L.length K) (zI L.length K) = true := by unfold okMakeB; rw [zI_eq hK2 h8]; exact decide_eq_true (by omega)
  have len : Nat.beq (oN K + pN L.length K) (cpL la o L.length K).length = true := by
    rw [cpL_eq a1 hK2 h8, oN_eq hK2, pN_eq hK2 h8]
    unfold wU
    simp
  have calm : la.all still = true := List.all_eq_true.2 a7
  have d1 : decide (0 ≤ rmI K ∧ rmI K < 32) = true := by rw [rm_eq]; exact decide_eq_true (by omega)
  have d2 : decide ((K : Int) > 262144 - lenN L) = false := decide_eq_false (by omega)
  have d3 : ((L.length : Int) == 0) = false := by simpa using h0
  have d4 : decide ((K : Int) < 0) = false := decide_eq_false (by omega)
  refine (goesT_runs (tabH_ok conN_ok hcS_ok) g0 (okTwo r2 (okTwo (by kernel_rfl) (okTwo (by kernel_rfl) (okTwo (rep_row a1 hK2 h8) (okTwo len (okTwo calm (okTwo d1
    (okTwo esm (okTwo part (okTwo part2 (okTwo (clOk_eq a1 hK2 h8) (okTwo esm (okTwo part (okTwo part2 (okTwo mk (okTwo d2 (okTwo ha (okTwo d3 (okTwo d4 (okTwo ha (okOne hb)))))))))))))))))))))).mono fun e y he => ?_
  obtain ⟨rfl, ⟨g, e2⟩, e3⟩ := he
  refine ⟨.inr rfl, ?_, ?_⟩
  · rw [e2, e3, r3, ez]
    rfl
  · rw [e3]
    rfl
theorem shl_row {la : List Value} {o n c : Nat} {k : Int} {r e : Value} {cs : Log} {s : List Dec} (g0 : GoesT (evC (tabH Tryz.prog extY conN hcS) 200 false (cBody Tryz.f80) ([sl 0 o n c, i6' k] ++ List.replicate 45 undef, ⟨1, [(la, tR)]⟩, s) ⟨[], [], []⟩) 6 41 (some none) (fS o n c k r e) ⟨1, [(la, tR)]⟩ cs) (hcs : okLog cs)
    (hres : ∀ g, resS Tryz.prog Tryz.f80 (fS o n c k r e ++ tl 41 g) ⟨1, [(la, tR)]⟩ = some (.tuple #[r, e])) :
    Runs (tabH Tryz.prog extY conN hcS) (cBody Tryz.f80) ([sl 0 o n c, i6' k] ++ List.replicate 45 undef, ⟨1, [(la, tR)]⟩, []) fun e' y => (e' = none ∨ e' = some none) ∧ resS Tryz.prog Tryz.f80 y.1 y.2.1 = some (.tuple #[r, e]) := by
  refine (goesT_runs (tabH_ok conN_ok hcS_ok) g0 hcs).mono fun e' y he => ?_
  obtain ⟨rfl, ⟨g, e2⟩, e3⟩ := he
  refine ⟨.inr rfl, ?_⟩
  rw [e2, e3]
  exact hres g
def gShl : AnsH := fun vals h s =>
  match vals with
  | [.slice (some ⟨b, o, none⟩) n c, .int .i64 k] =>
    match h.blk? b, s with
    | some x, .inr (.inr (.inr (.inl true))) :: s' => some (.tuple #[nilS, errV 1], h, s', [(rowOk x.2 x.1 o n c, true), (badL (cutI x.1 o n) || decide (k < 0), true)])
    | some x, .inr (.inr (.inr (.inl false))) :: .inr (.inr (.inr (.inl true))) :: s' => some (.tuple #[nilS, .nilIface], h, s', [(rowOk x.2 x.1 o n c, true), (badL (cutI x.1 o n) || decide (k < 0), false), (decide (n = 0), true)])
    | some x, .inr (.inr (.inr (.inl false))) :: .inr (.inr (.inr (.inl false))) :: .inr (.inr (.inr (.inl true))) :: s' => some (.tuple #[nilS, errV 2], h, s', [(rowOk x.2 x.1 o n c, true), (badL (cutI x.1 o n) || decide (k < 0), false), (decide (n = 0), false), (decide (k > 262144 - lenN (cutI x.1 o n)), true)])
    | some x, .inr (.inr (.inr (.inl false))) :: .inr (.inr (.inr (.inl false))) :: .inr (.inr (.inr (.inl false))) :: s' => some (.tuple #[sl h.n 0 (trimN (shlR (cutI x.1 o n) k.toNat)) (k.toNat / 32 + (n + 1)), .nilIface], h.push (wU (shlR (cutI x.1 o n) k.toNat)) tU, s', [(rowOk x.2 x.1 o n c, true), (badL (cutI x.1 o n) || decide (k < 0), false), (decide (n = 0), false), (decide (k > 262144 - lenN (cutI x.1 o n)), false)])
    | _, _ => none
  | _ => none
theorem gShl_ok : AnsHOk 80 gShl := by
  intro vals h s v h' s' lg hg hl m B w E hv
  unfold gShl at hg
  split at hg
  · rename_i b o n c k
    have one1 : ∀ x : List Value × TypeId, h.blk? b = some x → rowOk x.2 x.1 o n c = true → ∀ v0 : Value, oc (List.range 1) v0 = true → rn (fun _ => b) v0 = v0 →
        Runs (tabH Tryz.prog extY conN hcS) (cBody Tryz.f80) ([sl 0 o n c, i6' k] ++ List.replicate 45 undef, ⟨1, [(x.1, tR)]⟩, []) (fun e y => (e = none ∨ e = some none) ∧ resS Tryz.prog Tryz.f80 y.1 y.2.1 = some v0) →
        Calls Tryz.prog 80 (([.slice (some ⟨b, o, none⟩) n c, .int .i64 k] : List Value).map (mv m)).toArray w fun e w' => ∃ m', e = .returned (mv m' v0) ∧ Came m B h w v0 h m' w' := by
      intro x hx ra v0 ho e0 r
      obtain ⟨a1, a2, a3, a4, a5, a6, a7⟩ := row_of ra
      have hlt := Hp.blk_lt hx
      have := row_calls (T := tabH Tryz.prog extY conN hcS) Tryz.func80 shl_body (rows1 a7) (vals := [sl 0 o n c, i6' k]) (fun v hv => by
        simp only [List.mem_cons, List.not_mem_nil, or_false] at hv
        rcases hv with rfl | rfl <;> rfl) ho r E (s := fun _ => b) (fun i _ => hlt) (fitsR1 hx a5 a6 rfl)
      rw [e0] at this
      exact this.mono fun e w' he => ⟨m, he.1, he.2⟩
    split at hg
    · rename_i x s2 hx
      cases hg
      have ra := hl _ (List.mem_cons_self)
      have hd := hl _ (List.mem_cons_of_mem _ (List.mem_singleton.2 rfl))
      simp only at hd
      refine one1 x hx ra _ (by rfl) (rn_still (by rfl)) ?_
      cases hb : badL (cutI x.1 o n) with
      | true => exact shl_row (shl_bad o n c k x.1) (okTwo (rowOk_R ra) (okOne hb)) (fun _ => rfl)
      | false =>
        rw [hb, Bool.false_or] at hd
        exact shl_row (shl_neg o n c k x.1) (okTwo hd (okTwo (rowOk_R ra) (okOne hb))) (fun _ => rfl)
    · rename_i x s2 hx
      cases hg
      have ra := hl _ (List.mem_cons_self)
      have hd := hl _ (List.mem_cons_of_mem _ List.mem_cons_self)
      have h0 := of_decide_eq_true (hl _ (List.mem_cons_of_mem _ (List.mem_cons_of_mem _ (List.mem_singleton.2 rfl))))
      simp only [Bool.or_eq_false_iff] at hd
      have d3 : ((n : Int) == 0) = true := by rw [h0]; rfl
      exact one1 x hx ra _ (by rfl) (rn_still (by rfl)) (shl_row (shl_nil o n c k x.1) (okTwo d3 (okTwo hd.2 (okTwo (rowOk_R ra) (okOne hd.1)))) (fun _ => rfl))
    · rename_i x s2 hx
      cases hg
      have ra := hl _ (List.mem_cons_self)
      have hd := hl _ (List.mem_cons_of_mem _ List.mem_cons_self)
      have h0 := of_decide_eq_false (hl _ (List.mem_cons_of_mem _ (List.mem_cons_of_mem _ List.mem_cons_self)))
      have hk := hl _ (List.mem_cons_of_mem _ (List.mem_cons_of_mem _ (List.mem_cons_of_mem _ (List.mem_singleton.2 rfl))))
      simp only [Bool.or_eq_false_iff] at hd
      have d3 : ((n : Int) == 0) = false := by simpa using h0
      obtain ⟨a1, a2, a3, a4, a5, a6, a7⟩ := row_of ra
      have hle := lenN_bd a1.rng
      have lI : lnI x.1 o n = 262144 - lenN (cutI x.1 o n) := by unfold lnI; rw [wrapI (by omega) (by omega)]
      have g0 := shl_long o n c k x.1
      rw [lI] at g0
      exact one1 x hx ra _ (by rfl) (rn_still (by rfl)) (shl_row g0 (okTwo hk (okTwo (rowOk_R ra) (okTwo d3 (okTwo hd.2 (okTwo (rowOk_R ra) (okOne hd.1)))))) (fun _ => rfl))
    · rename_i x s2 hx
      cases hg
      have ra := hl _ (List.mem_cons_self)
      have hd := hl _ (List.mem_cons_of_mem _ List.mem_cons_self)
      have h0 := of_decide_eq_false (hl _ (List.mem_cons_of_mem _ (List.mem_cons_of_mem _ List.mem_cons_self)))
      have hk := of_decide_eq_false (hl _ (List.mem_cons_of_mem _ (List.mem_cons_of_mem _ (List.mem_cons_of_mem _ (List.mem_singleton.2 rfl)))))
      simp only [Bool.or_eq_false_iff] at hd
      have hk0 := of_decide_eq_false hd.2
      obtain ⟨K, rfl⟩ := Int.eq_ofNat_of_zero_le (show 0 ≤ k by omega)
      rw [Int.toNat_natCast]
      obtain ⟨a1, a2, a3, a4, a5, a6, a7⟩ := row_of ra
      have r := shl_runs (K := K) (rowOk_R ra) hd.1 h0 (by omega)
      have e1 : ∀ j M : Nat, rn (fun _ => h.n) (.tuple #[sl 1 0 j M, .nilIface]) = .tuple #[sl h.n 0 j M, .nilIface] := fun j M => by simp [rn, rn2, rn1, sl]
      have := row_calls1 (T := tabH Tryz.prog extY conN hcS) Tryz.func80 shl_body (rows1 a7) (vals := [sl 0 o n c, i6' K]) (fun v hv => by
        simp only [List.mem_cons, List.not_mem_nil, or_false] at hv
        rcases hv with rfl | rfl <;> rfl) (k := 1) (wU_calm _) tU_own (r.w.mono fun e y h => ⟨h.1, h.2.1, [], by rw [List.append_nil]; exact h.2.2⟩) (by rfl) E (s := fun _ => b) (fitsR1 hx a5 a6 rfl)
      rw [e1] at this
      exact this
    · cases hg
  · cases hg
end Go.Proofs.YtjlponbdflkbjaaGreatDoor.Na
namespace Go.Proofs.YtjlponbdflkbjaaGreatDoor.Na
open Go.KRun Go.Nt
set_option maxRecDepth 100000
set_option linter.unusedVariables false
def mulR (L M : List Int) : List Int := dg (L.length + M.length) (vN L * vN M)
theorem wU_rowAt {L : List Int} (h : wds L) {o n c : Nat} (hl : o + n ≤ L.length) (hc : n ≤ c) (h2 : smallC c = true) : rowOk tU (wU L) o n c = true := by
  unfold rowOk
  have h3 : ((cutV (wU L) o n).all isU) = true := by
    rw [List.all_eq_true]
    intro v hv
    unfold cutV wU at hv
    obtain ⟨x, hx, rfl⟩ := List.mem_map.1 (List.mem_of_mem_drop (List.mem_of_mem_take hv))
    exact decide_eq_true (h x hx)
  rw [show tomb tU = false from by kernel_rfl, show Nat.beq (rt tU) tU = true from by kernel_rfl, Nat.ble_eq_true_of_le (show o + n ≤ (wU L).length by rw [wU_len]; exact hl), Nat.ble_eq_true_of_le hc, h2, h3, wU_allS]
  rfl
theorem cut_mid (D M R : List Int) : cutI (wU (D ++ (M ++ R))) D.length M.length = M := by
  unfold cutI cutV wU
  rw [List.map_append, List.map_append, List.drop_left' (by simp), List.take_left' (by simp), List.map_map]
  exact (List.map_congr_left fun x _ => rfl).trans (List.map_id' _)
theorem tmS_mid (D M R L : List Int) : tmS (wU (D ++ (M ++ R))) D.length M.length L = wU (D ++ (L ++ R)) := by
  have e1 : (wU (D ++ (M ++ R))).take D.length = wU D := by
    unfold wU
    rw [List.map_append]
    exact List.take_left' (by simp)
  have e2 : (wU (D ++ (M ++ R))).drop (D.length + M.length) = wU R := by
    unfold wU
    rw [← List.append_assoc, List.map_append]
    exact List.drop_left' (by simp)
  unfold tmS
  rw [e1, e2]
  unfold wU
  rw [List.map_append, List.map_append]
theorem set_mid (D L : List Int) (z c : Int) (R : List Int) : (wU (D ++ (L ++ z :: R))).set (D.length + L.length) (uu c) = wU (D ++ ((L ++ [c]) ++ R)) := by
  rw [← List.append_assoc, show D.length + L.length = (D ++ L).length from by simp, wU_set]
  simp
theorem pd_runs {la lb : List Value} {o c o' c' : Nat} {LA LB : List Int} (RA : Row la o LA) (RB : Row lb o' LB) (sa : ∀ v ∈ la, still v = true) (hrb : rowOk tR lb o' LB.length c' = true) (ha : 0 < LA.length) (hb : 0 < LB.length) (h8 : LA.length + LB.length ≤ 8192) :
    Runs (tabH Tryz.prog extY conN hcM) (seqs (pdP Tryz.f115) (.seq (.seq (cFst (cFst (sn 4 Tryz.f115))) (.block 0 (.loop (pdL Tryz.f115)))) (cSnd (sn 4 Tryz.f115)))) ([sl 0 o LA.length c, sl 1 o' LB.length c'] ++ List.replicate 57 undef, h2 la lb, []) fun e y => (e = none ∨ e = some none) ∧ resS Tryz.prog Tryz.f115 y.1 y.2.1 = some (.tuple #[sl 2 0 (trimN (mulR LA LB)) (LA.length + LB.length), .nilIface]) ∧ y.2.1.blk? 2 = some (wU (mulR LA LB), tU) := by
  have hT := tabH_ok conN_ok hcM_ok
  have eZ : pZ LA.length LB.length = ((LA.length + LB.length : Nat) : Int) := by
    unfold pZ
    rw [wrapI (by omega) (by omega)]
    omega
  have g0 := pd_pre o LA.length c o' LB.length c' la lb
  rw [eZ, Int.toNat_natCast] at g0
  have esm : ∀ q : Nat, q ≤ 8192 → smallC q = true := fun q hq => blt_iff.2 (by unfold dead; omega)
  have bA := RA.rng
  have bB := vN_bd LB RB.rng
  have erep : List.replicate (LA.length + LB.length) (uu 0) = wU ([] ++ (List.replicate LB.length 0 ++ List.replicate LA.length 0)) := by
    unfold wU uu
    rw [Nat.add_comm]
    simp [List.replicate_append_replicate]
  rw [erep] at g0
  refine goesT_list hT g0 (okTwo (by unfold okMakeB; exact decide_eq_true (by omega)) (okTwo (by rw [wrapI (by omega) (by omega)]; exact decide_eq_false (by omega)) (okTwo (by simpa using (show LB.length ≠ 0 by omega)) (okOne (by simpa using (show LA.length ≠ 0 by omega)))))) fun g => ?_
  refine Runs.seq (P1 := fun e' y => e' = none ∧ ∃ (D M : List Int) (v7 v8 u1 u2 u3 : Value) (g g' : Nat → Value), y.1 = ml (pdF o LA.length c o' LB.length c' (LA.length + LB.length) v7 v8) 22 g [u1, u2, u3] 25 g' ∧ D.length = LA.length ∧ M.length = LB.length ∧ wds D ∧ wds M ∧ vN D + 4294967296 ^ D.length * vN M = vN LA * vN LB ∧ y.2.1 = h3 la lb (wU (D ++ (M ++ [])))) ?_ ?_ (fun e y he => by cases he.1)
  · refine Runs.seq (P1 := fun e' y => e' = none ∧ (∃ g g', y.1 = ml (pdF o LA.length c o' LB.length c' (LA.length + LB.length) undef undef) 22 g [sl 0 o LA.length c, i6' LA.length, i6' 0] 25 g') ∧ y.2.1 = h3 la lb (wU ([] ++ (List.replicate LB.length 0 ++ List.replicate LA.length 0)))) (goesM_runs hT (pd_r o LA.length c o' LB.length c' (LA.length + LB.length) undef undef la lb _ g) (fun x hx => by cases hx)) ?_ (fun e y he => by cases he.1)
    rintro ⟨t, h', s'⟩ ⟨_, ⟨g1, g2, ht⟩, hh⟩
    simp only at ht hh
    subst ht hh
    refine (Runs.forLoop (R := fun _ => False) (P := fun y => ∃ (D M : List Int) (v7 v8 u1 u2 u3 : Value) (g g' : Nat → Value), y.1 = ml (pdF o LA.length c o' LB.length c' (LA.length + LB.length) v7 v8) 22 g [u1, u2, u3] 25 g' ∧ D.length = LA.length ∧ M.length = LB.length ∧ wds D ∧ wds M ∧ vN D + 4294967296 ^ D.length * vN M = vN LA * vN LB ∧ y.2.1 = h3 la lb (wU (D ++ (M ++ []))))
      (fun r y => ∃ (D M : List Int) (v7 v8 : Value) (g g' : Nat → Value), D.length + r = LA.length ∧ M.length = LB.length ∧ wds D ∧ wds M ∧ vN D + 4294967296 ^ D.length * vN M = vN (LA.take D.length) * vN LB ∧ y.1 = ml (pdF o LA.length c o' LB.length c' (LA.length + LB.length) v7 v8) 22 g [sl 0 o LA.length c, i6' LA.length, i6' D.length] 25 g' ∧ y.2.1 = h3 la lb (wU (D ++ (M ++ List.replicate r 0))))
      ?_ (n := LA.length) ⟨[], List.replicate LB.length 0, undef, undef, g1, g2, by simp, by simp, (fun x hx => by cases hx), wds_rep _, ?_, rfl, rfl⟩).mono fun e' y he => ?_
    · rintro r ⟨t, h', s'⟩ ⟨D, M, v7, v8, g, g', hr, hM, w1, w2, hv, ht, hh⟩
      simp only at ht hh
      subst ht hh
      cases r with
      | zero =>
        have ek : D.length = LA.length := by omega
        refine (goesM_runs hT (pd_out o LA.length c o' LB.length c' (LA.length + LB.length) D.length v7 v8 la lb _ g g') (okOne (decide_eq_false (by omega)))).mono fun e' y he => ?_
        obtain ⟨rfl, ⟨g1, g2, e2⟩, e3⟩ := he
        rw [ek, List.take_length] at hv
        rw [← ek] at hv
        exact ⟨rfl, D, M, v7, v8, _, _, _, g1, g2, e2, ek, hM, w1, w2, hv, e3⟩
      | succ r =>
        have hk : D.length < LA.length := by omega
        have cA := RA.cell hk
        have hx := bA (LA.getD D.length 0) (by simp [List.getD, List.getElem?_eq_getElem hk])
        have et := take_succ hk
        generalize LA.getD D.length 0 = x at *
        have eJ : pJ D.length = D.length := by unfold pJ; omega
        have eK : pK D.length LB.length = ((D.length + LB.length : Nat) : Int) := by unfold pK; rw [wrapI (by omega) (by omega)]; omega
        have eL : pLn D.length LB.length = M.length := by unfold pLn; rw [eK]; omega
        have ecB : cutI lb o' LB.length = LB := by
          unfold cutI
          rw [RB.cut]
          unfold wU
          rw [List.map_map]
          exact (List.map_congr_left fun x _ => rfl).trans (List.map_id' _)
        have ecM : cutI (wU (D ++ (M ++ List.replicate (r + 1) 0))) (pJ D.length) (pLn D.length LB.length) = M := by rw [eJ, eL]; exact cut_mid _ _ _
        have ePS : pS (wU (D ++ (M ++ List.replicate (r + 1) 0))) lb o' LB.length D.length x = wU (D ++ (tmR M LB x ++ List.replicate (r + 1) 0)) := by
          unfold pS
          rw [ecM, ecB, eJ, eL]
          exact tmS_mid _ _ _ _
        have ePC : pC (wU (D ++ (M ++ List.replicate (r + 1) 0))) lb o' LB.length D.length x = tmC M LB x := by
          unfold pC
          rw [ecM, ecB]
        have lR : (tmR M LB x).length = M.length := by unfold tmR; rw [dg_len]
        have bM := vN_bd M w2
        rw [hM] at bM
        have bT := tm_bd bM bB hx
        rw [← hM] at bT
        obtain ⟨y, m, e1, e2, w3, w4, e5⟩ := tm_split bT
        have eW : tmR M LB x ++ [tmC M LB x] = y :: m := e1
        have g1 := pd_go o LA.length c o' LB.length c' (LA.length + LB.length) D.length x v7 v8 la lb (wU (D ++ (M ++ List.replicate (r + 1) 0))) g g'
        rw [ePS, ePC, eK, eJ, eL, Int.toNat_natCast, Int.toNat_natCast, Nat.zero_add, Nat.mul_one] at g1
        have hall : wds (D ++ (M ++ List.replicate (r + 1) 0)) := wds_app w1 (wds_app w2 (wds_rep _))
        have l1 : decide (D.length + LB.length < (wU (D ++ (tmR M LB x ++ List.replicate (r + 1) 0))).length) = true := decide_eq_true (by rw [wU_len]; simp [lR]; omega)
        have l2 : (inR ((D.length + LB.length : Nat) : Int) (LA.length + LB.length)).1 = (inR ((D.length + LB.length : Nat) : Int) (LA.length + LB.length)).2 := decide_eq_true (by omega)
        have l3 : okTm (wU (D ++ (M ++ List.replicate (r + 1) 0))) lb la tU tR tR D.length M.length (LA.length + LB.length - D.length) o' LB.length c' x = true := by
          unfold okTm
          rw [wU_rowAt hall (by simp) (by omega) (esm _ (by omega)), hrb, List.all_eq_true.2 sa, blt_iff.2 (show M.length < 1099511627776 by omega), decide_eq_true hx, hM]
          simp
        have l5 : okPart D.length ((D.length + LB.length : Nat) : Int) ((LA.length + LB.length : Nat) : Int) ((LA.length + LB.length : Nat) : Int) = true := by unfold okPart; exact decide_eq_true (by omega)
        have l6 : decide (((LA.length + LB.length : Nat) : Int) = (D.length : Int) ∧ (D.length : Int) ≠ 0) = false := decide_eq_false (by omega)
        have l7 : (inR D.length LA.length).1 = (inR D.length LA.length).2 := decide_eq_true (by omega)
        refine (goesM_runs hT g1 (okTwo l1 (okTwo l2 (okTwo l3 (okTwo (esm _ (by omega)) (okTwo l5 (okTwo l6 (okTwo (cel_ok cA) (okTwo l7 (okOne (decide_eq_true (by omega)))))))))))).mono fun e' Y he => ?_
        obtain ⟨rfl, ⟨g2, g3, f2⟩, f3⟩ := he
        refine ⟨r, by omega, D ++ [y], m, i6' D.length, uu x, g2, g3, by simp; omega, by omega, wds_app w1 w3, w4, ?_, ?_, ?_⟩
        · rw [vN_snoc, List.length_append, List.length_singleton, pw, et, vN_snoc, List.length_take, Nat.min_eq_left (by omega)]
          exact pd_step e5 hv
        · rw [f2, wrapI (by omega) (by omega)]
          simp
        · rw [f3, List.replicate_succ, ← hM, ← lR, set_mid, eW]
          simp
    · simp only [List.length_nil, List.take_zero]
      have : vN (List.replicate LB.length 0) = 0 := vN_rep _
      rw [this]
      simp [vN]
    · match e', he with
      | none, he => exact ⟨rfl, he⟩
      | some none, he => exact he.elim
      | some (some _), he => exact he.elim
  · rintro ⟨t, h', s'⟩ ⟨_, D, M, v7, v8, u1, u2, u3, g, g', ht, hD, hM, w1, w2, hv, hh⟩
    simp only at ht hh
    subst ht hh
    have hw : wds (D ++ M) := wds_app w1 w2
    have hl : (D ++ M).length = LA.length + LB.length := by simp; omega
    have ew : D ++ M = mulR LA LB := by
      have := dg_vN (D ++ M) hw
      rw [vN_app, hv, hl] at this
      exact this.symm
    have hr := wU_row hw (c := LA.length + LB.length) (by omega) (esm _ h8)
    rw [hl] at hr
    have htr := trimN_le (D ++ M)
    have g1 := pd_end o LA.length c o' LB.length c' (LA.length + LB.length) v7 v8 u1 u2 u3 la lb (wU (D ++ M)) g g'
    rw [hr.2] at g1
    rw [List.append_nil]
    refine (goesT_runs hT g1 (okTwo (decide_eq_false (by omega)) (okOne hr.1))).mono fun e' y he => ?_
    obtain ⟨rfl, ⟨g1, e2⟩, e3⟩ := he
    refine ⟨.inr rfl, ?_, ?_⟩
    · rw [e2, e3, ew]
      rfl
    · rw [e3, ew]
      rfl
def gPdU : AnsH := fun vals h s =>
  match vals, s with
  | [.slice p n c, .slice q n' c'], .inr (.inr (.inr (.inl true))) :: s' => some (.tuple #[nilS, .nilIface], h, s', [(decide (n = 0 ∨ n' = 0), true)])
  | [.slice p n c, .slice q n' c'], .inr (.inr (.inr (.inl false))) :: s' => some (.tuple #[sl h.n 0 (trimN (mulR (rowOf h p n) (rowOf h q n'))) (n + n'), .nilIface], h.push (wU (mulR (rowOf h p n) (rowOf h q n'))) tU, s', [(rowX h p n c, true), (rowX h q n' c', true), (!decide (n = 0 ∨ n' = 0) && Nat.ble (n + n') 8192, true)])
  | _, _ => none
theorem gPdU_ok : AnsHOk 115 gPdU := by
  intro vals h s v h' s' lg hg hl m B w E hv
  unfold gPdU at hg
  split at hg
  · rename_i p n c q n' c' s2
    cases hg
    have l1 := of_decide_eq_true (hl _ (List.mem_singleton.2 rfl))
    by_cases h0 : n = 0
    · have r := goesT_runs (s0 := []) (tabH_ok conN_ok hcM_ok) (pd_n1 p q n c n' c' h) (okOne (by simp [h0]))
      exact hcalls_keep (T := tabH Tryz.prog extY conN hcM) Tryz.func115 pd_cbody (vals := [.slice p n c, .slice q n' c']) (v := .tuple #[nilS, .nilIface]) (h := h) (by rfl) (r.mono fun e y he => by
        obtain ⟨rfl, ⟨g, e1⟩, e2⟩ := he
        exact ⟨.inr rfl, by rw [e1, e2]; rfl, e2⟩) m B w E hv
    · have h1 : n' = 0 := l1.resolve_left h0
      have r := goesT_runs (s0 := []) (tabH_ok conN_ok hcM_ok) (pd_n2 p q n c n' c' h) (okTwo (by simp [h1]) (okOne (by simpa using h0)))
      exact hcalls_keep (T := tabH Tryz.prog extY conN hcM) Tryz.func115 pd_cbody (vals := [.slice p n c, .slice q n' c']) (v := .tuple #[nilS, .nilIface]) (h := h) (by rfl) (r.mono fun e y he => by
        obtain ⟨rfl, ⟨g, e1⟩, e2⟩ := he
        exact ⟨.inr rfl, by rw [e1, e2]; rfl, e2⟩) m B w E hv
  · rename_i p n c q n' c' s2
    cases hg
    obtain ⟨l1, l2, l3⟩ := log3 hl
    simp only [Bool.and_eq_true, Bool.not_eq_true', decide_eq_false_iff_not] at l1 l2 l3
    obtain ⟨l3, l4⟩ := l3
    have l4 := Nat.le_of_ble_eq_true l4
    rcases rowX_cases l1 with ⟨_, h0, _⟩ | ⟨b, o, x, rfl, hx, r1, e0⟩
    · omega
    rcases rowX_cases l2 with ⟨_, h0, _⟩ | ⟨b', o', y, rfl, hy, t1, f0⟩
    · omega
    rw [e0, f0]
    obtain ⟨a1, a2, a3, a4, a5, a6, a7⟩ := row_of r1
    obtain ⟨b1, b2, b3, b4, b5, b6, b7⟩ := row_of t1
    have r := pd_runs (c := c) (c' := c') a1 b1 a7 (by rw [b2]; exact rowOk_R t1) (by omega) (by omega) (by omega)
    rw [a2, b2] at r
    have e1 : ∀ k M : Nat, rn (fun _ => h.n) (.tuple #[sl 2 0 k M, .nilIface]) = .tuple #[sl h.n 0 k M, .nilIface] := fun k M => by simp [rn, rn2, rn1, sl]
    have := row_calls1 (T := tabH Tryz.prog extY conN hcM) Tryz.func115 pd_body (rows2 a7 b7) (vals := [sl 0 o n c, sl 1 o' n' c']) (fun v hv => by
      simp only [List.mem_cons, List.not_mem_nil, or_false] at hv
      rcases hv with rfl | rfl <;> rfl) (k := 2) (wU_calm _) tU_own (r.w.mono fun e y h => ⟨h.1, h.2.1, [], by rw [List.append_nil]; exact h.2.2⟩) (by rfl) E (s := pair b b') (fitsR2 hx a5 a6 hy b5 b6)
    rw [e1] at this
    exact this
  · cases hg
end Go.Proofs.YtjlponbdflkbjaaGreatDoor.Na
namespace Go.Proofs.YtjlponbdflkbjaaGreatDoor.Na
open Go.KRun Go.Nt
set_option maxRecDepth 100000
theorem wds_db (V : Nat) : wds (db 4294967296 V) := fun x hx => by
  have := db_dg (b := 4294967296) (by omega) V x hx
  exact ⟨this.1, by have := this.2; omega⟩
def uP (F : Func) : List Code := [cFst (cBody F), cFst (cSnd (cBody F))]
def uC2 (F : Func) : Code := cSnd (cSnd (cBody F))
def uR2 (F : Func) : Code := cFst (cFst (uC2 F))
def uL1 (F : Func) : Code := cIn (cIn (cSnd (cFst (uC2 F))))
def uR7 (F : Func) : Code := cFst (cFst (cSnd (uC2 F)))
def uL2 (F : Func) : Code := cIn (cIn (cSnd (cFst (cSnd (uC2 F)))))
def uE (F : Func) : Code := cSnd (cSnd (uC2 F))
theorem up_body9 : Tryz.f111.body = some (seqs (uP Tryz.f111) (.seq (.seq (uR2 Tryz.f111) (.block 0 (.loop (uL1 Tryz.f111)))) (.seq (.seq (uR7 Tryz.f111) (.block 2 (.loop (uL2 Tryz.f111)))) (uE Tryz.f111)))) := by kernel_rfl
def hW1 (S : List Value) : Hp := ⟨1, [(S, tU)]⟩
def u1F (w : Value) (s : ByteArray) (c : Int) (i : Value) (k : Int) : List Value := [w, .string s, undef, undef, nilS, .int .u64 c, i, undef, undef, .string s, .int .i64 s.size, .int .i64 k]
def upC (c b : Int) : Int := IntKind.u64.wrap (IntKind.u64.wrap (c * 10) + IntKind.u64.wrap (IntKind.u8.wrap (b - 48)))
theorem u_pre (w : Value) (s : ByteArray) (h : Hp) : GoesT (evL (tabOf Tryz.prog extY conN true) 100 (uP Tryz.f111) ([w, .string s] ++ List.replicate 49 undef, h, []) ⟨[], [], []⟩) 9 42 none [w, .string s, undef, undef, nilS, .int .u64 0, undef, undef, undef] h [] := ⟨by kernel_rfl, by kernel_rfl, by kernel_rfl⟩
theorem u_r2 (w : Value) (s : ByteArray) (h : Hp) (g : Nat → Value) : GoesT (evC (tabOf Tryz.prog extY conN true) 100 false (uR2 Tryz.f111) ([w, .string s, undef, undef, nilS, .int .u64 0, undef, undef, undef] ++ tl 42 g, h, []) ⟨[], [], []⟩) 12 39 none (u1F w s 0 undef 0) h [] := ⟨by kernel_rfl, by kernel_rfl, by kernel_rfl⟩
theorem u_o1 (w : Value) (s : ByteArray) (c : Int) (i : Value) (k : Int) (h : Hp) (g : Nat → Value) : GoesT (evC (tabOf Tryz.prog extY conN true) 100 false (uL1 Tryz.f111) (u1F w s c i k ++ tl 39 g, h, [cmp false]) ⟨[], [], []⟩) 12 39 (some (some 0)) (u1F w s c i k) h [(decide (k < s.size), false)] := ⟨by kernel_rfl, by kernel_rfl, by kernel_rfl⟩
theorem u_g1 (w : Value) (s : ByteArray) (c : Int) (i : Value) (k : Int) (h : Hp) (g : Nat → Value) : GoesT (evC (tabOf Tryz.prog extY conN true) 100 false (uL1 Tryz.f111) (u1F w s c i k ++ tl 39 g, h, [cmp true]) ⟨[], [], []⟩) 12 39 none (u1F w s (upC c ((s.data.toList.getD k.toNat 0).toNat : Nat)) (.int .i64 k) (IntKind.i64.wrap (k + 1))) h [(decide (0 ≤ k ∧ k.toNat < s.data.toList.length), true), (decide (k < s.size), true)] := ⟨by kernel_rfl, by kernel_rfl, by kernel_rfl⟩
def u2A (w : Value) (s : ByteArray) (c : Int) (i v x : Value) : List Value := [w, .string s, undef, undef, nilS, .int .u64 c, i, v, x]
def u2M (w : Value) (n : Nat) (j : Int) : List Value := [w, .int .i64 n, .int .i64 j]
theorem u_r7 (n C : Nat) (s : ByteArray) (c : Int) (i : Value) (k : Int) (h : Hp) (g : Nat → Value) : GoesM (evC (tabOf Tryz.prog extY conN true) 100 false (uR7 Tryz.f111) (u1F (sl 0 0 n C) s c i k ++ tl 39 g, h, []) ⟨[], [], []⟩) 9 14 3 25 none (u2A (sl 0 0 n C) s c i undef undef) (u2M (sl 0 0 n C) n 0) h [] := ⟨by kernel_rfl, by kernel_rfl, by kernel_rfl⟩
theorem u_o2 (n C : Nat) (s : ByteArray) (c : Int) (i v x : Value) (j : Int) (h : Hp) (g g' : Nat → Value) : GoesM (evC (tabOf Tryz.prog extY conN true) 100 false (uL2 Tryz.f111) (ml (u2A (sl 0 0 n C) s c i v x) 14 g (u2M (sl 0 0 n C) n j) 25 g', h, [cmp false]) ⟨[], [], []⟩) 9 14 3 25 (some (some 2)) (u2A (sl 0 0 n C) s c i v x) (u2M (sl 0 0 n C) n j) h [(decide (j < n), false)] := ⟨by kernel_rfl, by kernel_rfl, by kernel_rfl⟩
def upT9 (c x : Int) : Int := IntKind.u64.wrap (c + IntKind.u64.wrap (IntKind.u64.wrap x * 1000000000))
theorem u_g2 (n C : Nat) (s : ByteArray) (c : Int) (i v x0 : Value) (j x : Int) (S : List Value) (g g' : Nat → Value) : GoesM (evC (tabOf Tryz.prog extY conN true) 100 false (uL2 Tryz.f111) (ml (u2A (sl 0 0 n C) s c i v x0) 14 g (u2M (sl 0 0 n C) n j) 25 g', hW1 S, [cmp true, at_, val (uu x), at_, at_]) ⟨[], [], []⟩) 9 14 3 25 none (u2A (sl 0 0 n C) s ((upT9 c x).fdiv (2 ^ min (Int.toNat 32) 64)) i (.int .i64 j) (uu x)) (u2M (sl 0 0 n C) n (IntKind.i64.wrap (j + 1))) (hW1 (S.set (0 + j.toNat * 1) (uu (IntKind.u32.wrap (upT9 c x))))) [(decide ((32 : Int) < 0), false), (decide (0 + j.toNat * 1 < S.length), true), inR j n, celR S 0 j x, inR j n, (decide (j < n), true)] := ⟨by kernel_rfl, by kernel_rfl, by kernel_rfl⟩
theorem u_e0 (n C : Nat) (s : ByteArray) (c : Int) (i v x : Value) (j : Int) (h : Hp) (g g' : Nat → Value) : GoesT (evC (tabOf Tryz.prog extY conN true) 100 false (uE Tryz.f111) (ml (u2A (sl 0 0 n C) s c i v x) 14 g (u2M (sl 0 0 n C) n j) 25 g', h, [cmp false]) ⟨[], [], []⟩) 5 46 (some none) [sl 0 0 n C, .string s, undef, undef, sl 0 0 n C] h [(c != 0, false)] := ⟨by kernel_rfl, by kernel_rfl, by kernel_rfl⟩
theorem u_e1 (n C : Nat) (s : ByteArray) (c : Int) (i v x : Value) (j : Int) (S : List Value) (g g' : Nat → Value) : GoesT (evC (tabOf Tryz.prog extY conN true) 100 false (uE Tryz.f111) (ml (u2A (sl 0 0 n C) s c i v x) 14 g (u2M (sl 0 0 n C) n j) 25 g', hW1 S, [cmp true, sam true]) ⟨[], [], []⟩) 5 46 (some none) [sl 0 0 (n + 1) C, .string s, undef, undef, sl 0 0 (n + 1) C] ⟨2, [([uu (IntKind.u32.wrap c)], tU), (S.take n ++ [uu (IntKind.u32.wrap c)] ++ S.drop (n + 1), tU)]⟩ [(appChx tU (S, tU) ([uu (IntKind.u32.wrap c)], tU) n C 0 1, true), (c != 0, true)] := ⟨by kernel_rfl, by kernel_rfl, by kernel_rfl⟩
/-- the digit at j -/
def dgF (s : ByteArray) (j : Nat) : Int := byT s j - 48
theorem dgF_bd {s : ByteArray} (h : allD s) {j : Nat} (hj : j < s.size) : (48 ≤ byT s j ∧ byT s j ≤ 57) ∧ 0 ≤ dgF s j ∧ dgF s j < 10 := by
  have h1 := h j hj
  unfold oddI at h1
  simp only [Bool.or_eq_false_iff, decide_eq_false_iff_not] at h1
  unfold dgF
  omega
theorem up_C {c b : Int} (hc : 0 ≤ c ∧ c < 1000000000) (hb : 48 ≤ b ∧ b ≤ 57) : upC c b = c * 10 + (b - 48) := by
  unfold upC
  simp [IntKind.wrap, IntKind.bits, IntKind.signed]
  omega
theorem up_T {c x : Int} (hc : 0 ≤ c ∧ c < 1000000000) (hx : 0 ≤ x ∧ x < 4294967296) : IntKind.u32.wrap (upT9 c x) = (c + x * 1000000000) % 4294967296 ∧ (upT9 c x).fdiv (2 ^ min (Int.toNat 32) 64) = (c + x * 1000000000) / 4294967296 := by
  have e : upT9 c x = c + x * 1000000000 := by
    unfold upT9
    simp [IntKind.wrap, IntKind.bits, IntKind.signed]
    omega
  have e2 : ((2 : Int) ^ min (Int.toNat 32) 64) = 4294967296 := rfl
  rw [e, e2, Int.fdiv_eq_ediv_of_nonneg _ (by omega)]
  refine ⟨?_, rfl⟩
  simp [IntKind.wrap, IntKind.bits, IntKind.signed]
theorem pw10 {k : Nat} (h : k ≤ 9) : (10 : Nat) ^ k ≤ 1000000000 := by
  have := Nat.pow_le_pow_right (show 0 < 10 by omega) h
  exact this
theorem pp_l1 {w : Value} {s : ByteArray} (hs : allD s) (h9 : s.size ≤ 9) (h : Hp) (g : Nat → Value) (sc : List Dec) :
    Runs (tabOf Tryz.prog extY conN true) (.block 0 (.loop (uL1 Tryz.f111))) (u1F w s 0 undef 0 ++ tl 39 g, h, sc) fun e z => e = none ∧ ∃ (i : Value) (k : Int) (g : Nat → Value), z.1 = u1F w s ((rdV10 (dgF s) s.size : Nat) : Int) i k ++ tl 39 g ∧ z.2.1 = h := by
  have hT := tabY_ok conN_ok
  refine (Runs.forLoop (R := fun _ => False) (P := fun z => ∃ (i : Value) (k : Int) (g : Nat → Value), z.1 = u1F w s ((rdV10 (dgF s) s.size : Nat) : Int) i k ++ tl 39 g ∧ z.2.1 = h)
    (fun r z => ∃ (k : Nat) (i : Value) (g : Nat → Value), z.1 = u1F w s ((rdV10 (dgF s) k : Nat) : Int) i k ++ tl 39 g ∧ z.2.1 = h ∧ k ≤ s.size ∧ r = s.size - k)
    ?_ (n := s.size) ⟨0, undef, g, rfl, rfl, by omega, by omega⟩).mono fun e z hz => ?_
  · rintro r ⟨t, h', sc'⟩ ⟨k, i, g, ht, hh, hk, hr⟩
    simp only at ht hh
    subst ht hh
    by_cases hc : k < s.size
    · obtain ⟨b1, b2⟩ := dgF_bd hs hc
      have hlt := rdV10_lt (f := dgF s) k (fun j hj => (dgF_bd hs (show j < s.size by omega)).2)
      have hp := pw10 (show k ≤ 9 by omega)
      have eC := up_C (c := ((rdV10 (dgF s) k : Nat) : Int)) ⟨by omega, by omega⟩ b1
      have l1 : decide ((0 : Int) ≤ (k : Nat) ∧ ((k : Nat) : Int).toNat < s.data.toList.length) = true := decide_eq_true ⟨by omega, by rw [Int.toNat_natCast]; exact hc⟩
      refine (goesT_runs hT (u_g1 w s _ i (k : Nat) h' g) (okCons l1 (okL1 (decide_eq_true (by omega))))).mono fun e z he => ?_
      obtain ⟨rfl, ⟨g', z1⟩, z2⟩ := he
      refine ⟨s.size - (k + 1), by omega, k + 1, .int .i64 (k : Nat), g', ?_, z2, by omega, rfl⟩
      rw [z1, Int.toNat_natCast]
      have eb : (((s.data.toList.getD k 0).toNat : Nat) : Int) = byT s k := rfl
      rw [eb, eC, wrapI (by omega) (by omega)]
      congr 2
      simp only [rdV10]
      have : ((dgF s k).toNat : Int) = byT s k - 48 := by unfold dgF at *; omega
      omega
    · refine (goesT_runs hT (u_o1 w s _ i (k : Nat) h' g) (okL1 (decide_eq_false (by omega)))).mono fun e z he => ?_
      obtain ⟨rfl, ⟨g', z1⟩, z2⟩ := he
      rw [show k = s.size by omega] at z1
      exact ⟨rfl, i, _, g', z1, z2⟩
  · match e, hz with
    | none, hz => exact ⟨rfl, hz⟩
theorem pp_l2 {n C : Nat} {s : ByteArray} {P : Int} (hP : 0 ≤ P ∧ P < 1000000000) {L : List Int} (hL : wds L) (hn : L.length = n) (hN : n < 4611686018427387904) {Z : List Value} (i v x : Value) (g g' : Nat → Value) (sc : List Dec) :
    Runs (tabOf Tryz.prog extY conN true) (.block 2 (.loop (uL2 Tryz.f111))) (ml (u2A (sl 0 0 n C) s P i v x) 14 g (u2M (sl 0 0 n C) n 0) 25 g', hW1 (wU L ++ Z), sc) fun e z => e = none ∧ ∃ (i v x : Value) (j : Int) (g g' : Nat → Value), z.1 = ml (u2A (sl 0 0 n C) s ((vN L * 1000000000 + P) / 4294967296 ^ n) i v x) 14 g (u2M (sl 0 0 n C) n j) 25 g' ∧ z.2.1 = hW1 (wU (dg n (vN L * 1000000000 + P)) ++ Z) := by
  have hT := tabY_ok conN_ok
  refine (Runs.forLoop (R := fun _ => False) (P := fun z => ∃ (i v x : Value) (j : Int) (g g' : Nat → Value), z.1 = ml (u2A (sl 0 0 n C) s ((vN L * 1000000000 + P) / 4294967296 ^ n) i v x) 14 g (u2M (sl 0 0 n C) n j) 25 g' ∧ z.2.1 = hW1 (wU (dg n (vN L * 1000000000 + P)) ++ Z))
    (fun r z => ∃ (dx px : List Int) (c : Int) (i v x : Value) (g g' : Nat → Value), z.1 = ml (u2A (sl 0 0 n C) s c i v x) 14 g (u2M (sl 0 0 n C) n dx.length) 25 g' ∧ z.2.1 = hW1 (wU (dx ++ px) ++ Z) ∧ px.length = r ∧ dx.length + px.length = n ∧ wds dx ∧ wds px ∧ (0 ≤ c ∧ c < 1000000000) ∧ vN dx + 4294967296 ^ dx.length * (vN px * 1000000000 + c) = vN L * 1000000000 + P)
    ?_ (n := n) ⟨[], L, P, i, v, x, g, g', rfl, rfl, hn, by simpa using hn, (fun x hx => by cases hx), hL, hP, by simp [vN]⟩).mono fun e z hz => ?_
  · rintro r ⟨t, h', sc'⟩ ⟨dx, px, c, i, v, x0, g, g', ht, hh, hr, hl, wd1, wd2, hc, hv⟩
    simp only at ht hh
    subst ht hh
    match px, hr, hl, wd2, hv with
    | [], hr, hl, wd2, hv =>
      have hl' : dx.length = n := by simpa using hl
      refine (goesM_runs hT (u_o2 n C s c i v x0 (dx.length : Nat) _ g g') (okL1 (decide_eq_false (by omega)))).mono fun e z he => ?_
      obtain ⟨rfl, ⟨g1, g2, z1⟩, z2⟩ := he
      simp only [vN] at hv
      rw [Int.zero_mul, Int.zero_add] at hv
      have e5 := dg_mod dx.length (vN dx) c
      rw [hv, dg_vN dx wd1, hl'] at e5
      have hb := vN_bd dx wd1
      have e6 : (vN L * 1000000000 + P) / 4294967296 ^ n = c := by
        rw [← hv, ← hl', Int.add_mul_ediv_left _ _ (by have := pw_pos dx.length; omega), Int.ediv_eq_zero_of_lt hb.1 hb.2, Int.zero_add]
      rw [e6, e5]
      rw [List.append_nil] at z2
      exact ⟨rfl, i, v, x0, _, g1, g2, z1, z2⟩
    | x :: px, hr, hl, wd2, hv =>
      obtain ⟨wx, wd2⟩ := wds_tail wd2
      obtain ⟨t1, t2⟩ := up_T hc wx
      have hl' : dx.length < n := by simp at hl; omega
      have cS : (wU (dx ++ x :: px) ++ Z)[0 + dx.length]? = some (uu x) := by
        rw [Nat.zero_add, List.getElem?_append_left (by unfold wU; simp)]
        exact wU_get dx x px
      have l1 : decide (0 + ((dx.length : Nat) : Int).toNat * 1 < (wU (dx ++ x :: px) ++ Z).length) = true := decide_eq_true (by unfold wU; simp)
      have l2 : (inR (dx.length : Nat) n).1 = (inR (dx.length : Nat) n).2 := decide_eq_true (by omega)
      have l3 : (celR (wU (dx ++ x :: px) ++ Z) 0 (dx.length : Nat) x).1 = (celR (wU (dx ++ x :: px) ++ Z) 0 (dx.length : Nat) x).2 := cel_ok cS
      refine (goesM_runs hT (u_g2 n C s c i v x0 (dx.length : Nat) x _ g g') (okCons (by decide) (okCons l1 (okCons l2 (okCons l3 (okCons l2 (okL1 (decide_eq_true (by omega))))))))).mono fun e z he => ?_
      obtain ⟨rfl, ⟨g1, g2, z1⟩, z2⟩ := he
      rw [t2] at z1
      rw [t1] at z2
      refine ⟨px.length, by simp at hr; omega, dx ++ [(c + x * 1000000000) % 4294967296], px, (c + x * 1000000000) / 4294967296, i, .int .i64 (dx.length : Nat), uu x, g1, g2, ?_, ?_, rfl, by simp at hl ⊢; omega, wds_app wd1 (fun z hz => by rw [List.mem_singleton.1 hz]; omega), wd2, by omega, ?_⟩
      · rw [z1, wrapI (by omega) (by omega), List.length_append, List.length_singleton]
        rfl
      · rw [z2, Int.toNat_natCast, Nat.mul_one, Nat.zero_add, List.set_append_left _ _ (by unfold wU; simp), wU_set]
      · rw [vN_snoc, List.length_append, List.length_singleton, Int.pow_succ, ← hv]
        simp only [vN]
        generalize vN px = A
        generalize (4294967296 : Int) ^ dx.length = Q
        have e : (c + x * 1000000000) = 4294967296 * ((c + x * 1000000000) / 4294967296) + (c + x * 1000000000) % 4294967296 := by omega
        generalize (c + x * 1000000000) / 4294967296 = d at *
        generalize (c + x * 1000000000) % 4294967296 = m at *
        have e' : (x + 4294967296 * A) * 1000000000 + c = 4294967296 * d + m + 4294967296 * A * 1000000000 := by omega
        rw [e']
        have d1 : Q * (4294967296 * d + m + 4294967296 * A * 1000000000) = Q * 4294967296 * d + Q * m + Q * 4294967296 * (A * 1000000000) := by
          rw [Int.mul_add, Int.mul_add, ← Int.mul_assoc, Int.mul_assoc 4294967296 A, ← Int.mul_assoc Q]
        rw [d1, Int.mul_add]
        omega
  · match e, hz with
    | none, hz => exact ⟨rfl, hz⟩
/-- words times 10^9 and a piece: the words, and what is carried on -/
def ppT (L : List Int) (s : ByteArray) : Int := vN L * 1000000000 + ((rdV10 (dgF s) s.size : Nat) : Int)
theorem pp_runs {C : Nat} {s : ByteArray} (hs : allD s) (h9 : s.size ≤ 9) {L : List Int} (hL : wds L) (hN : L.length < 1073741824) {Z : List Value} :
    (ppT L s / 4294967296 ^ L.length = 0 → Runs (tabOf Tryz.prog extY conN true) (seqs (uP Tryz.f111) (.seq (.seq (uR2 Tryz.f111) (.block 0 (.loop (uL1 Tryz.f111)))) (.seq (.seq (uR7 Tryz.f111) (.block 2 (.loop (uL2 Tryz.f111)))) (uE Tryz.f111)))) ([sl 0 0 L.length C, .string s] ++ List.replicate 49 undef, hW1 (wU L ++ Z), []) fun e y => (e = none ∨ e = some none) ∧ resS Tryz.prog Tryz.f111 y.1 y.2.1 = some (sl 0 0 L.length C) ∧ y.2.1.cut 1 = hW1 (wU (dg L.length (ppT L s)) ++ Z)) ∧
    (ppT L s / 4294967296 ^ L.length ≠ 0 → L.length < C → smallC C = true → 0 < Z.length → Runs (tabOf Tryz.prog extY conN true) (seqs (uP Tryz.f111) (.seq (.seq (uR2 Tryz.f111) (.block 0 (.loop (uL1 Tryz.f111)))) (.seq (.seq (uR7 Tryz.f111) (.block 2 (.loop (uL2 Tryz.f111)))) (uE Tryz.f111)))) ([sl 0 0 L.length C, .string s] ++ List.replicate 49 undef, hW1 (wU L ++ Z), []) fun e y => (e = none ∨ e = some none) ∧ resS Tryz.prog Tryz.f111 y.1 y.2.1 = some (sl 0 0 (L.length + 1) C) ∧ y.2.1.cut 1 = hW1 (wU (dg L.length (ppT L s)) ++ [uu (ppT L s / 4294967296 ^ L.length)] ++ Z.drop 1)) := by
  have hT := tabY_ok conN_ok
  have hlt := rdV10_lt (f := dgF s) s.size (fun j hj => (dgF_bd hs hj).2)
  have hp := pw10 h9
  have hP : (0 : Int) ≤ ((rdV10 (dgF s) s.size : Nat) : Int) ∧ ((rdV10 (dgF s) s.size : Nat) : Int) < 1000000000 := by omega
  have key : ∀ {Q : Ex → Lf → Prop}, (∀ (i v x : Value) (j : Int) (g g' : Nat → Value) (sc : List Dec), Runs (tabOf Tryz.prog extY conN true) (uE Tryz.f111) (ml (u2A (sl 0 0 L.length C) s (ppT L s / 4294967296 ^ L.length) i v x) 14 g (u2M (sl 0 0 L.length C) L.length j) 25 g', hW1 (wU (dg L.length (ppT L s)) ++ Z), sc) Q) → Runs (tabOf Tryz.prog extY conN true) (seqs (uP Tryz.f111) (.seq (.seq (uR2 Tryz.f111) (.block 0 (.loop (uL1 Tryz.f111)))) (.seq (.seq (uR7 Tryz.f111) (.block 2 (.loop (uL2 Tryz.f111)))) (uE Tryz.f111)))) ([sl 0 0 L.length C, .string s] ++ List.replicate 49 undef, hW1 (wU L ++ Z), []) Q := by
    intro Q hQ
    refine goesT_list hT (u_pre (sl 0 0 L.length C) s _) okN9 fun g => ?_
    refine Runs.seq (P1 := fun e z => e = none ∧ ∃ (i : Value) (k : Int) (g : Nat → Value), z.1 = u1F (sl 0 0 L.length C) s ((rdV10 (dgF s) s.size : Nat) : Int) i k ++ tl 39 g ∧ z.2.1 = hW1 (wU L ++ Z)) ?_ ?_ (fun e y he => by cases he.1)
    · refine Runs.seq (goesT_runs hT (u_r2 (sl 0 0 L.length C) s _ g) okN9) ?_ (fun e y he => by cases he.1)
      rintro ⟨t, hh, sc⟩ ⟨_, ⟨g', e1⟩, e2⟩
      simp only at e1 e2
      subst e1 e2
      exact pp_l1 hs h9 _ g' sc
    · rintro ⟨t, hh, sc⟩ ⟨_, i, k, g', e1, e2⟩
      simp only at e1 e2
      subst e1 e2
      refine Runs.seq (P1 := fun e z => e = none ∧ ∃ (i v x : Value) (j : Int) (g g' : Nat → Value), z.1 = ml (u2A (sl 0 0 L.length C) s (ppT L s / 4294967296 ^ L.length) i v x) 14 g (u2M (sl 0 0 L.length C) L.length j) 25 g' ∧ z.2.1 = hW1 (wU (dg L.length (ppT L s)) ++ Z)) ?_ ?_ (fun e y he => by cases he.1)
      · refine Runs.seq (goesM_runs hT (u_r7 L.length C s _ i k _ g') okN9) ?_ (fun e y he => by cases he.1)
        rintro ⟨t, hh, sc⟩ ⟨_, ⟨g1, g2, e1⟩, e2⟩
        simp only at e1 e2
        subst e1 e2
        exact pp_l2 hP hL rfl (by omega) _ _ _ g1 g2 sc
      · rintro ⟨t, hh, sc⟩ ⟨_, i, v, x, j, g1, g2, e1, e2⟩
        simp only at e1 e2
        subst e1 e2
        exact hQ i v x j g1 g2 sc
  refine ⟨fun hz => key fun i v x j g g' sc => ?_, fun hz hC hsm hZ => key fun i v x j g g' sc => ?_⟩
  · refine (goesT_runs hT (u_e0 L.length C s _ i v x j _ g g') (okL1 (by rw [hz]; rfl))).mono fun e z he => ?_
    obtain ⟨rfl, ⟨g1, z1⟩, z2⟩ := he
    exact ⟨.inr rfl, by rw [z1, z2]; rfl, by rw [z2]; rfl⟩
  · have hQ := pw_pos L.length
    have hvb := vN_bd L hL
    have hTb : 0 ≤ ppT L s / 4294967296 ^ L.length ∧ ppT L s / 4294967296 ^ L.length < 4294967296 := by
      have h0 : 0 ≤ ppT L s := by unfold ppT; omega
      have h1 : ppT L s < 4294967296 * 4294967296 ^ L.length := by unfold ppT; omega
      exact ⟨Int.ediv_nonneg h0 (by omega), Int.ediv_lt_of_lt_mul (by omega) h1⟩
    have ew : IntKind.u32.wrap (ppT L s / 4294967296 ^ L.length) = ppT L s / 4294967296 ^ L.length := by
      generalize ppT L s / 4294967296 ^ L.length = y at *
      simp [IntKind.wrap, IntKind.bits, IntKind.signed]
      omega
    have hlen : (wU (dg L.length (ppT L s))).length = L.length := by unfold wU; simp [dg_len]
    have l1 : appChx tU (wU (dg L.length (ppT L s)) ++ Z, tU) ([uu (IntKind.u32.wrap (ppT L s / 4294967296 ^ L.length))], tU) L.length C 0 1 = true := by
      unfold appChx
      simp only [Bool.and_eq_true, Bool.not_eq_true']
      refine ⟨⟨⟨⟨⟨⟨⟨⟨⟨⟨Nat.ble_eq_true_of_le (by rw [List.length_append, hlen]; omega), Nat.ble_eq_true_of_le (by omega)⟩, by kernel_rfl⟩, hsm⟩, Nat.ble_eq_true_of_le (by omega)⟩, by kernel_rfl⟩, by kernel_rfl⟩, by kernel_rfl⟩, by rfl⟩, by rfl⟩, by rfl⟩
    refine (goesT_runs hT (u_e1 L.length C s _ i v x j _ g g') (okCons l1 (okL1 (by simpa using hz)))).mono fun e z he => ?_
    obtain ⟨rfl, ⟨g1, z1⟩, z2⟩ := he
    have e1 : (wU (dg L.length (ppT L s)) ++ Z).take L.length = wU (dg L.length (ppT L s)) := List.take_left' hlen
    have e2 : (wU (dg L.length (ppT L s)) ++ Z).drop (L.length + 1) = Z.drop 1 := by
      rw [← List.drop_drop, List.drop_left' hlen]
    rw [e1, e2, ew] at z2
    exact ⟨.inr rfl, by rw [z1, z2]; rfl, by rw [z2]; rfl⟩
/-- a call that changes blocks and answers with a place in them -/
theorem hcalls_of_runsV {T : Tab} {f : Nat} {F : Func} {c : Code} (hF : T.P.funcs[f]? = some F) (hc : F.body = some c) {vals : List Value} {v : Value} {h h' : Hp} (hv : lt h.n v = true) (ht : h'.tight = true)
    (hr : Runs T c (vals ++ List.replicate (F.ntmps - vals.length) undef, h, []) fun e y => (e = none ∨ e = some none) ∧ resS T.P F y.1 y.2.1 = some v ∧ y.2.1.cut h.n = h') (m : Mp) (B : Nat) (w : World) (E : Emb m B h w) (hvals : ∀ v ∈ vals, lt h.n v = true) :
    Calls T.P f (vals.map (mv m)).toArray w fun e w' => ∃ m', e = .returned (mv m' v) ∧ Came m B h w v h' m' w' := by
  refine calls_of_wp hF hc ?_
  have R : Rel m B (vals ++ List.replicate (F.ntmps - vals.length) undef, h, []) { tmps := (vals.map (mv m)).toArray ++ Array.replicate (F.ntmps - (vals.map (mv m)).toArray.size) undef, defers := [] } w := by
    refine ⟨?_, rfl, E, ?_⟩
    · simp [mv_undef]
    · intro y hy
      rcases List.mem_append.1 hy with hy | hy
      · exact hvals y hy
      · rw [List.eq_of_mem_replicate hy]; simp [undef, lt]
  refine hr _ _ _ w R _ fun e y he a' w' hR => ?_
  obtain ⟨hex, hres, hcut⟩ := he
  obtain ⟨m', k1, k2, k3, k4⟩ := hR
  obtain ⟨r1, r2⟩ := resS_run k2.emb k2.wf hres
  rw [← k2.tmps, mv_agree k1 hv] at r1
  have k4' : h.n ≤ y.2.1.n := k4
  have C : Came m B h w v h' m w' := by
    subst hcut
    exact ⟨Agree.refl _ _, k2.emb.cut k1 k4' ht, k3, by simp [Hp.cut], by simpa [Hp.cut] using hv⟩
  have post : a'.defers = [] ∧ ∃ v', (results F a'.tmps).run T.P w' = .ok v' w' ∧ ∃ m', Ending.returned v' = .returned (mv m' v) ∧ Came m B h w v h' m' w' :=
    ⟨k2.dfr, _, r1, m, rfl, C⟩
  rcases hex with rfl | rfl <;> exact post
def ppQ (S : List Value) (n : Nat) (b : ByteArray) : Int := ppT (cutI S 0 n) b / 4294967296 ^ n
def ppLg (S : List Value) (t : TypeId) (n c : Nat) (b : ByteArray) : Log := [(Nat.beq t tU, true), (rowOk t S 0 n c, true), (decide (¬ ixV b ≥ 0), true), (Nat.ble b.size 9 && Nat.blt n 1073741824, true)]
def gPp : AnsH := fun vals h s =>
  match vals, h, s with
  | [.slice (some ⟨0, 0, none⟩) n c, .string b], ⟨1, [(S, t)]⟩, .inr (.inr (.inr (.inl d))) :: s' =>
    match d with
    | false => some (sl 0 0 n c, ⟨1, [(wU (dg n (ppT (cutI S 0 n) b)) ++ S.drop n, tU)]⟩, s', (decide (ppQ S n b = 0), true) :: ppLg S t n c b)
    | true => some (sl 0 0 (n + 1) c, ⟨1, [(wU (dg n (ppT (cutI S 0 n) b)) ++ [uu (ppQ S n b)] ++ S.drop (n + 1), tU)]⟩, s', (decide (ppQ S n b ≠ 0), true) :: (Nat.blt n c && Nat.blt n S.length, true) :: ppLg S t n c b)
  | _, _, _ => none
theorem ppLg_of {S : List Value} {t : TypeId} {n c : Nat} {b : ByteArray} (h : okLog (ppLg S t n c b)) : t = tU ∧ Row S 0 (cutI S 0 n) ∧ (cutI S 0 n).length = n ∧ smallC c = true ∧ (∀ v ∈ S, still v = true) ∧ allD b ∧ b.size ≤ 9 ∧ n < 1073741824 ∧ S = wU (cutI S 0 n) ++ S.drop n := by
  obtain ⟨l1, q⟩ := logB h
  obtain ⟨l2, q⟩ := logB q
  obtain ⟨l3, q⟩ := logB q
  obtain ⟨l4, _⟩ := logB q
  have l1 := Nat.eq_of_beq_eq_true l1
  obtain ⟨a1, a2, a3, a4, a5, a6, a7⟩ := row_of l2
  simp only [Bool.and_eq_true] at l4
  refine ⟨l1, a1, a2, a4, a7, (ix_digits b).1 (of_decide_eq_true l3), Nat.le_of_ble_eq_true l4.1, blt_iff.1 l4.2, ?_⟩
  have h1 := a1.cut
  rw [a2] at h1
  rw [← h1]
  unfold cutV
  simp
theorem gPp_ok : AnsHOk 111 gPp := by
  intro vals h s v h' s' lg hg hl m B w E hv
  unfold gPp at hg
  split at hg
  · rename_i n c b S t d s2
    split at hg
    · cases hg
      obtain ⟨l1, q⟩ := logB hl
      obtain ⟨rfl, a1, a2, a4, a7, hd, h9, hn, eS⟩ := ppLg_of q
      have hz := of_decide_eq_true l1
      have hst : ∀ v ∈ S.drop n, lt1 1 v = true := fun v hv => still_lt (by omega) (a7 v (List.mem_of_mem_drop hv))
      have r := (pp_runs (C := c) hd h9 (L := cutI S 0 n) a1.rng (by omega) (Z := S.drop n)).1 (by rw [a2]; exact hz)
      rw [a2, ← eS] at r
      have ht : (hW1 (wU (dg n (ppT (cutI S 0 n) b)) ++ S.drop n)).tight = true := by
        unfold Hp.tight hW1
        simp only [List.all_cons, List.all_nil, List.all_append, Bool.and_true, Bool.and_eq_true]
        exact ⟨wU_tight _ _, List.all_eq_true.2 hst⟩
      exact hcalls_of_runsV (T := tabOf Tryz.prog extY conN true) Tryz.func111 up_body9 (vals := [sl 0 0 n c, .string b]) (h := hW1 S) (by rfl) ht r m B w E hv
    · cases hg
      obtain ⟨l1, q⟩ := logB hl
      obtain ⟨l0, q⟩ := logB q
      obtain ⟨rfl, a1, a2, a4, a7, hd, h9, hn, eS⟩ := ppLg_of q
      simp only [Bool.and_eq_true] at l0
      have hc := blt_iff.1 l0.1
      have hS := blt_iff.1 l0.2
      have hz := of_decide_eq_true l1
      have r := (pp_runs (C := c) hd h9 (L := cutI S 0 n) a1.rng (by omega) (Z := S.drop n)).2 (by rw [a2]; exact hz) (by omega) a4 (by rw [List.length_drop]; omega)
      rw [a2, ← eS, List.drop_drop] at r
      have ht : (hW1 (wU (dg n (ppT (cutI S 0 n) b)) ++ [uu (ppQ S n b)] ++ S.drop (n + 1))).tight = true := by
        unfold Hp.tight hW1
        simp only [List.all_cons, List.all_nil, List.all_append, Bool.and_true, Bool.and_eq_true]
        exact ⟨⟨wU_tight _ _, rfl⟩, List.all_eq_true.2 fun v hv => still_lt (by omega) (a7 v (List.mem_of_mem_drop hv))⟩
      exact hcalls_of_runsV (T := tabOf Tryz.prog extY conN true) Tryz.func111 up_body9 (vals := [sl 0 0 n c, .string b]) (h := hW1 S) (by rfl) ht r m B w E hv
  · cases hg
/-! ### Parse -/
def conPr : Con := alt 110 gCf conN
theorem conPr_ok : ConOk conPr := alt_ok Tryz.func110 rfl gCf_ok conN_ok
def hcPr : Hc := altH 111 gPp (altH 112 gTrim hcN)
theorem hcPr_ok : HcOk hcPr := altH_ok Tryz.func111 rfl gPp_ok (altH_ok Tryz.func112 rfl gTrim_ok hcN_ok)
theorem tabPr : TabOk (tabH Tryz.prog extY conPr hcPr) := tabH_ok conPr_ok hcPr_ok
def qC9 (F : Func) : Nat → Code
  | 0 => cBody F
  | n + 1 => cSnd (qC9 F n)
def qP9 (F : Func) : List Code := [cFst (qC9 F 0), cFst (qC9 F 1), cFst (qC9 F 2), cFst (qC9 F 3), cFst (qC9 F 4)]
def qL9 (F : Func) : Code := cIn (cIn (cFst (qC9 F 5)))
def qE9 (F : Func) : Code := qC9 F 6
theorem pr_body : Tryz.f75.body = some (seqs (qP9 Tryz.f75) (.seq (.block 0 (.loop (qL9 Tryz.f75))) (qE9 Tryz.f75))) := by kernel_rfl
def capP (s : ByteArray) : Int := (IntKind.i64.wrap (IntKind.i64.wrap ((s.size : Int).tdiv 9) + 1))
def qF9 (s : Value) (w v : Value) : List Value := [s, undef, nilS, .nilIface, fO, w, v]
def eqN (s : ByteArray) : Bool := s == (⟨⟨[]⟩⟩ : ByteArray)
theorem pr_pre (s : ByteArray) : GoesT (evL (tabH Tryz.prog extY conPr hcPr) 100 (qP9 Tryz.f75) ([.string s] ++ List.replicate 40 undef, ⟨0, []⟩, [sam false, cmp false, cmp false, at_]) ⟨[], [], []⟩) 7 34 none (qF9 (.string s) (sl 0 0 0 (capP s).toNat) undef) (hW1 (List.replicate (capP s).toNat (.int .u32 0))) [(okMakeB 4 0 (capP s), true), (decide ((s.size : Int) > 20000), false), (decide (ixV s ≥ 0), false), (true, true), (eqN s, false)] := ⟨by kernel_rfl, by kernel_rfl, by kernel_rfl⟩
theorem pr_e (s : ByteArray) : Fits (reckon (tabH Tryz.prog extY conPr hcPr) 100 75 [.string s] [sam true]) (.tuple #[nilS, errV 3]) [(eqN s, true)] := ⟨by kernel_rfl, by kernel_rfl, by kernel_rfl, by kernel_rfl⟩
theorem pr_o (s : ByteArray) : Fits (reckon (tabH Tryz.prog extY conPr hcPr) 100 75 [.string s] [sam false, cmp true]) (.tuple #[nilS, errV 3]) [(decide (ixV s ≥ 0), true), (true, true), (eqN s, false)] := ⟨by kernel_rfl, by kernel_rfl, by kernel_rfl, by kernel_rfl⟩
def enP (l : List UInt8) : Int := IntKind.i64.wrap ((IntKind.i64.wrap ((l.length : Int) - 1)).tmod 9 + 1)
theorem pr_go (l : List UInt8) (d : Bool) (n C : Nat) (v : Value) (S : List Value) (g : Nat → Value) : GoesT (evC (tabH Tryz.prog extY conPr hcPr) 100 false (qL9 Tryz.f75) (qF9 (bS l) (sl 0 0 n C) v ++ tl 34 g, hW1 S, [sam true, sam true, cmp d, sam true]) ⟨[], [], []⟩) 7 34 none (qF9 (bS (l.drop (enP l).toNat)) (sl 0 0 (match d with | true => n + 1 | false => n) C) (.int .i64 (enP l))) (match d with | true => hW1 (wU (dg n (ppT (cutI S 0 n) ⟨⟨l.take (enP l).toNat⟩⟩)) ++ [uu (ppQ S n ⟨⟨l.take (enP l).toNat⟩⟩)] ++ S.drop (n + 1)) | false => hW1 (wU (dg n (ppT (cutI S 0 n) ⟨⟨l.take (enP l).toNat⟩⟩)) ++ S.drop n))
    ((decide (0 ≤ enP l ∧ enP l ≤ (l.length : Nat)), true) :: (match d with | true => (decide (ppQ S n ⟨⟨l.take (enP l).toNat⟩⟩ ≠ 0), true) :: (Nat.blt n C && Nat.blt n S.length, true) :: ppLg S tU n C ⟨⟨l.take (enP l).toNat⟩⟩ | false => (decide (ppQ S n ⟨⟨l.take (enP l).toNat⟩⟩ = 0), true) :: ppLg S tU n C ⟨⟨l.take (enP l).toNat⟩⟩) ++ [(decide (0 ≤ enP l ∧ enP l ≤ (l.length : Nat)), true), (!(eqN ⟨⟨l⟩⟩), true)]) := by
  cases d <;> exact ⟨by kernel_rfl, by kernel_rfl, by kernel_rfl⟩
theorem pr_out (w v : Value) (h : Hp) (g : Nat → Value) : GoesT (evC (tabH Tryz.prog extY conPr hcPr) 100 false (qL9 Tryz.f75) (qF9 (bS []) w v ++ tl 34 g, h, [sam false]) ⟨[], [], []⟩) 7 34 (some (some 0)) (qF9 (bS []) w v) h [(!(eqN ⟨⟨[]⟩⟩), false)] := ⟨by kernel_rfl, by kernel_rfl, by kernel_rfl⟩
theorem pr_end (s v : Value) (n C : Nat) (S : List Value) (g : Nat → Value) : GoesT (evC (tabH Tryz.prog extY conPr hcPr) 100 false (qE9 Tryz.f75) (qF9 s (sl 0 0 n C) v ++ tl 34 g, hW1 S, []) ⟨[], [], []⟩) 4 37 (some none) [s, undef, sl 0 0 (trimN (cutI S 0 n)) C, .nilIface] (hW1 S) [(rowOk tU S 0 n C, true)] := ⟨by kernel_rfl, by kernel_rfl, by kernel_rfl⟩
end Go.Proofs.YtjlponbdflkbjaaGreatDoor.Na
