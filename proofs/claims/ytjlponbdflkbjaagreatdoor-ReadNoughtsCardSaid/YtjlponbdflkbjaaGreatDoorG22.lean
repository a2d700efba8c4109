/-
  RpG, RpH, RpI, RnB, RnC, RnD
-/
import Derived.Test.YtjlponbdflkbjaaGreatDoorG20
import Derived.Test.YtjlponbdflkbjaaGreatDoorG21
import Derived.Test.YtjlponbdflkbjaaGreatDoorG18
import Derived.Test.YtjlponbdflkbjaaGreatDoorG11
import Derived.Test.YtjlponbdflkbjaaGreatDoorG14
namespace Go.Proofs.YtjlponbdflkbjaaGreatDoor.Na
open Go.KRun Go.Nt Go.Rd
set_option maxRecDepth 100000
theorem lt_w32 (V : Nat) : V < 4294967296 ^ (d32 V).length := by
  have := vb_lt (b := 4294967296) (by omega) (d32 V) (d32_wds V)
  rw [show vb 4294967296 (d32 V) = V from vb_db (by omega) V] at this
  exact this
theorem low_w32 {V : Nat} (h : 0 < (d32 V).length) : 4294967296 ^ ((d32 V).length - 1) ≤ V := by
  rcases Nat.lt_or_ge V (4294967296 ^ ((d32 V).length - 1)) with h1 | h1
  · have : (d32 V).length ≤ (d32 V).length - 1 := db_len (b := 4294967296) (by omega) _ _ h1
    omega
  · exact h1
theorem pos_w32 {V : Nat} (h : V ≠ 0) : 0 < (d32 V).length := (db_pos_len (b := 4294967296) (by omega)).2 (by omega)
theorem lenN_bits {V : Nat} (h0 : V ≠ 0) (h : (d32 V).length ≤ 8192) : lenN (d32 V) = ((bitLen V : Nat) : Int) := by
  have hp := pos_w32 h0
  have hc := d32_canon V
  obtain ⟨L, hL⟩ : ∃ L, L = d32 V := ⟨_, rfl⟩
  have eV : vb 4294967296 L = V := by rw [hL]; exact vb_db (by omega) V
  rw [← hL] at hp hc h ⊢
  have hb : badL L = false := by
    unfold badL
    rw [decide_eq_false (by omega), Bool.false_or]
    rcases hc.2 with h0 | h0
    · omega
    · rw [beq_eq_false_iff_ne.2 h0, Bool.and_false]
  have e1 : lenN L = 32 * ((L.length - 1 : Nat) : Int) + (bitLen (L.getD (L.length - 1) 0).toNat : Nat) := by
    unfold lenN
    rw [hb, beq_eq_false_iff_ne.2 (show L.length ≠ 0 by omega)]
    rfl
  have ht := vb_take 4294967296 L (L.length - 1)
  rw [show L.length - 1 + 1 = L.length by omega, List.take_length, eV] at ht
  have lo : vb 4294967296 (L.take (L.length - 1)) < 4294967296 ^ (L.length - 1) := by
    have h1 := vb_lt (b := 4294967296) (by omega) (L.take (L.length - 1)) (fun x hx => hc.1 x (List.mem_of_mem_take hx))
    rw [List.length_take, Nat.min_eq_left (by omega)] at h1
    exact h1
  have hpw : 0 < 4294967296 ^ (L.length - 1) := Nat.pow_pos (by omega)
  have htop : (L.getD (L.length - 1) 0).toNat ≠ 0 := by
    have hlt : L.length - 1 < L.length := by omega
    have hw := hc.1 (L.getD (L.length - 1) 0) (by simp [List.getD, List.getElem?_eq_getElem hlt])
    rcases hc.2 with h1 | h1
    · omega
    · have : L.getD (L.length - 1) 0 ≠ 0 := h1
      omega
  have hdiv : V / 2 ^ (32 * (L.length - 1)) = (L.getD (L.length - 1) 0).toNat := by
    rw [← words_pow, ht, Nat.add_comm, Nat.mul_add_div hpw, Nat.div_eq_of_lt lo, Nat.add_zero]
  have hs := bitLen_shift V (32 * (L.length - 1)) (by rw [hdiv]; exact htop)
  rw [hdiv] at hs
  rw [e1, hs]
  omega
section
variable {H : Hp} {p q : Option Addr} {n c n' c' V W : Nat}
theorem rLen (h : IsR H p n c V) (h0 : V ≠ 0) : decide (lenN (rowOf H p n) = ((bitLen V : Nat) : Int)) = true := by
  rw [h.2.2.1]
  exact decide_eq_true (lenN_bits h0 (by have := h.2.2.2.2; have := h.2.2.2.1; omega))
theorem rShl (h : IsR H p n c V) (k : Nat) : decide (shlR (rowOf H p n) ((k : Nat) : Int).toNat = dg (sM n (k : Nat)) ((V * 2 ^ k : Nat) : Int)) = true := by
  refine decide_eq_true ?_
  unfold shlR sM
  rw [h.2.2.1, ← h.2.2.2.1, vN_d32, Int.toNat_natCast, Int.natCast_mul, Go.Wd.cast_pow]
theorem rBadK (h : IsR H p n c V) (k : Nat) : (badL (rowOf H p n) || decide (((k : Nat) : Int) < 0)) = false := by
  rw [h.good, decide_eq_false (by omega)]
  rfl
theorem rFew (h : IsR H p n c V) (h0 : V ≠ 0) {k : Nat} (hk : k ≤ 200000) : decide (((k : Nat) : Int) > 262144 - lenN (rowOf H p n)) = false := by
  have hn := h.2.2.2.2
  have hl := h.2.2.2.1
  rw [h.2.2.1, lenN_bits h0 (by omega)]
  have : bitLen V ≤ 32 * n := Go.Rn.len_le (by rw [← words_pow]; rw [hl]; exact lt_w32 V)
  exact decide_eq_false (by omega)
theorem rNe (h : IsR H p n c V) (h0 : V ≠ 0) : decide (n = 0) = false := by
  have := pos_w32 h0
  have := h.2.2.2.1
  exact decide_eq_false (by omega)
end
theorem shl_lt {V k n : Nat} (h : V < 4294967296 ^ n) : V * 2 ^ k < 4294967296 ^ sM n (k : Nat) := by
  unfold sM
  rw [Int.toNat_natCast, Nat.add_comm (k / 32), words_pow]
  rw [words_pow] at h
  have h2 : (2 : Nat) ^ k < 2 ^ (32 * (k / 32 + 1)) := Nat.pow_lt_pow_right (by omega) (by omega)
  have := Nat.mul_lt_mul'' h h2
  rw [← Nat.pow_add] at this
  rw [show 32 * (n + 1 + k / 32) = 32 * n + 32 * (k / 32 + 1) by omega]
  exact this
theorem quo_lt {S P : Nat} (hP : P ≠ 0) (hS : (d32 P).length ≤ (d32 S).length) : S / P < 4294967296 ^ ((d32 S).length - (d32 P).length + 1) := by
  have h1 := lt_w32 S
  have h2 := low_w32 (pos_w32 hP)
  have h3 := pos_w32 hP
  rw [Nat.div_lt_iff_lt_mul (by omega)]
  refine Nat.lt_of_lt_of_le h1 ?_
  refine Nat.le_trans ?_ (Nat.mul_le_mul_left _ h2)
  rw [← Nat.pow_add]
  exact Nat.pow_le_pow_right (by omega) (by omega)
theorem le_w32 {S P : Nat} (h : P ≤ S) : (d32 P).length ≤ (d32 S).length := db_len (b := 4294967296) (by omega) _ _ (Nat.lt_of_le_of_lt h (lt_w32 S))
/-- the number of decimal letters, as nat reads it -/
theorem psV_nm {D : List UInt8} (h : allB 10 D = true) : psV ⟨⟨D⟩⟩ = nmB 10 D := by
  have key : ∀ k, k ≤ D.length → rdV10 (dgF ⟨⟨D⟩⟩) k = nmB 10 (D.take k) := by
    intro k
    induction k with
    | zero => intro _; rfl
    | succ k ih =>
      intro hk
      have hd : 0 ≤ dgvR (lq8 (D.getD k 0)) 10 := by
        unfold allB at h
        refine of_decide_eq_true (List.all_eq_true.1 h _ ?_)
        rw [List.getD_eq_getElem?_getD, List.getElem?_eq_getElem (by omega), Option.getD_some]
        exact List.getElem_mem (by omega)
      have e : dgF ⟨⟨D⟩⟩ k = dgvR (lq8 (D.getD k 0)) 10 := by
        have := digit_letter hd
        unfold dgvR
        rw [if_pos this]
        rfl
      rw [rdV10, ih (by omega), nmB_take 10 D (by omega), e, Nat.mul_comm]
      rfl
  have := key D.length (Nat.le_refl _)
  rw [List.take_length] at this
  exact this
theorem okP_all {D : List UInt8} (h : allB 10 D = true) (h0 : D ≠ []) : okP ⟨⟨D⟩⟩ = true := by
  refine (okP_iff _).2 ⟨List.length_pos_iff.2 h0, fun j hj => ?_⟩
  have hj : j < D.length := hj
  have hd : 0 ≤ dgvR (lq8 (D.getD j 0)) 10 := by
    unfold allB at h
    refine of_decide_eq_true (List.all_eq_true.1 h _ ?_)
    rw [List.getD_eq_getElem?_getD, List.getElem?_eq_getElem hj, Option.getD_some]
    exact List.getElem_mem hj
  have := digit_letter hd
  show (decide (lq8 (D.getD j 0) < 48) || decide (lq8 (D.getD j 0) > 57)) = false
  rw [decide_eq_false (by omega), decide_eq_false (by omega)]
  rfl
theorem ten_w32 (k : Nat) : (10 : Nat) ^ k < 4294967296 ^ (k / 9 + 1) := by
  refine Nat.lt_of_le_of_lt (Nat.pow_le_pow_right (by omega) (show k ≤ 9 * (k / 9 + 1) by omega)) ?_
  rw [Nat.pow_mul]
  exact Nat.pow_lt_pow_left (by decide) (by omega)
/-- ten to a power, as nat makes it -/
theorem pow_isR {H : Hp} {b k : Nat} {j : Int} (hj : j = (k : Nat)) (hk : k ≤ 2000) (hb : H.blk? b = some (wU (dg (pMi 10 j) ((10 ^ k : Nat) : Int)), tU)) : IsR H (some ⟨b, 0, none⟩) (trimN (dg (pMi 10 j) ((10 ^ k : Nat) : Int))) (pMi 10 j) (10 ^ k) ∧ (d32 (10 ^ k)).length ≤ k / 9 + 1 := by
  have e : pMi 10 j = pM 10 k := by unfold pMi; rw [hj, Int.toNat_natCast]; rfl
  have h : 10 ^ k < 4294967296 ^ pM 10 k ∧ pM 10 k ≤ 1000 := by
    by_cases h0 : k = 0
    · subst h0
      exact ⟨by show 1 < 4294967296 ^ 2; decide, by show 2 ≤ 1000; decide⟩
    · exact pM_ok (wd_ten hk) (by omega) (Nat.le_refl _) (by omega)
  rw [e] at hb ⊢
  exact ⟨isRd hb h.1 h.2, nw_le (ten_w32 k)⟩
end Go.Proofs.YtjlponbdflkbjaaGreatDoor.Na
namespace Go.Proofs.YtjlponbdflkbjaaGreatDoor
open Go.KRun Go.Nt Go.Rd Go.Wd
set_option maxRecDepth 100000
theorem hg_ok {m V : Nat} (hV : V < 4294967296 ^ m) (hm : m ≤ 1000) {e : Int} (he : -1000000 ≤ e ∧ e ≤ 1000000) {l : Log} (hl : okLog l) : okLog (lHg m V e l) := by
  have r := Na.isRd (H := ⟨1, [r32 m V]⟩) (b := 0) rfl hV hm
  have ht : tn m V ≤ 1000 := r.2.2.2.2
  refine okCons ?_ (okCons (decide_eq_true r.2.2.1) (okCons (decide_eq_true ⟨ht, he⟩) hl))
  have := trimN_le (dg m (V : Int))
  have hd := dg_len m (V : Int)
  exact Na.wU_rowAt (dg_wds _ _) (by show 0 + tn m V ≤ _; unfold tn; omega) (by unfold tn; omega) (Na.smallC_le (by omega))
theorem tn_is {m V : Nat} (hV : V < 4294967296 ^ m) (hm : m ≤ 1000) : tn m V = (Na.d32 V).length := (Na.isRd (H := ⟨1, [r32 m V]⟩) (b := 0) rfl hV hm).2.2.2.1
theorem ps_isR {H : Hp} {b A : Nat} {D : List UInt8} (hA : A < 10 ^ D.length) (hD : D.length ≤ 801) (hb : H.blk? b = some (r32 (Na.psN ⟨⟨D⟩⟩) A)) : Na.IsR H (pA9 b) (lw9 A) (Na.psN ⟨⟨D⟩⟩) A := by
  have e : Na.psN ⟨⟨D⟩⟩ = D.length / 9 + 1 := rfl
  have h := Na.isRd (H := H) (b := b) (V := A) (m := Na.psN ⟨⟨D⟩⟩) hb (Nat.lt_trans hA (Na.ten_w32 D.length)) (by omega)
  have e2 : lw9 A = trimN (dg (Na.psN ⟨⟨D⟩⟩) (A : Int)) := h.2.2.2.1.symm
  rw [e2]
  exact h
theorem lPs_ok {D : List UInt8} (ha : allB 10 D = true) (h0 : D ≠ []) (hl : D.length ≤ 801) : okLog (lPs D (nmB 10 D) []) :=
  okCons (decide_eq_true (Na.psV_nm ha)) (okCons (Na.okP_all ha h0) (okL1 (Nat.ble_eq_true_of_le (by omega))))
theorem lPw_ok {j : Int} {k : Nat} (hj : j = (k : Nat)) (hk : k ≤ 2000) {l : Log} (hl : okLog l) : okLog (lPw j (10 ^ k) l) := by
  refine okCons (decide_eq_true (by rw [hj, Int.toNat_natCast])) (okCons ?_ (okCons (decide_eq_false (fun h => absurd h.1 (by decide))) hl))
  exact decide_eq_true ⟨by decide, by decide, by omega, .inr ⟨rfl, by omega⟩⟩
theorem te_calls {D : List UInt8} (ha : allB 10 D = true) (hA : nmB 10 D ≠ 0) (hl : D.length ≤ 801) {j : Int} (hj : -1900 ≤ j ∧ j ≤ 1900) (w : World) : Calls Tryz.prog 35 #[bR D, .int .i64 j] w fun e w' => e = .returned (teV (teT (nmB 10 D) j) (teE (nmB 10 D) j) (teM (nmB 10 D) j)) ∧ Tidy w w' := by
  have h0 : D ≠ [] := fun h => hA (by rw [h]; rfl)
  obtain ⟨A, eA⟩ : ∃ A, A = nmB 10 D := ⟨_, rfl⟩
  have hlt : A < 10 ^ D.length := by rw [eA]; exact nmB_lt (b := 10) (.inl rfl) D
  have lp := lPs_ok ha h0 hl
  rw [← eA] at lp hA
  rw [← eA]
  have epN : Na.psN ⟨⟨D⟩⟩ = D.length / 9 + 1 := rfl
  have lA : (Na.d32 A).length ≤ 90 := by
    have := db_len (b := 4294967296) (by omega) _ _ (Nat.lt_trans hlt (Na.ten_w32 D.length))
    show (db 4294967296 A).length ≤ 90
    omega
  unfold teT teE teM
  by_cases h1 : 0 ≤ j
  · rw [if_pos h1, if_pos h1, if_pos h1]
    obtain ⟨k, hk⟩ : ∃ k : Nat, j = (k : Nat) := ⟨j.toNat, by omega⟩
    obtain ⟨rP, lP⟩ := Na.pow_isR (H := teM2 D A j (10 ^ k)) (b := 2) hk (by omega) rfl
    have rA : Na.IsR (teM2 D A j (10 ^ k)) (pA9 1) (lw9 A) (Na.psN ⟨⟨D⟩⟩) A := ps_isR hlt hl rfl
    have eP : tn (Na.pMi 10 j) (10 ^ k) = (Na.d32 (10 ^ k)).length := rP.2.2.2.1
    have hP0 := ten_ne k
    have pA := Na.pos_w32 hA
    have pP := Na.pos_w32 hP0
    have hT : A * 10 ^ k < 4294967296 ^ (lw9 A + tn (Na.pMi 10 j) (10 ^ k)) := Na.mul_lt (Na.rLt rA) (Na.rLt rP)
    have lsum : lw9 A + tn (Na.pMi 10 j) (10 ^ k) ≤ 1000 := by rw [eP]; show (Na.d32 A).length + _ ≤ _; omega
    have f := te_up D j A (10 ^ k) (A * 10 ^ k)
    have hnz : (!decide (lw9 A = 0 ∨ tn (Na.pMi 10 j) (10 ^ k) = 0) && Nat.ble (lw9 A + tn (Na.pMi 10 j) (10 ^ k)) 8192) = true := Na.nz_ok2 pA (by rw [eP]; exact pP) (by omega)
    rw [show j.toNat = k by omega]
    refine fits_calls tabTe f (hg_ok hT lsum ⟨by decide, by decide⟩ ?_) (by rfl) (by rfl) w
    refine okCons (Na.rMul rA rP) (okCons (Na.rX rA) (okCons (Na.rX rP) (okCons hnz (okCons (Na.rX rA) (okCons (Na.rX rP) (okCons (Na.rOr rA rP) ?_))))))
    exact lPw_ok hk (by omega) (okCons (decide_eq_true h1) lp)
  · rw [if_neg h1, if_neg h1, if_neg h1]
    obtain ⟨k, hk⟩ : ∃ k : Nat, -j = (k : Nat) := ⟨(-j).toNat, by omega⟩
    have eN : ngJ j = (k : Nat) := by unfold ngJ; rw [wrapI (by omega) (by omega)]; omega
    obtain ⟨B, eB⟩ : ∃ B, B = 10 ^ k := ⟨_, rfl⟩
    have hP0 : B ≠ 0 := by rw [eB]; exact ten_ne k
    rw [show (-j).toNat = k by omega, ← eB]
    obtain ⟨u, hu⟩ : ∃ u, u = upT A B := ⟨_, rfl⟩
    obtain ⟨rP, lP⟩ := Na.pow_isR (H := teM2 D A (ngJ j) (10 ^ k)) (b := 2) eN (by omega) rfl
    have rA : Na.IsR (teM2 D A (ngJ j) B) (pA9 1) (lw9 A) (Na.psN ⟨⟨D⟩⟩) A := ps_isR hlt hl rfl
    rw [← eB] at rP lP
    have eP : tn (Na.pMi 10 (ngJ j)) B = (Na.d32 B).length := rP.2.2.2.1
    have pA := Na.pos_w32 hA
    have pP := Na.pos_w32 hP0
    obtain ⟨M, hM⟩ : ∃ M, M = 90 := ⟨_, rfl⟩
    obtain ⟨M', hM'⟩ : ∃ M, M = 213 := ⟨_, rfl⟩
    have bA : bitLen A ≤ 32 * M := Go.Rn.len_le (by rw [← words_pow]; exact Nat.lt_of_lt_of_le (Na.lt_w32 A) (Nat.pow_le_pow_right (by omega) (by omega)))
    have bB : bitLen B ≤ 32 * M' := Go.Rn.len_le (by rw [← words_pow]; exact Nat.lt_of_lt_of_le (Na.lt_w32 B) (Nat.pow_le_pow_right (by omega) (by omega)))
    have eU : upE ((bitLen A : Nat) : Int) ((bitLen B : Nat) : Int) = (u : Nat) := by
      unfold upE
      rw [wrapI (n := ((bitLen B : Nat) : Int) + 128) (by omega) (by omega), wrapI (by omega) (by omega), hu]
      unfold upT
      split <;> omega
    have hu2 : u ≤ 7000 := by rw [hu]; unfold upT; omega
    have hAw : A < 4294967296 ^ lw9 A := Na.lt_w32 A
    have hS := Na.shl_lt (k := u) hAw
    have hSm : Na.sM (lw9 A) (u : Nat) ≤ 1000 := by
      unfold Na.sM
      rw [Int.toNat_natCast]
      show u / 32 + ((Na.d32 A).length + 1) ≤ 1000
      omega
    obtain ⟨S, eS⟩ : ∃ S, S = A * 2 ^ u := ⟨_, rfl⟩
    rw [← eS] at hS
    have hS0 : S ≠ 0 := by rw [eS]; exact mul_ne hA (fun h => by have := Nat.pow_pos (n := u) (show 0 < 2 by omega); omega)
    have eSn := tn_is hS hSm
    have rS : Na.IsR (teM3 D A (ngJ j) B (u : Nat) S) (pA9 3) (tn (Na.sM (lw9 A) (u : Nat)) S) (Na.sM (lw9 A) (u : Nat)) S := Na.isRd rfl hS hSm
    obtain ⟨rP3, _⟩ := Na.pow_isR (H := teM3 D A (ngJ j) (10 ^ k) (u : Nat) S) (b := 2) eN (by omega) rfl
    rw [← eB] at rP3
    have hBS : B ≤ S := by
      have := upT_bits hA hP0
      rw [← hu, ← eS] at this
      rcases Nat.lt_or_ge S B with h2 | h2
      · rw [Nat.div_eq_of_lt h2] at this
        exact absurd this (by decide)
      · exact h2
    have hle := Na.le_w32 hBS
    have hQ : S / B < 4294967296 ^ (tn (Na.sM (lw9 A) (u : Nat)) S - tn (Na.pMi 10 (ngJ j)) B + 1) := by
      rw [eSn, eP]
      exact Na.quo_lt hP0 hle
    have sl : (Na.d32 S).length ≤ Na.sM (lw9 A) (u : Nat) := by
      rw [← eSn]
      have := trimN_le (dg (Na.sM (lw9 A) (u : Nat)) (S : Int))
      rw [dg_len] at this
      exact this
    have hR : S % B < 4294967296 ^ (tn (Na.sM (lw9 A) (u : Nat)) S + 1) := by
      have h2 : S % B < S + 1 := Nat.lt_succ_of_le (Nat.mod_le _ _)
      refine Nat.lt_of_lt_of_le h2 ?_
      rw [eSn, Nat.pow_succ]
      have := Na.lt_w32 S
      omega
    have sl2 : Na.sM (lw9 A) (u : Nat) ≤ 400 := by
      unfold Na.sM
      rw [Int.toNat_natCast]
      show u / 32 + ((Na.d32 A).length + 1) ≤ 400
      omega
    have eRn := tn_is hR (by rw [eSn]; omega)
    have eW : IntKind.i64.wrap (0 - ((u : Nat) : Int)) = -((u : Nat) : Int) := by rw [wrapI (by omega) (by omega)]; omega
    have hd : decide (((tn (tn (Na.sM (lw9 A) (u : Nat)) S + 1) (S % B) : Nat) : Int) > 0) = decide (S % B ≠ 0) := by
      rw [eRn]
      by_cases hz : S % B = 0
      · have h2 : (Na.d32 (S % B)).length = 0 := by rw [hz]; show (db 4294967296 0).length = 0; rw [db_zero]; rfl
        rw [h2, decide_eq_false (show ¬ (S % B ≠ 0) from fun h => h hz)]
        rfl
      · have := Na.pos_w32 hz
        rw [decide_eq_true hz]
        exact decide_eq_true (by omega)
    have f := te_dn D j A B ((bitLen A : Nat) : Int) ((bitLen B : Nat) : Int) S (S / B) (S % B) (decide (S % B ≠ 0))
    rw [eU, eW] at f
    rw [← hu, ← eS]
    refine fits_calls tabTe f (hg_ok hQ (by rw [eSn]; omega) ⟨by omega, by omega⟩ (okCons hd ?_)) (by rfl) (by rfl) w
    refine okCons (Na.rDiv rS rP3) (okCons (Na.rX rS) (okCons (Na.rX rP3) (okCons (Na.rG rS rP3 (by show 0 < tn (Na.pMi 10 (ngJ j)) B; rw [eP]; exact pP) hBS) ?_)))
    have hsh := Na.rShl rA u
    rw [← eS] at hsh
    refine okCons hsh (okCons (Na.rX rA) (okCons (Na.rBadK rA u) (okCons (Na.rNe rA hA) (okCons (Na.rFew rA hA (by omega)) ?_))))
    refine okCons (Na.rLen rA hA) (okCons (Na.rX rA) (okCons (Na.rLen rP hP0) (okCons (Na.rX rP) ?_)))
    rw [eB]
    exact lPw_ok eN (by omega) (okCons (decide_eq_false h1) lp)
def gTeR : Ans := fun vals s =>
  match vals with
  | [.string a, .int .i64 j] => some (teV (teT (nmB 10 a.data.toList) j) (teE (nmB 10 a.data.toList) j) (teM (nmB 10 a.data.toList) j), s, [(allB 10 a.data.toList, true), (decide (nmB 10 a.data.toList ≠ 0), true), (decide (a.data.toList.length ≤ 801 ∧ -1900 ≤ j ∧ j ≤ 1900), true)])
  | _ => none
theorem gTeR_ok : AnsOk 35 gTeR := by
  intro vals s v s' lg h hl w
  unfold gTeR at h
  split at h
  · rename_i a j
    cases h
    have h1 : allB 10 a.data.toList = true := hl _ List.mem_cons_self
    have h2 := of_decide_eq_true (hl _ (List.mem_cons_of_mem _ List.mem_cons_self))
    have h3 := of_decide_eq_true (hl _ (List.mem_cons_of_mem _ (List.mem_cons_of_mem _ (List.mem_singleton.2 rfl))))
    exact te_calls h1 h2 h3.1 h3.2 w
  · cases h
def conNo : Con := alt 33 gShR (alt 34 gSxR (alt 35 gTeR conN))
theorem conNo_ok : ConOk conNo := alt_ok Tryz.func33 rfl gShR_ok (alt_ok Tryz.func34 rfl gSxR_ok (alt_ok Tryz.func35 rfl gTeR_ok conN_ok))
def nuW (b : Int) (D : List UInt8) (k P : Int) : Value := .agg #[.int .i64 b, bR D, .int .i64 k, .int .i64 P]
theorem no_z (D : List UInt8) (b k P : Int) : Fits (reckon (tabOf Tryz.prog extY conNo true) 100 18 [nuW b D k P] [sam true]) (vN false 0 ⟨0, 0, 0, 0⟩ false) [lEqB D [] true] := ⟨by kernel_rfl, by kernel_rfl, by kernel_rfl, by kernel_rfl⟩
theorem no_h (D : List UInt8) (b k P : Int) : Fits (reckon (tabOf Tryz.prog extY conNo true) 100 18 [nuW b D k P] [sam false, cmp true]) (vN false (IntKind.i64.wrap (P + IntKind.i64.wrap (4 * IntKind.i64.wrap (k - ((shR 60 D).length : Nat))))) (ofN (nmB 16 (shR 60 D))) false) [(allB 16 (shR 60 D), true), (decide ((shR 60 D).length ≤ 62), true), (decide ((0 : Int) ≤ 60 ∧ (60 : Int) ≤ 1000 ∧ D.length ≤ 100000), true), (b == 16, true), lEqB D [] false] := ⟨by kernel_rfl, by kernel_rfl, by kernel_rfl, by kernel_rfl⟩
def clE (k P : Int) : Int := if 400 < (if -400 > IntKind.i64.wrap (k + P) then -400 else IntKind.i64.wrap (k + P)) then 400 else (if -400 > IntKind.i64.wrap (k + P) then -400 else IntKind.i64.wrap (k + P))
def jN (D : List UInt8) (k P : Int) : Int := IntKind.i64.wrap (clE k P - ((shR 800 D).length : Nat))
theorem no_d (D : List UInt8) (b k P : Int) : Fits (reckon (tabOf Tryz.prog extY conNo true) 100 18 [nuW b D k P] [sam false, cmp false]) (teV (teT (nmB 10 (shR 800 D)) (jN D k P)) (teE (nmB 10 (shR 800 D)) (jN D k P)) (teM (nmB 10 (shR 800 D)) (jN D k P))) [(allB 10 (shR 800 D), true), (decide (nmB 10 (shR 800 D) ≠ 0), true), (decide ((shR 800 D).length ≤ 801 ∧ -1900 ≤ jN D k P ∧ jN D k P ≤ 1900), true), (decide ((0 : Int) ≤ 800 ∧ (800 : Int) ≤ 1000 ∧ D.length ≤ 100000), true), (b == 16, false), lEqB D [] false] := ⟨by kernel_rfl, by kernel_rfl, by kernel_rfl, by kernel_rfl⟩
theorem clE_eq {k P : Int} (h : -1000000000 ≤ k + P ∧ k + P ≤ 1000000000) : clE k P = clF (k + P) := by
  unfold clE clF
  rw [wrapI (by omega) (by omega)]
  split <;> split at * <;> omega
theorem sh_all {b : Int} {D : List UInt8} (h : allB b D = true) (k : Nat) : allB b (shR k D) = true := by
  unfold shR
  split
  · exact h
  · refine allB_app ?_ ?_
    · unfold allB at *
      rw [List.all_eq_true] at *
      exact fun x hx => h x (List.mem_of_mem_take hx)
    · unfold allB dgvR
      rfl
/-- what is asked of a numeral -/
def okNo (b : Int) (D : List UInt8) (k P : Int) : Bool := allB b D && decide ((b = 10 ∨ b = 16) ∧ (b = 10 → nmB 10 (shR 800 D) ≠ 0) ∧ D.length ≤ 100000 ∧ -100000 ≤ k ∧ k ≤ 100000 ∧ -10000000 ≤ P ∧ P ≤ 10000000)
def nu4 : Value → Option (Int × ByteArray × Int × Int)
  | .agg cs =>
    match cs.toList with
    | [.int .i64 b, .string D, .int .i64 k, .int .i64 P] => some (b, D, k, P)
    | _ => none
  | _ => none
theorem nu4_spec {v : Value} {b : Int} {D : ByteArray} {k P : Int} (h : nu4 v = some (b, D, k, P)) : v = nuW b D.data.toList k P := by
  unfold nu4 at h
  split at h
  · rename_i cs
    split at h
    · rename_i hc
      cases h
      obtain ⟨l⟩ := cs
      simp only at hc
      subst hc
      rfl
    · cases h
  · cases h
/-- a numeral's number; told ahead whether it has no digits -/
def gNoR : Ans := fun vals s =>
  match vals, s with
  | [v], .inr (.inr (.inr (.inl true))) :: s' =>
    match nu4 v with
    | some (_, D, _, _) => some (vN false 0 ⟨0, 0, 0, 0⟩ false, s', [(decide (D.data.toList = []), true)])
    | none => none
  | [v], .inr (.inr (.inr (.inl false))) :: s' =>
    match nu4 v with
    | some (b, D, k, P) => some (vN false (noE b D.data.toList k P) (ofN (noS b D.data.toList k P)) (noM b D.data.toList k P), s', [(decide (D.data.toList = []), false), (okNo b D.data.toList k P, true)])
    | none => none
  | _, _ => none
theorem gNoR_ok : AnsOk 18 gNoR := by
  intro vals s v s' lg h hl w
  have hT := tabY_ok conNo_ok
  unfold gNoR at h
  split at h
  · rename_i v0 s2
    split at h
    rotate_left
    · cases h
    rename_i b D k P hv
    rw [nu4_spec hv]
    cases h
    have h1 : decide (D.data.toList = []) = true := hl _ (List.mem_singleton.2 rfl)
    exact fits_calls hT (no_z D.data.toList b k P) (okL1 (ok_lEqB h1)) (by rfl) (by rfl) w
  · rename_i v0 s2
    split at h
    rotate_left
    · cases h
    rename_i b D k P hv
    rw [nu4_spec hv]
    cases h
    have h1 : decide (D.data.toList = []) = false := hl _ List.mem_cons_self
    have h2 : okNo b D.data.toList k P = true := hl _ (List.mem_cons_of_mem _ (List.mem_singleton.2 rfl))
    unfold okNo at h2
    rw [Bool.and_eq_true, decide_eq_true_eq] at h2
    obtain ⟨ha, hb, hz, hl, hk1, hk2, hP1, hP2⟩ := h2
    by_cases h16 : b = 16
    · have sl := sh_len 60 D.data.toList
      have f := no_h D.data.toList b k P
      have e : IntKind.i64.wrap (P + IntKind.i64.wrap (4 * IntKind.i64.wrap (k - ((shR 60 D.data.toList).length : Nat)))) = P + 4 * (k - ((shR 60 D.data.toList).length : Nat)) := by
        rw [wrapI (n := k - ((shR 60 D.data.toList).length : Nat)) (by omega) (by omega), wrapI (n := 4 * (k - ((shR 60 D.data.toList).length : Nat))) (by omega) (by omega), wrapI (by omega) (by omega)]
      rw [e] at f
      unfold noE noS noM
      rw [if_pos h16, if_pos h16, if_pos h16]
      rw [h16] at ha
      exact fits_calls hT f (okCons (sh_all ha 60) (okCons (decide_eq_true (by omega)) (okCons (decide_eq_true ⟨by decide, by decide, hl⟩) (okCons (by simpa using h16) (okL1 (ok_lEqB h1)))))) (by rfl) (by rfl) w
    · have h10 : b = 10 := by omega
      have sl := sh_len 800 D.data.toList
      have f := no_d D.data.toList b k P
      have ec := clE_eq (k := k) (P := P) (by omega)
      have bc : -400 ≤ clF (k + P) ∧ clF (k + P) ≤ 400 := by unfold clF; omega
      have e : jN D.data.toList k P = clF (k + P) - ((shR 800 D.data.toList).length : Nat) := by
        unfold jN
        rw [ec, wrapI (by omega) (by omega)]
      rw [e] at f
      unfold noE noS noM
      rw [if_neg h16, if_neg h16, if_neg h16]
      rw [h10] at ha
      exact fits_calls hT f (okCons (sh_all ha 800) (okCons (decide_eq_true (hz h10)) (okCons (decide_eq_true ⟨by omega, by omega, by omega⟩) (okCons (decide_eq_true ⟨by decide, by decide, hl⟩) (okCons (by simpa using h16) (okL1 (ok_lEqB h1))))))) (by rfl) (by rfl) w
  · cases h
end Go.Proofs.YtjlponbdflkbjaaGreatDoor
namespace Go.Proofs.YtjlponbdflkbjaaGreatDoor
open Go.KRun Go.Wd Go.Pt Go.Rn
set_option maxRecDepth 100000
def cutT (x : W4) (b : Bool) (d : Nat) : Value := .tuple #[vW (ofN (tw x b / 2 ^ (d + 1))), .int .i64 (restC (tw x b % 2 ^ (d + 1)) (2 ^ (d + 1)))]
theorem lok_ok {x : W4} {n : Int} (h : x.ok) (h0 : -9223372036854775808 ≤ n) (h1 : n ≤ 9223372036854775807) : decide (x.ok ∧ -9223372036854775808 ≤ n ∧ n ≤ 9223372036854775807) = true := decide_eq_true ⟨h, h0, h1⟩
theorem cut_calls (n b : Bool) (x : W4) (ex e : Int) (hx : x.ok) (h1 : -4000 ≤ ex) (h2 : ex ≤ e) (h3 : e ≤ 4000) (w : World) : Calls Tryz.prog 84 #[vN n ex x b, .int .i64 e] w fun r w' => r = .returned (cutT x b (e - ex).toNat) ∧ Tidy w w' := by
  obtain ⟨d, hd⟩ : ∃ d : Nat, e - ex = (d : Int) := ⟨(e - ex).toNat, by omega⟩
  have e1 : dnI ex e = (d : Int) := by unfold dnI; rw [wrapI' ⟨by omega, by omega⟩, hd]
  have e2 : dn1 ex e = (d : Int) - 1 := by
    unfold dn1
    rw [wrapI' (n := e - ex) ⟨by omega, by omega⟩, hd, wrapI' ⟨by omega, by omega⟩]
  have eV : ∀ c, c = restC (tw x b % 2 ^ (d + 1)) (2 ^ (d + 1)) → ctV x ex e c = cutT x b (e - ex).toNat := fun c hc => by
    unfold ctV cutT
    rw [e1, shrW_nat hx (by omega), hd, Int.toNat_natCast, tw_div, hc]
  have k1 : decide (x.ok ∧ -9223372036854775808 ≤ dnI ex e ∧ dnI ex e ≤ 9223372036854775807) = true := lok_ok hx (by omega) (by omega)
  have k2 : decide (x.ok ∧ -9223372036854775808 ≤ dn1 ex e ∧ dn1 ex e ≤ 9223372036854775807) = true := lok_ok hx (by omega) (by omega)
  have kl : shrL x (dnI ex e) = decide (x.nat % 2 ^ d ≠ 0) := by rw [e1, shrL_nat hx (by omega), Int.toNat_natCast]
  have hv : ([vN n ex x b, .int .i64 e].all (lt 0)) = true := rfl
  by_cases hl : x.nat % 2 ^ d = 0
  · have kf : shrL x (dnI ex e) = false := by rw [kl]; simp [hl]
    cases b
    · rw [← eV 0 (by rw [rc_none hl])]
      exact fits_calls (tabY_ok conH_ok) (ct0 n x ex e) (okCons k1 (okL1 kf)) hv (by rfl) w
    · cases d with
      | zero =>
        rw [← eV 2 (by rw [rc_zero])]
        exact fits_calls (tabY_ok conH_ok) (ct1 n x ex e) (okCons (by rw [e1]; rfl) (okCons k1 (okL1 kf))) hv (by rfl) w
      | succ j =>
        have k0 : (dnI ex e == 0) = false := by rw [e1]; simp; omega
        have e3 : dn1 ex e = (j : Int) := by rw [e2]; omega
        have kb : bitI x (dn1 ex e) = ((x.nat / 2 ^ j % 2 : Nat) : Int) := by rw [e3, bitI_nat hx (by omega), Int.toNat_natCast]
        by_cases hb : x.nat / 2 ^ j % 2 = 0
        · rw [← eV 1 (by rw [rc_below hb (.inr rfl)])]
          exact fits_calls (tabY_ok conH_ok) (ct2 n x ex e true) (okCons (by rw [kb, hb]; rfl) (okCons k2 (okCons k0 (okCons k1 (okL1 kf))))) hv (by rfl) w
        · have hb' : x.nat / 2 ^ j % 2 = 1 := by omega
          rw [← eV 3 (by rw [rc_above hb' (.inr rfl)])]
          exact fits_calls (tabY_ok conH_ok) (ct2 n x ex e false) (okCons (by rw [kb, hb']; rfl) (okCons k2 (okCons k0 (okCons k1 (okL1 kf))))) hv (by rfl) w
  · have kf : shrL x (dnI ex e) = true := by rw [kl]; simp [hl]
    cases d with
    | zero => exact absurd (by simp [Nat.mod_one]) hl
    | succ j =>
      have k0 : (dnI ex e == 0) = false := by rw [e1]; simp; omega
      have e3 : dn1 ex e = (j : Int) := by rw [e2]; omega
      have kb : bitI x (dn1 ex e) = ((x.nat / 2 ^ j % 2 : Nat) : Int) := by rw [e3, bitI_nat hx (by omega), Int.toNat_natCast]
      by_cases hb : x.nat / 2 ^ j % 2 = 0
      · rw [← eV 1 (by rw [rc_below hb (.inl hl)])]
        exact fits_calls (tabY_ok conH_ok) (ct4 n b x ex e) (okCons (by rw [kb, hb]; rfl) (okCons k2 (okCons k0 (okCons k1 (okL1 kf))))) hv (by rfl) w
      · have hb' : x.nat / 2 ^ j % 2 = 1 := by omega
        cases b
        · have hs : shrW x (dnI ex e) = ofN (x.nat / 2 ^ (j + 1)) := by rw [e1, shrW_nat hx (by omega), Int.toNat_natCast]
          have hlt := W4.nat_lt hx
          have hle : x.nat / 2 ^ (j + 1) ≤ x.nat := Nat.div_le_self _ _
          have hle2 : 2 * (x.nat / 2 ^ (j + 1)) ≤ x.nat := by
            have := Nat.div_mul_le_self x.nat (2 ^ (j + 1))
            have hp : 0 < 2 ^ j := Nat.pow_pos (by omega)
            have h9 : 2 * (x.nat / 2 ^ (j + 1)) ≤ x.nat / 2 ^ (j + 1) * 2 ^ (j + 1) := by
              rw [Nat.mul_comm 2, Nat.pow_succ]
              exact Nat.mul_le_mul_left _ (by omega)
            omega
          have ht : tw (shrW x (dnI ex e)) true = 2 * (x.nat / 2 ^ (j + 1)) + 1 := by
            unfold tw
            rw [hs, ofN_nat (by omega)]
          have hk : bkW x ex e = ofN ((2 * (x.nat / 2 ^ (j + 1)) + 1) * 2 ^ j) := by
            unfold bkW
            have e256 : (2 : Nat) ^ 256 = 115792089237316195423570985008687907853269984665640564039457584007913129639936 := rfl
            rw [ht, e3, shlW_nat (ofN_ok _) (by omega), Int.toNat_natCast, ofN_nat (by omega)]
          have kq : eqW x (bkW x ex e) = decide (x.nat % 2 ^ j = 0) := by rw [hk, back_iff hx hb']
          have kok : decide ((ofN (tw (shrW x (dnI ex e)) true)).ok ∧ -9223372036854775808 ≤ dn1 ex e ∧ dn1 ex e ≤ 9223372036854775807) = true := lok_ok (ofN_ok _) (by omega) (by omega)
          have ks : decide (shrW x (dnI ex e)).ok = true := by rw [hs]; exact decide_eq_true (ofN_ok _)
          by_cases hz : x.nat % 2 ^ j = 0
          · rw [← eV 2 (by rw [rc_half hb' hz])]
            exact fits_calls (tabY_ok conH_ok) (ct6 n x ex e false) (okCons (by rw [kq, decide_eq_true hz]; rfl) (okCons kok (okCons ks (okCons (by rw [kb, hb']; rfl) (okCons k2 (okCons k0 (okCons k1 (okL1 kf)))))))) hv (by rfl) w
          · rw [← eV 3 (by rw [rc_above hb' (.inl hz)])]
            exact fits_calls (tabY_ok conH_ok) (ct6 n x ex e true) (okCons (by rw [kq, decide_eq_false hz]; rfl) (okCons kok (okCons ks (okCons (by rw [kb, hb']; rfl) (okCons k2 (okCons k0 (okCons k1 (okL1 kf)))))))) hv (by rfl) w
        · rw [← eV 3 (by rw [rc_above hb' (.inr rfl)])]
          exact fits_calls (tabY_ok conH_ok) (ct5 n x ex e) (okCons (by rw [kb, hb']; rfl) (okCons k2 (okCons k0 (okCons k1 (okL1 kf))))) hv (by rfl) w
/-- what cut asks of its numbers -/
def okCut (x : W4) (ex e : Int) : Bool := decide (x.ok ∧ -4000 ≤ ex ∧ ex ≤ e ∧ e ≤ 4000)
def gCut : Ans := fun vals s =>
  match vals with
  | [v, .int .i64 e] =>
    match n7 v with
    | some (_, ex, x, b) => some (cutT x b (e - ex).toNat, s, [(okCut x ex e, true)])
    | none => none
  | _ => none
theorem gCut_ok : AnsOk 84 gCut := by
  intro vals s v s' lg h hl w
  unfold gCut at h
  split at h
  · split at h
    · rename_i n ex x b hn
      cases h
      have h1 := of_decide_eq_true (hl _ (List.mem_singleton.2 rfl))
      rw [n7_spec hn]
      exact cut_calls n b x ex _ h1.1 h1.2.1 h1.2.2.1 h1.2.2.2 w
    · cases h
  · cases h
def conC : Con := alt 85 gUp (alt 84 gCut conH)
theorem conC_ok : ConOk conC := alt_ok Tryz.func85 rfl gUp_ok (alt_ok Tryz.func84 rfl gCut_ok conH_ok)
def lowW (x : W4) (b : Bool) (ex e : Int) : W4 := ofN (tw x b / 2 ^ ((e - ex).toNat + 1))
def rsI (x : W4) (b : Bool) (ex e : Int) : Int := restC (tw x b % 2 ^ ((e - ex).toNat + 1)) (2 ^ ((e - ex).toNat + 1))
def upX (m : Int) (n : Bool) (x : W4) (b : Bool) (ex e : Int) : Bool := upR m n (bitI (lowW x b ex e) 0 != 0) (rsI x b ex e)
def up1 (ex e : Int) : Int := IntKind.i64.wrap (IntKind.i64.wrap (ex - e) - 1)
def w1 : W4 := ⟨1, 0, 0, 0⟩
def w63 : W4 := ⟨0, 0, 0, 9223372036854775808⟩
def lAd (x : W4) : Bool × Bool := (decide (x.ok ∧ w1.ok), true)
def lBt (x : W4) : Bool × Bool := (decide (x.ok ∧ (-9223372036854775808 : Int) ≤ 0 ∧ (0 : Int) ≤ 9223372036854775807), true)
def lOv (x : W4) (d : Bool) : Bool × Bool := (decide (115792089237316195423570985008687907853269984665640564039457584007913129639936 ≤ x.val + w1.val), d)
def tmR (n : Bool) (e : Int) (x : W4) (l : Bool) : Value := .tuple #[vN n e x false, .bool l]
theorem tm0 (n b : Bool) (x : W4) (ex e m : Int) : Fits (reckon (tabOf Tryz.prog extY conC true) 300 40 [vN n ex x b, .int .i64 e, .int .i64 m] [cmp true]) (tmR n e (shlW (ofN (tw x b)) (up1 ex e)) false) [lok (ofN (tw x b)) (up1 ex e), (decide x.ok, true), (decide (e < ex), true)] := ⟨by kernel_rfl, by kernel_rfl, by kernel_rfl, by kernel_rfl⟩
theorem tm1 (n b : Bool) (x : W4) (ex e m : Int) : Fits (reckon (tabOf Tryz.prog extY conC true) 300 40 [vN n ex x b, .int .i64 e, .int .i64 m] [cmp false, tst false, tst false]) (tmR n e (lowW x b ex e) (rsI x b ex e != 0)) [(upX m n x b ex e, false), lBt (lowW x b ex e), (okCut x ex e, true), (false, false), (decide (e < ex), false)] := ⟨by kernel_rfl, by kernel_rfl, by kernel_rfl, by kernel_rfl⟩
theorem tm2 (n b : Bool) (x : W4) (ex e m : Int) : Fits (reckon (tabOf Tryz.prog extY conC true) 300 40 [vN n ex x b, .int .i64 e, .int .i64 m] [cmp false, tst false, tst true, tst false]) (tmR n e (W4.of ((lowW x b ex e).val + w1.val)) (rsI x b ex e != 0)) [lOv (lowW x b ex e) false, lAd (lowW x b ex e), lAd (lowW x b ex e), lAd (lowW x b ex e), (upX m n x b ex e, true), lBt (lowW x b ex e), (okCut x ex e, true), (false, false), (decide (e < ex), false)] := ⟨by kernel_rfl, by kernel_rfl, by kernel_rfl, by kernel_rfl⟩
theorem tm3 (n b : Bool) (x : W4) (ex e m : Int) : Fits (reckon (tabOf Tryz.prog extY conC true) 300 40 [vN n ex x b, .int .i64 e, .int .i64 m] [cmp false, tst false, tst true, tst true]) (tmR n (IntKind.i64.wrap (e + 1)) w63 (rsI x b ex e != 0)) [lOv (lowW x b ex e) true, lAd (lowW x b ex e), lAd (lowW x b ex e), lAd (lowW x b ex e), (upX m n x b ex e, true), lBt (lowW x b ex e), (okCut x ex e, true), (false, false), (decide (e < ex), false)] := ⟨by kernel_rfl, by kernel_rfl, by kernel_rfl, by kernel_rfl⟩
theorem ofN_nat' (n : Nat) : (ofN n).nat = n % 2 ^ 256 := by
  have e : (2 : Nat) ^ 256 = 115792089237316195423570985008687907853269984665640564039457584007913129639936 := rfl
  unfold W4.nat ofN
  rw [W4.val_of, e]
  omega
theorem low_lt {x : W4} (hx : x.ok) (b : Bool) (d : Nat) : tw x b / 2 ^ (d + 1) < 2 ^ 256 := by
  rw [tw_div]
  exact Nat.lt_of_le_of_lt (Nat.div_le_self _ _) (W4.nat_lt hx)
theorem upX_eq {m : Int} {n : Bool} {x : W4} {b : Bool} {ex e : Int} (hx : x.ok) : upX m n x b ex e = upR m n (odd (tw x b / 2 ^ ((e - ex).toNat + 1))) (rsI x b ex e) := by
  unfold upX lowW
  congr 1
  rw [bitI_nat (ofN_ok _) (by omega), ofN_nat (low_lt hx _ _)]
  unfold odd
  generalize tw x b / 2 ^ ((e - ex).toNat + 1) = q
  have e0 : q / 2 ^ (0 : Int).toNat % 2 = q % 2 := by simp
  rw [e0, Bool.eq_iff_iff]
  simp only [bne_iff_ne, ne_eq, decide_eq_true_eq]
  omega
theorem toQ_down {m : Int} {n : Bool} {T : Nat} {ex e : Int} (h : ex ≤ e) : toQ m n T (ex - 1) e = rq m n T ((e - ex).toNat + 1) := by
  unfold toQ
  rw [if_neg (by omega)]
  congr 1
  omega
theorem toL_down {T : Nat} {ex e : Int} (h : ex ≤ e) : toL T (ex - 1) e = decide (T % 2 ^ ((e - ex).toNat + 1) ≠ 0) := by
  unfold toL
  rw [if_neg (by omega), show (e - (ex - 1)).toNat = (e - ex).toNat + 1 by omega]
theorem rs_ne {x : W4} {b : Bool} {ex e : Int} (h : ex ≤ e) : (rsI x b ex e != 0) = toL (tw x b) (ex - 1) e := by
  rw [toL_down h, Bool.eq_iff_iff]
  simp only [bne_iff_ne, ne_eq, decide_eq_true_eq]
  unfold rsI
  rw [restC_iff]
theorem tm_calls (n b : Bool) (x : W4) (ex e m : Int) (hx : x.ok) (h1 : -4000 ≤ ex) (h1' : ex ≤ 4000) (h2 : -4000 ≤ e) (h3 : e ≤ 4000) (hq : toQ m n (tw x b) (ex - 1) e < 2 ^ 256) (w : World) : Calls Tryz.prog 40 #[vN n ex x b, .int .i64 e, .int .i64 m] w fun r w' => r = .returned (tmR n e (ofN (toQ m n (tw x b) (ex - 1) e)) (toL (tw x b) (ex - 1) e)) ∧ Tidy w w' := by
  have hv : ([vN n ex x b, .int .i64 e, .int .i64 m].all (lt 0)) = true := rfl
  by_cases hlt : e < ex
  · have e1 : up1 ex e = ex - e - 1 := by unfold up1; rw [wrapI' (n := ex - e) ⟨by omega, by omega⟩, wrapI' ⟨by omega, by omega⟩]
    have h := fits_calls (tabY_ok conC_ok) (tm0 n b x ex e m) (okCons (lok_ok (ofN_ok _) (by omega) (by omega)) (okCons (decide_eq_true hx) (okL1 (decide_eq_true hlt)))) hv (by rfl) w
    rw [e1, shlW_nat (ofN_ok _) (by omega), ofN_nat', ofN_mul_mod] at h
    unfold toQ toL
    rw [if_pos (by omega), if_pos (by omega), show (ex - 1 - e).toNat = (ex - e - 1).toNat by omega]
    exact h
  · have hle : ex ≤ e := by omega
    have kc : okCut x ex e = true := decide_eq_true ⟨hx, h1, hle, h3⟩
    have kb : (decide ((lowW x b ex e).ok ∧ (-9223372036854775808 : Int) ≤ 0 ∧ (0 : Int) ≤ 9223372036854775807)) = true := decide_eq_true ⟨ofN_ok _, by omega, by omega⟩
    have kl : decide (e < ex) = false := decide_eq_false hlt
    have ka : decide ((lowW x b ex e).ok ∧ w1.ok) = true := decide_eq_true ⟨ofN_ok _, W4.ok_of 1⟩
    rw [toQ_down hle] at hq ⊢
    rw [← rs_ne hle]
    have hu := upX_eq (m := m) (n := n) (b := b) (ex := ex) (e := e) hx
    unfold rq at hq ⊢
    by_cases hup : upX m n x b ex e = true
    · rw [hu] at hup
      unfold rsI at hup
      rw [if_pos hup] at hq ⊢
      have hval : (lowW x b ex e).val = ((tw x b / 2 ^ ((e - ex).toNat + 1) : Nat) : Int) := by
        unfold lowW
        rw [W4.nat_val (ofN_ok _), ofN_nat (low_lt hx _ _)]
      have e256 : (2 : Nat) ^ 256 = 115792089237316195423570985008687907853269984665640564039457584007913129639936 := rfl
      have hw1 : w1.val = 1 := rfl
      have ko : decide (115792089237316195423570985008687907853269984665640564039457584007913129639936 ≤ (lowW x b ex e).val + w1.val) = false := decide_eq_false (by rw [hval, hw1]; omega)
      have h := fits_calls (tabY_ok conC_ok) (tm2 n b x ex e m) (okCons ko (okCons ka (okCons ka (okCons ka (okCons (by rw [hu]; exact hup) (okCons kb (okCons kc (okCons rfl (okL1 kl))))))))) hv (by rfl) w
      rw [hval, hw1] at h
      exact h
    · rw [Bool.not_eq_true] at hup
      have h := fits_calls (tabY_ok conC_ok) (tm1 n b x ex e m) (okCons hup (okCons kb (okCons kc (okCons rfl (okL1 kl))))) hv (by rfl) w
      rw [hu] at hup
      unfold rsI at hup
      rw [hup]
      exact h
theorem tm_over (n b : Bool) (x : W4) (ex e m : Int) (hx : x.ok) (h1 : -4000 ≤ ex) (hle : ex ≤ e) (h3 : e ≤ 4000) (hq : ¬ toQ m n (tw x b) (ex - 1) e < 2 ^ 256) (w : World) : Calls Tryz.prog 40 #[vN n ex x b, .int .i64 e, .int .i64 m] w fun r w' => r = .returned (tmR n (e + 1) w63 (toL (tw x b) (ex - 1) e)) ∧ Tidy w w' := by
  have hv : ([vN n ex x b, .int .i64 e, .int .i64 m].all (lt 0)) = true := rfl
  have hlt : ¬ e < ex := by omega
  have kc : okCut x ex e = true := decide_eq_true ⟨hx, h1, hle, h3⟩
  have kb : (decide ((lowW x b ex e).ok ∧ (-9223372036854775808 : Int) ≤ 0 ∧ (0 : Int) ≤ 9223372036854775807)) = true := decide_eq_true ⟨ofN_ok _, by omega, by omega⟩
  have kl : decide (e < ex) = false := decide_eq_false hlt
  have ka : decide ((lowW x b ex e).ok ∧ w1.ok) = true := decide_eq_true ⟨ofN_ok _, W4.ok_of 1⟩
  rw [toQ_down hle] at hq
  rw [← rs_ne hle]
  have hu := upX_eq (m := m) (n := n) (b := b) (ex := ex) (e := e) hx
  have hlw := low_lt hx b (e - ex).toNat
  unfold rq at hq
  by_cases hup : upX m n x b ex e = true
  · have hup' := hup
    rw [hu] at hup
    unfold rsI at hup
    rw [if_pos hup] at hq
    have hval : (lowW x b ex e).val = ((tw x b / 2 ^ ((e - ex).toNat + 1) : Nat) : Int) := by
      unfold lowW
      rw [W4.nat_val (ofN_ok _), ofN_nat (low_lt hx _ _)]
    have e256 : (2 : Nat) ^ 256 = 115792089237316195423570985008687907853269984665640564039457584007913129639936 := rfl
    have hw1 : w1.val = 1 := rfl
    have ko : decide (115792089237316195423570985008687907853269984665640564039457584007913129639936 ≤ (lowW x b ex e).val + w1.val) = true := decide_eq_true (by rw [hval, hw1]; omega)
    have h := fits_calls (tabY_ok conC_ok) (tm3 n b x ex e m) (okCons ko (okCons ka (okCons ka (okCons ka (okCons hup' (okCons kb (okCons kc (okCons rfl (okL1 kl))))))))) hv (by rfl) w
    rw [wrapI' ⟨by omega, by omega⟩] at h
    exact h
  · rw [hu] at hup
    unfold rsI at hup
    rw [if_neg hup] at hq
    omega
/-- what it asks; whether all bits fit is told ahead -/
def okTm (x : W4) (ex e : Int) : Bool := decide (x.ok ∧ -4000 ≤ ex ∧ ex ≤ 4000 ∧ -4000 ≤ e ∧ e ≤ 4000)
def gTm : Ans := fun vals s =>
  match vals with
  | [v, .int .i64 e, .int .i64 m] =>
    match n7 v, s with
    | some (n, ex, x, b), .inr (.inr (.inr (.inl true))) :: .inr (.inr (.inr (.inl d))) :: s' => some (tmR n e (ofN (toQ m n (tw x b) (ex - 1) e)) d, s', [(toL (tw x b) (ex - 1) e, d), (decide (toQ m n (tw x b) (ex - 1) e < 2 ^ 256), true), (okTm x ex e, true)])
    | some (n, ex, x, b), [.inr (.inr (.inr (.inl true)))] => some (tmR n e (ofN (toQ m n (tw x b) (ex - 1) e)) (toL (tw x b) (ex - 1) e), [], [(decide (toQ m n (tw x b) (ex - 1) e < 2 ^ 256), true), (okTm x ex e, true)])
    | some (n, ex, x, b), .inr (.inr (.inr (.inl false))) :: s' => some (tmR n (e + 1) w63 (toL (tw x b) (ex - 1) e), s', [(decide (toQ m n (tw x b) (ex - 1) e < 2 ^ 256), false), (decide (ex ≤ e), true), (okTm x ex e, true)])
    | _, _ => none
  | _ => none
theorem gTm_ok : AnsOk 40 gTm := by
  intro vals s v s' lg h hl w
  unfold gTm at h
  split at h
  · split at h
    · rename_i n ex x b d s2 hn
      cases h
      rw [okCs, okCs, okCs] at hl
      have h1 := of_decide_eq_true hl.2.2.1
      rw [n7_spec hn, ← hl.1]
      exact tm_calls n b x ex _ _ h1.1 h1.2.1 h1.2.2.1 h1.2.2.2.1 h1.2.2.2.2 (of_decide_eq_true hl.2.1) w
    · rename_i n ex x b hn
      cases h
      rw [okCs, okCs] at hl
      have h1 := of_decide_eq_true hl.2.1
      rw [n7_spec hn]
      exact tm_calls n b x ex _ _ h1.1 h1.2.1 h1.2.2.1 h1.2.2.2.1 h1.2.2.2.2 (of_decide_eq_true hl.1) w
    · rename_i n ex x b s2 hn
      cases h
      rw [okCs, okCs, okCs] at hl
      have h1 := of_decide_eq_true hl.2.2.1
      rw [n7_spec hn]
      exact tm_over n b x ex _ _ h1.1 h1.2.1 (of_decide_eq_true hl.2.1) h1.2.2.2.2 (of_decide_eq_false hl.1) w
    · cases h
  · cases h
def conT : Con := alt 40 gTm conC
theorem conT_ok : ConOk conT := alt_ok Tryz.func40 rfl gTm_ok conC_ok
/-! ### nearer -/
def clp (e : Int) : Int := if 2000 < (if -2000 > e then -2000 else e) then 2000 else (if -2000 > e then -2000 else e)
theorem clp_bd (e : Int) : -2000 ≤ clp e ∧ clp e ≤ 2000 := by unfold clp; split <;> split <;> omega
theorem nr_fits (n b : Bool) (x : W4) (e : Int) : Fits (reckon (tabOf Tryz.prog extY conN true) 300 38 [vN n e x b] []) (vN n (clp e) x b) [] := ⟨by kernel_rfl, by kernel_rfl, by kernel_rfl, by kernel_rfl⟩
def gNear : Ans := fun vals s =>
  match vals with
  | [v] =>
    match n7 v with
    | some (n, e, x, b) => some (vN n (clp e) x b, s, [])
    | none => none
  | _ => none
theorem gNear_ok : AnsOk 38 gNear := by
  intro vals s v s' lg h hl w
  unfold gNear at h
  split at h
  · split at h
    · rename_i n e x b hn
      cases h
      rw [n7_spec hn]
      exact fits_calls (tabY_ok conN_ok) (nr_fits n b x e) okNl (by rfl) (by rfl) w
    · cases h
  · cases h
/-! ### beyond -/
theorem by_t (n : Bool) (m : Int) : Fits (reckon (tabOf Tryz.prog extY conT true) 300 42 [.bool n, .int .i64 m] [tst true]) (.int .u64 9218868437227405312) [(upR m n true 3, true)] := ⟨by kernel_rfl, by kernel_rfl, by kernel_rfl, by kernel_rfl⟩
theorem by_f (n : Bool) (m : Int) : Fits (reckon (tabOf Tryz.prog extY conT true) 300 42 [.bool n, .int .i64 m] [tst false]) (.int .u64 9218868437227405311) [(upR m n true 3, false)] := ⟨by kernel_rfl, by kernel_rfl, by kernel_rfl, by kernel_rfl⟩
def gBey : Ans := fun vals s =>
  match vals with
  | [.bool n, .int .i64 m] => some (.int .u64 (bey m n), s, [])
  | _ => none
theorem gBey_ok : AnsOk 42 gBey := by
  intro vals s v s' lg h hl w
  unfold gBey at h
  split at h
  · rename_i n m
    cases h
    unfold bey
    by_cases hu : upR m n true 3 = true
    · rw [if_pos hu]
      exact fits_calls (tabY_ok conT_ok) (by_t n m) (okL1 hu) (by rfl) (by rfl) w
    · rw [if_neg hu]
      exact fits_calls (tabY_ok conT_ok) (by_f n m) (okL1 (by simpa using hu)) (by rfl) (by rfl) w
  · cases h
/-! ### isTiny -/
def m52 (k : Int) : Int := IntKind.i64.wrap (k - 52)
def tnQ (m : Int) (n : Bool) (x : W4) (b : Bool) (ex k : Int) : W4 := ofN (toQ m n (tw x b) (ex - 1) (m52 k))
def lgW (e : Int) (x : W4) : Int := IntKind.i64.wrap (IntKind.i64.wrap (e + lenI x) - 1)
theorem ti0 (n b : Bool) (x : W4) (ex k m : Int) : Fits (reckon (tabOf Tryz.prog extY conT true) 300 43 [vN n ex x b, .int .i64 k, .int .i64 m] [cmp true]) (.bool (decide (k < -1022))) [(k != -1023, true)] := ⟨by kernel_rfl, by kernel_rfl, by kernel_rfl, by kernel_rfl⟩
theorem ti1 (n b : Bool) (x : W4) (ex k m : Int) : Fits (reckon (tabOf Tryz.prog extY conT true) 300 43 [vN n ex x b, .int .i64 k, .int .i64 m] [cmp false, cmp true]) (.bool (decide (lgW (m52 k) (tnQ m n x b ex k) < -1022))) [(decide (tnQ m n x b ex k).ok, true), (decide (toQ m n (tw x b) (ex - 1) (m52 k) < 2 ^ 256), true), (okTm x ex (m52 k), true), (k != -1023, false)] := ⟨by kernel_rfl, by kernel_rfl, by kernel_rfl, by kernel_rfl⟩
def tnK (m : Int) (n : Bool) (T : Nat) (E k : Int) : Bool := if k = -1023 then decide (toQ m n T E (-1075) < 9007199254740992) else decide (k < -1022)
theorem lenI_nat (x : W4) : lenI x = (bitLen x.nat : Nat) := rfl
theorem len_lt53 {q : Nat} : bitLen q < 54 ↔ q < 9007199254740992 := by
  constructor
  · intro h
    have h1 := (bitLen_spec q).1
    have h2 := Nat.pow_le_pow_right (show 0 < 2 by omega) (show bitLen q ≤ 53 by omega)
    have e : (2 : Nat) ^ 53 = 9007199254740992 := rfl
    omega
  · intro h
    have := len_le (T := q) (k := 53) h
    omega
theorem tiny_calls (n b : Bool) (x : W4) (ex k m : Int) (h1 : x.ok ∧ -4000 ≤ ex ∧ ex ≤ 4000 ∧ -4000 ≤ (0 : Int) ∧ (0 : Int) ≤ 4000) (h2 : k = -1023 → toQ m n (tw x b) (ex - 1) (-1075) < 2 ^ 256) (w : World) : Calls Tryz.prog 43 #[vN n ex x b, .int .i64 k, .int .i64 m] w fun r w' => r = .returned (.bool (tnK m n (tw x b) (ex - 1) k)) ∧ Tidy w w' := by
  unfold tnK
  by_cases hk : k = -1023
  · rw [if_pos hk]
    have e0 : m52 k = -1075 := by rw [hk]; rfl
    have hq := h2 hk
    have hlen : bitLen (toQ m n (tw x b) (ex - 1) (-1075)) ≤ 256 := len_le hq
    have e1 : lgW (m52 k) (tnQ m n x b ex k) = -1076 + (bitLen (toQ m n (tw x b) (ex - 1) (-1075)) : Nat) := by
      unfold lgW tnQ
      rw [e0, lenI_nat, ofN_nat hq, wrapI' (n := -1075 + ((bitLen (toQ m n (tw x b) (ex - 1) (-1075)) : Nat) : Int)) ⟨by omega, by omega⟩, wrapI' ⟨by omega, by omega⟩]
      omega
    have h := fits_calls (tabY_ok conT_ok) (ti1 n b x ex k m) (okCons (decide_eq_true (ofN_ok _)) (okCons (by rw [e0]; exact decide_eq_true hq) (okCons (by rw [e0]; exact decide_eq_true ⟨h1.1, h1.2.1, h1.2.2.1, by omega, by omega⟩) (okL1 (by rw [hk]; rfl))))) (by rfl) (by rfl) w
    rw [e1] at h
    have e2 : decide (-1076 + ((bitLen (toQ m n (tw x b) (ex - 1) (-1075)) : Nat) : Int) < -1022) = decide (toQ m n (tw x b) (ex - 1) (-1075) < 9007199254740992) := by
      congr 1
      rw [← len_lt53]
      simp only [eq_iff_iff]
      omega
    rw [e2] at h
    exact h
  · rw [if_neg hk]
    exact fits_calls (tabY_ok conT_ok) (ti0 n b x ex k m) (okL1 (by simpa using hk)) (by rfl) (by rfl) w
def gTiny : Ans := fun vals s =>
  match vals with
  | [v, .int .i64 k, .int .i64 m] =>
    match n7 v, s with
    | some (n, ex, x, b), .inr (.inr (.inr (.inl d))) :: s' => some (.bool d, s', [(tnK m n (tw x b) (ex - 1) k, d), (decide (k = -1023 → toQ m n (tw x b) (ex - 1) (-1075) < 2 ^ 256), true), (okTm x ex 0, true)])
    | _, _ => none
  | _ => none
theorem gTiny_ok : AnsOk 43 gTiny := by
  intro vals s v s' lg h hl w
  unfold gTiny at h
  split at h
  · split at h
    · rename_i n ex x b d s2 hn
      cases h
      rw [okCs, okCs, okCs] at hl
      rw [n7_spec hn, ← hl.1]
      exact tiny_calls n b x ex _ _ (of_decide_eq_true hl.2.2.1) (of_decide_eq_true hl.2.1) w
    · cases h
  · cases h
def conTi : Con := alt 38 gNear (alt 42 gBey (alt 43 gTiny conT))
theorem conTi_ok : ConOk conTi := alt_ok Tryz.func38 rfl gNear_ok (alt_ok Tryz.func42 rfl gBey_ok (alt_ok Tryz.func43 rfl gTiny_ok conT_ok))
end Go.Proofs.YtjlponbdflkbjaaGreatDoor
