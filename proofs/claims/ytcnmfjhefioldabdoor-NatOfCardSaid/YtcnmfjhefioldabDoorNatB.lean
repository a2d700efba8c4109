/-
  tillerlaw02.NatOf, as a call: true.
-/
import Derived.Test.YtcnmfjhefioldabDoorNatA
import Derived.Test.YtcnmfjhefioldabDoorNumT
namespace Go.Proofs.YtcnmfjhefioldabDoor
open Go.KRun Go.Nt
set_option maxRecDepth 100000

theorem cutI_wU (W : List Int) (k : Nat) : cutI (wU W) 0 k = W.take k := by
  unfold cutI cutV wU
  rw [List.drop_zero, ← List.map_take, List.map_map]
  exact (List.map_congr_left fun x _ => rfl).trans (List.map_id' _)
theorem rowU {W : List Int} (h : wds W) {k c : Nat} (hk : k ≤ W.length) (hc : k ≤ c) (h2 : smallC c = true) : rowOk tU (wU W) 0 k c = true := by
  unfold rowOk
  rw [h2, show tomb tU = false from by kernel_rfl, show Nat.beq (rt tU) tU = true from by kernel_rfl, Nat.ble_eq_true_of_le (show 0 + k ≤ (wU W).length by unfold wU; simp; omega), Nat.ble_eq_true_of_le hc, wU_tight]
  have h3 : ((cutV (wU W) 0 k).all isU) = true := by
    rw [List.all_eq_true]
    intro v hv
    unfold cutV wU at hv
    obtain ⟨x, hx, rfl⟩ := List.mem_map.1 (List.mem_of_mem_drop (List.mem_of_mem_take hv))
    exact decide_eq_true (h x hx)
  rw [h3]
  rfl
theorem badL_of {L : List Int} (h : canon L) (h8 : L.length ≤ 8192) : badL L = false := by
  unfold badL
  rw [decide_eq_false (show ¬ 8192 < L.length by omega), Bool.false_or]
  rcases h.2 with h | h
  · rw [h]; rfl
  · rw [show (L.getD (L.length - 1) 0 == 0) = false from by simpa using h, Bool.and_false]
def W2 (N : Int) : List Int := [nLo N, nHi N]
/-- what is known of a small number's words -/
structure Small (N : Int) : Prop where
  n0 : 0 ≤ N
  n1 : N < 18446744073709551616
theorem Small.w {N : Int} (h : Small N) : wds (W2 N) ∧ vN (W2 N) = N ∧ nLo N = N % 4294967296 ∧ nHi N = N / 4294967296 := by
  have h0 := h.n0
  have h1 := h.n1
  have e1 : nLo N = N % 4294967296 := u32w N
  have e2 : nHi N = N / 4294967296 := by
    unfold nHi
    rw [Int.fdiv_eq_ediv_of_nonneg _ (by decide), u32w, show (2 : Int) ^ 32 = 4294967296 from rfl]
    omega
  refine ⟨fun x hx => ?_, ?_, e1, e2⟩
  · unfold W2 at hx
    rw [e1, e2] at hx
    simp only [List.mem_cons, List.not_mem_nil, or_false] at hx
    rcases hx with rfl | rfl <;> omega
  · unfold W2
    rw [e1, e2]
    simp only [vN]
    omega
theorem mN_eq (N : Int) : mN N = trimN (W2 N) := by
  unfold mN
  rw [show A2 N = wU (W2 N) from rfl, cutI_wU]
  rfl
theorem LN_eq (N : Int) : LN N = (W2 N).take (trimN (W2 N)) := by
  unfold LN
  rw [show A2 N = wU (W2 N) from rfl, cutI_wU, mN_eq]
structure Facts (N : Int) : Prop where
  cL : canon (LN N)
  vL : vN (LN N) = N
  lL : (LN N).length = mN N
  m2 : mN N ≤ 2
  sv : SN N = dg (mN N + 1) (N + N)
  cS : canon (SL N)
  vS : vN (SL N) = N + N
  lS : (SL N).length = tN N
  t3 : tN N ≤ mN N + 1
  hs : HN N = SN N
  dL : (DN N).take (trimN (DN N)) = LN N
  lD : trimN (DN N) ≤ tN N
  z0 : trimN (ZN N) = 0
theorem mx_self (n : Nat) : mxN n n = n := if_neg (Nat.lt_irrefl n)
theorem Small.facts {N : Int} (h : Small N) : Facts N := by
  obtain ⟨w1, w2, _, _⟩ := h.w
  have h0 := h.n0
  have cL : canon (LN N) := by rw [LN_eq]; exact trim_canon w1
  have vL : vN (LN N) = N := by rw [LN_eq, trim_val, w2]
  have lL : (LN N).length = mN N := by rw [LN_eq, trim_len, mN_eq]
  have m2 : mN N ≤ 2 := by rw [mN_eq]; exact trimN_le (W2 N)
  have bL := vN_bd (LN N) cL.1
  rw [vL, lL] at bL
  have hp := pw (mN N)
  have sv : SN N = dg (mN N + 1) (N + N) := by unfold SN sumR; rw [mx_self, vL, lL]
  have wS : wds (SN N) := by rw [sv]; exact dg_wds _ _
  have vSN : vN (SN N) = N + N := by rw [sv]; exact dg_val _ _ (by omega) (by rw [hp]; omega)
  have eSL : SL N = (SN N).take (trimN (SN N)) := by unfold SL tN; rw [cutI_wU]
  have cS : canon (SL N) := by rw [eSL]; exact trim_canon wS
  have vS : vN (SL N) = N + N := by rw [eSL, trim_val, vSN]
  have lS : (SL N).length = tN N := by rw [eSL, trim_len]; rfl
  have t3 : tN N ≤ mN N + 1 := by
    have := trimN_le (SN N)
    rw [show (SN N).length = mN N + 1 from by rw [sv, dg_len]] at this
    exact this
  have bS := vN_bd (SL N) cS.1
  rw [vS, lS] at bS
  have eD : DN N = dg (tN N) N := by unfold DN difL; rw [vS, vL, lS, Int.add_sub_cancel]
  have dL : (DN N).take (trimN (DN N)) = LN N := by
    refine canon_uniq (trim_canon (by rw [eD]; exact dg_wds _ _)) cL ?_
    rw [trim_val, vL, eD]
    exact dg_val _ _ h0 (by omega)
  refine ⟨cL, vL, lL, m2, sv, cS, vS, lS, t3, ?_, dL, ?_, ?_⟩
  · unfold HN shlR
    rw [sv, vL, lL, show 1 / 32 + (mN N + 1) = mN N + 1 from by omega, show N * 2 ^ 1 = N + N from by omega]
  · have := trimN_le (DN N)
    rw [show (DN N).length = tN N from by rw [eD, dg_len]] at this
    exact this
  · unfold ZN difL
    rw [vL, Int.sub_self]
    exact trim_zero _
theorem bitLen_half {x : Nat} (h : 0 < x) : bitLen x = 1 + bitLen (x / 2) := by
  by_cases h1 : x = 1
  · subst h1; rfl
  · have := len_up x 1 (by omega)
    simpa using this
theorem Small.len {N : Int} (h : Small N) (F : Facts N) : lenN (LN N) = (bitLen N.toNat : Nat) := by
  obtain ⟨w1, w2, w3, w4⟩ := h.w
  have h0 := h.n0
  have h1 := h.n1
  unfold lenN
  by_cases hm : mN N = 0
  · have e0 : ((LN N).length == 0) = true := by rw [F.lL, hm]; rfl
    rw [e0, Bool.true_or]
    have : N = 0 := by
      have hz : LN N = [] := List.eq_nil_of_length_eq_zero (by rw [F.lL, hm])
      have := F.vL
      rw [hz] at this
      simpa [vN] using this.symm
    subst this
    rfl
  · have e0 : ((LN N).length == 0) = false := by rw [F.lL]; simpa using hm
    rw [e0, Bool.false_or, badL_of F.cL (by have := F.lL; have := F.m2; omega), F.lL]
    have hm2 := F.m2
    have hg : (LN N).getD (mN N - 1) 0 = (W2 N).getD (mN N - 1) 0 := by
      rw [LN_eq, ← mN_eq]
      simp only [List.getD, List.getElem?_take]
      rw [if_pos (by omega)]
    have hne : (W2 N).getD (mN N - 1) 0 ≠ 0 := by
      rw [mN_eq] at hm ⊢
      rcases trimN_top (W2 N) with h | h
      · exact absurd h hm
      · exact h
    rw [hg]
    simp only
    rcases (show mN N = 1 ∨ mN N = 2 by omega) with h2 | h2
    · rw [h2] at hne ⊢
      have hz : (W2 N).getD 1 0 = 0 := trimN_high (W2 N) 1 (by rw [← mN_eq, h2]; exact Nat.le_refl _)
      have e1 : (W2 N).getD (1 - 1) 0 = nLo N := rfl
      have e2 : (W2 N).getD 1 0 = nHi N := rfl
      rw [e2, w4] at hz
      rw [e1, w3, show N % 4294967296 = N from by omega]
      omega
    · rw [h2] at hne ⊢
      have e2 : (W2 N).getD (2 - 1) 0 = nHi N := rfl
      rw [e2, w4] at hne ⊢
      have p : (2 : Nat) ^ 32 = 4294967296 := rfl
      have := len_up N.toNat 32 (by omega)
      rw [this, show (N / 4294967296).toNat = N.toNat / 2 ^ 32 from by omega]
      omega
end Go.Proofs.YtcnmfjhefioldabDoor
