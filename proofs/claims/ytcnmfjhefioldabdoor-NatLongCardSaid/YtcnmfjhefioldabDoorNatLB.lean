/-
  tillerlaw02.NatLong, as a call, where the variable errors.errorType is known: true.
-/
import Derived.Test.YtcnmfjhefioldabDoorNatLA
namespace Go.Proofs.YtcnmfjhefioldabDoor
open Go.KRun Go.Nt
set_option maxRecDepth 100000

theorem cutI_w (W : List Int) (k : Nat) : cutI (wU W) 0 k = W.take k := by
  unfold cutI cutV wU
  rw [List.drop_zero, ← List.map_take, List.map_map]
  exact (List.map_congr_left fun x _ => rfl).trans (List.map_id' _)
theorem rowW {W : List Int} (h : wds W) {k c : Nat} (hk : k ≤ W.length) (hc : k ≤ c) (h2 : smallC c = true) : rowOk tU (wU W) 0 k c = true := by
  unfold rowOk
  rw [h2, show tomb tU = false from by kernel_rfl, show Nat.beq (rt tU) tU = true from by kernel_rfl, Nat.ble_eq_true_of_le (show 0 + k ≤ (wU W).length by unfold wU; simp; omega), Nat.ble_eq_true_of_le hc, wU_tight]
  have h3 : ((cutV (wU W) 0 k).all isU) = true := by
    rw [List.all_eq_true]
    intro v hv
    unfold cutV wU at hv
    obtain ⟨x, hx, rfl⟩ := List.mem_map.1 (List.mem_of_mem_drop (List.mem_of_mem_take hv))
    exact decide_eq_true (h x hx)
  rw [h3]
  rfl
theorem badL_c {L : List Int} (h : canon L) (h8 : L.length ≤ 8192) : badL L = false := by
  unfold badL
  rw [decide_eq_false (show ¬ 8192 < L.length by omega), Bool.false_or]
  rcases h.2 with h | h
  · rw [h]; rfl
  · rw [show (L.getD (L.length - 1) 0 == 0) = false from by simpa using h, Bool.and_false]
theorem dg_self {L : List Int} (h : wds L) : dg (L.length + 1) (vN L) = L ++ [0] := by
  have := dg_vN (L ++ [0]) (wds_zero h)
  rw [List.length_append, List.length_singleton, vN_snoc, Int.mul_zero, Int.add_zero] at this
  exact this
theorem shlR_words {L : List Int} (h : wds L) (s : Nat) : shlR L (32 * s) = List.replicate s 0 ++ (L ++ [0]) := by
  rw [shlR_eq, show 32 * s / 32 = s from by omega, show 32 * s % 32 = 0 from by omega, show (2 : Int) ^ 0 = 1 from rfl, Int.mul_one, dg_self h]
theorem trim_two (A : List Int) {u : Int} (hu : u ≠ 0) : trimN (A ++ [u, 0]) = A.length + 1 := by
  refine trimN_uniq (fun i hi => ?_) (.inr ?_)
  · rw [List.getD, List.getElem?_append_right (by omega)]
    rcases (show i - A.length = 1 ∨ 2 ≤ i - A.length by omega) with h | h
    · rw [h]; rfl
    · rw [List.getElem?_eq_none (by simpa using h)]; rfl
  · rw [List.getD, List.getElem?_append_right (by omega), show A.length + 1 - 1 - A.length = 0 from by omega]
    simpa using hu
theorem take_two (A : List Int) (u : Int) : (A ++ [u, 0]).take (A.length + 1) = A ++ [u] := by
  rw [List.take_append, List.take_of_length_le (by omega), show A.length + 1 - A.length = 1 from by omega]
  rfl
/-- the word and the number of words -/
structure LFacts (n e : Int) (K : Nat) (u : Int) : Prop where
  k4 : K < 4
  kE : kI n = (K : Nat)
  u1 : 1 ≤ u ∧ u ≤ 7
  uE : uI e = u
  k1 : k1I n = ((32 * (8188 + K) : Nat) : Int)
  k2 : k2I n = ((32 * (3 - K) : Nat) : Int)
  k3 : k3I n = ((32 * (4 - K) : Nat) : Int)
theorem lfacts (n e : Int) (he : 0 ≤ e ∧ e < 4294967296) : ∃ K u, LFacts n e K u := by
  have e1 : IntKind.u64.wrap n = n % 18446744073709551616 := by simp [IntKind.wrap, IntKind.bits, IntKind.signed]
  have e2 : (n % 18446744073709551616).tmod 4 = (n % 18446744073709551616) % 4 := Int.tmod_eq_emod_of_nonneg (by omega)
  have hk : kI n = ((((n % 18446744073709551616) % 4).toNat : Nat) : Int) := by
    unfold kI
    rw [e1, e2, wrapI (by omega) (by omega)]
    omega
  have e3 : e.tmod 7 = e % 7 := Int.tmod_eq_emod_of_nonneg he.1
  have hu : uI e = 1 + e % 7 := by
    unfold uI
    rw [e3, u32w]
    omega
  refine ⟨((n % 18446744073709551616) % 4).toNat, 1 + e % 7, by omega, hk, by omega, hu, ?_, ?_, ?_⟩
  · unfold k1I
    rw [hk]
    generalize hK : ((n % 18446744073709551616) % 4).toNat = K
    have : K < 4 := by omega
    rw [wrapI (n := 32 * ((K : Nat) : Int)) (by omega) (by omega), wrapI (by omega) (by omega)]
    omega
  · unfold k2I
    rw [hk]
    generalize hK : ((n % 18446744073709551616) % 4).toNat = K
    have : K < 4 := by omega
    rw [wrapI (n := 3 - ((K : Nat) : Int)) (by omega) (by omega), wrapI (by omega) (by omega)]
    omega
  · unfold k3I
    rw [hk]
    generalize hK : ((n % 18446744073709551616) % 4).toNat = K
    have : K < 4 := by omega
    rw [wrapI (n := 4 - ((K : Nat) : Int)) (by omega) (by omega), wrapI (by omega) (by omega)]
    omega
def AL (K : Nat) : List Int := List.replicate (8188 + K) 0
theorem AL_len (K : Nat) : (AL K).length = 8188 + K := List.length_replicate
theorem UL_eq {n e : Int} {K : Nat} {u : Int} (F : LFacts n e K u) : UL e = [u] := by
  unfold UL
  rw [show U1 e = wU [uI e] from rfl, cutI_w, F.uE]
  rfl
theorem wds_u {n e : Int} {K : Nat} {u : Int} (F : LFacts n e K u) : wds [u] := fun x hx => by
  have := F.u1
  rw [List.mem_singleton.1 hx]
  omega
theorem XW_eq {n e : Int} {K : Nat} {u : Int} (F : LFacts n e K u) : XW n e = AL K ++ [u, 0] := by
  unfold XW
  rw [UL_eq F, F.k1, Int.toNat_natCast, shlR_words (wds_u F)]
  rfl
theorem u_ne {n e : Int} {K : Nat} {u : Int} (F : LFacts n e K u) : u ≠ 0 := by have := F.u1; omega
theorem xN_eq {n e : Int} {K : Nat} {u : Int} (F : LFacts n e K u) : xN n e = 8189 + K := by
  unfold xN
  rw [XW_eq F, trim_two _ (u_ne F), AL_len]
  omega
theorem XL_eq {n e : Int} {K : Nat} {u : Int} (F : LFacts n e K u) : XL n e = AL K ++ [u] := by
  unfold XL
  rw [cutI_w, xN_eq F, XW_eq F, show 8189 + K = (AL K).length + 1 from by rw [AL_len]; omega, take_two]
theorem wds_A {n e : Int} {K : Nat} {u : Int} (F : LFacts n e K u) : wds (AL K ++ [u]) := wds_app (wds_rep _) (wds_u F)
theorem XL_canon {n e : Int} {K : Nat} {u : Int} (F : LFacts n e K u) : canon (AL K ++ [u]) := by
  refine ⟨wds_A F, .inr ?_⟩
  rw [List.length_append, List.length_singleton, Nat.add_sub_cancel, List.getD, List.getElem?_append_right (Nat.le_refl _), Nat.sub_self]
  simpa using u_ne F
theorem XL_len {n e : Int} {K : Nat} {u : Int} (F : LFacts n e K u) : (XL n e).length = 8189 + K := by
  rw [XL_eq F, List.length_append, List.length_singleton, AL_len]
  omega
theorem YW_eq {n e : Int} {K : Nat} {u : Int} (F : LFacts n e K u) : trimN (YW n e) = 8192 := by
  unfold YW
  have k4 := F.k4
  rw [XL_eq F, F.k2, Int.toNat_natCast, shlR_words (wds_A F), show List.replicate (3 - K) 0 ++ (AL K ++ [u] ++ [0]) = (List.replicate (3 - K) 0 ++ AL K) ++ [u, 0] from by simp, trim_two _ (u_ne F), List.length_append, List.length_replicate, AL_len]
  omega
theorem bitLen_u {u : Int} (h : 1 ≤ u ∧ u ≤ 7) : 1 ≤ bitLen u.toNat ∧ bitLen u.toNat ≤ 3 := by
  rcases (show u = 1 ∨ u = 2 ∨ u = 3 ∨ u = 4 ∨ u = 5 ∨ u = 6 ∨ u = 7 by omega) with rfl | rfl | rfl | rfl | rfl | rfl | rfl <;> decide
theorem XL_bad {n e : Int} {K : Nat} {u : Int} (F : LFacts n e K u) : badL (XL n e) = false := by
  have k4 := F.k4
  have hl := XL_len F
  rw [XL_eq F] at hl ⊢
  exact badL_c (XL_canon F) (by omega)
theorem lenX {n e : Int} {K : Nat} {u : Int} (F : LFacts n e K u) : lenN (XL n e) = 32 * (8188 + (K : Int)) + (bitLen u.toNat : Nat) := by
  have hl := XL_len F
  have hb := XL_bad F
  unfold lenN
  rw [hb, show ((XL n e).length == 0) = false from by rw [hl]; simp]
  simp only [Bool.or_false]
  rw [hl, show (XL n e).getD (8189 + K - 1) 0 = u from by
    rw [XL_eq F, List.getD, List.getElem?_append_right (by rw [AL_len]; omega), show 8189 + K - 1 - (AL K).length = 0 from by rw [AL_len]; omega]
    rfl]
  omega
theorem lenU {n e : Int} {K : Nat} {u : Int} (F : LFacts n e K u) : badL (UL e) = false ∧ lenN (UL e) = (bitLen u.toNat : Nat) := by
  have hu := u_ne F
  have hb : badL [u] = false := badL_c ⟨wds_u F, .inr (by simpa using hu)⟩ (by simp)
  rw [UL_eq F]
  refine ⟨hb, ?_⟩
  unfold lenN
  rw [hb]
  simp
theorem okP {x d : Bool} {l : Log} (h : x = d) (hl : okLog l) : okLog ((x, d) :: l) := okTwo h hl
theorem rX_ok {n e : Int} {K : Nat} {u : Int} (F : LFacts n e K u) : rowOk tU (wU (XW n e)) 0 (xN n e) (xC n) = true := by
  have k4 := F.k4
  have hx := xN_eq F
  have hc : xC n = 8190 + K := by unfold xC; rw [F.k1, Int.toNat_natCast]; omega
  have hl : (XW n e).length = 8190 + K := by rw [XW_eq F, List.length_append, AL_len]; simp; omega
  rw [hc, hx]
  exact rowW (by unfold XW shlR; exact dg_wds _ _) (by omega) (by omega) (blt_iff.2 (by unfold dead; omega))
theorem long_calls (n e : Int) (he : 0 ≤ e ∧ e < 4294967296) (w : World) (hk : known w) : Calls Tryd.prog 3 #[.int .i64 n, .int .u32 e] w fun ev w' => ev = .returned (.bool true) ∧ Tidy w w' := by
  obtain ⟨K, u, F⟩ := lfacts n e he
  have k4 := F.k4
  have hx := xN_eq F
  have hb := XL_bad F
  obtain ⟨ub, ul⟩ := lenU F
  have bu := bitLen_u F.u1
  have hlx := lenX F
  have q2 : (((trimN (YW n e) : Nat) : Int) == 8192) = true := by rw [YW_eq F]; rfl
  have q3 : decide (IntKind.i64.wrap (IntKind.i64.wrap ((xN n e : Int) + xN n e) - 1) > 8192) = true := by
    rw [hx, wrapI (n := ((8189 + K : Nat) : Int) + ((8189 + K : Nat) : Int)) (by omega) (by omega), wrapI (by omega) (by omega)]
    exact decide_eq_true (by omega)
  have q4 : ((xN n e : Int) == 0) = false := by
    rw [hx]
    simp
    omega
  have q5 : (badL (XL n e) || badL (XL n e)) = false := by rw [hb]; rfl
  have q6 : (badL (XL n e) || decide (k3I n < 0)) = false := by rw [hb, F.k3, Bool.false_or]; exact decide_eq_false (by omega)
  have q7 : decide (xN n e = 0) = false := by rw [hx]; exact decide_eq_false (by omega)
  have q8 : decide (k3I n > 262144 - lenN (XL n e)) = true := by rw [F.k3, hlx]; exact decide_eq_true (by omega)
  have q9 : (badL (XL n e) || decide (k2I n < 0)) = false := by rw [hb, F.k2, Bool.false_or]; exact decide_eq_false (by omega)
  have qa : decide (k2I n > 262144 - lenN (XL n e)) = false := by rw [F.k2, hlx]; exact decide_eq_false (by omega)
  have qb : ((xN n e : Int) != IntKind.i64.wrap (8189 + kI n)) = false := by
    rw [hx, F.kE, wrapI (by omega) (by omega), show ((8189 + K : Nat) : Int) = 8189 + (K : Nat) from by omega]
    simp
  have qc : rowOk tU (U1 e) 0 1 1 = true := by
    have := rowW (W := [u]) (wds_u F) (k := 1) (c := 1) (Nat.le_refl 1) (Nat.le_refl 1) (blt_iff.2 (by unfold dead; omega))
    rw [show U1 e = wU [u] from by unfold U1 wU uu; rw [F.uE]; rfl]
    exact this
  have qd : (badL (UL e) || decide (k1I n < 0)) = false := by rw [ub, F.k1, Bool.false_or]; exact decide_eq_false (by omega)
  have qe : decide (k1I n > 262144 - lenN (UL e)) = false := by rw [F.k1, ul]; exact decide_eq_false (by omega)
  have rx := rX_ok F
  have rX1 : (rX n e).1 = (rX n e).2 := by
    unfold rX
    dsimp only
    exact rx
  exact calls_of_start (T := tabH Tryd.prog extY conG hcG) Tryd.func3 long_body (h0 := hK) (vals := [i6' n, uu e]) (fun v hv => by
    simp only [List.mem_cons, List.not_mem_nil, or_false] at hv
    rcases hv with rfl | rfl <;> rfl) (v := .bool true) (by rfl)
    ((goesT_runs (tabH_ok conG_ok hcG_ok) (long_run n e) (okP rfl (okP rfl (okP q2 (okP q3 (okP q4 (okP q4 (okTwo rX1 (okTwo rX1 (okP q5 (okTwo rX1 (okP q6 (okP q7 (okP q8 (okTwo rX1 (okP q9 (okP q7 (okP qa (okP qb (okP qc (okP qd (okP rfl (okP qe (okP rfl (okOne rfl))))))))))))))))))))))))).mono fun e' y he' => by
      obtain ⟨rfl, ⟨g, e2⟩, e3⟩ := he'
      refine ⟨.inr rfl, ?_⟩
      rw [e2]
      rfl) (startK hk)
end Go.Proofs.YtcnmfjhefioldabDoor
