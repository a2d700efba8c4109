/-
  wide.DivMod, as a call: the quotient and the rest of any two numbers, the second not 0; and by 0.
-/
import Derived.Test.YtbcpnpchioncbaaG38
import Derived.Test.YtbcpnpchioncbaaG22
namespace Go.Proofs.Ytbcpnpchioncbaa
open Go.KRun Go.Wd
set_option maxRecDepth 100000

def qrV (q r : W4) : Value := .tuple #[vW q, vW r, .nilIface]
theorem cast_pow' (k : Nat) : ((2 ^ k : Nat) : Int) = 2 ^ k := by simp
/-- a number's length in words, and what it is moved up by -/
theorem size_of {b : W4} (hb : b.ok) (hz : b.val ≠ 0) : ∃ n u : Nat, 1 ≤ n ∧ n ≤ 4 ∧ u < 64 ∧ upI b n = u ∧ IntKind.i64.wrap ((szI b).tdiv 64) = n ∧ 2 ^ (64 * n - 1) ≤ b.val * 2 ^ u ∧ b.val * 2 ^ u < 2 ^ (64 * n) := by
  have bd := W4.val_bd hb
  have hV : b.val.toNat ≠ 0 := by omega
  obtain ⟨s1, s2⟩ := bitLen_spec b.val.toNat
  have s2 := s2 hV
  have hk1 : bitLen b.val.toNat ≠ 0 := by intro h0; rw [h0] at s1; simp at s1; omega
  have hk2 : bitLen b.val.toNat ≤ 256 := by
    rcases Nat.lt_or_ge 256 (bitLen b.val.toNat) with hh | hh
    · have h1 : 2 ^ 256 ≤ 2 ^ (bitLen b.val.toNat - 1) := Nat.pow_le_pow_right (by omega) (by omega)
      have h2 : (2 : Nat) ^ 256 = 115792089237316195423570985008687907853269984665640564039457584007913129639936 := rfl
      rw [h2] at h1
      omega
    · exact hh
  have lo : (2 : Int) ^ (bitLen b.val.toNat - 1) ≤ b.val := by rw [← cast_pow']; omega
  have hi : b.val < (2 : Int) ^ bitLen b.val.toNat := by rw [← cast_pow']; omega
  unfold upI szI lenI
  generalize bitLen b.val.toNat = k at *
  have hn : (k + 63) / 64 * 64 ≥ k ∧ (k + 63) / 64 * 64 < k + 64 := by omega
  refine ⟨(k + 63) / 64, (k + 63) / 64 * 64 - k, by omega, by omega, by omega, ?_, ?_, ?_, ?_⟩
  · rw [wrap_i64' (n := ((((k + 63) / 64 : Nat) : Int)) * 64) (by omega) (by omega), wrap_i64' (by omega) (by omega)]
    omega
  · rw [wrap_i64' (n := (k : Int) + 64) (by omega) (by omega), wrap_i64' (n := (k : Int) + 64 - 1) (by omega) (by omega), Int.tdiv_eq_ediv_of_nonneg (by omega), wrap_i64' (by omega) (by omega)]
    omega
  · rw [show 64 * ((k + 63) / 64) - 1 = (k - 1) + ((k + 63) / 64 * 64 - k) from by omega, Int.pow_add]
    exact Int.mul_le_mul_of_nonneg_right lo (Int.le_of_lt (pow_pos2' _))
  · have e : 64 * ((k + 63) / 64) = k + ((k + 63) / 64 * 64 - k) := by omega
    rw [e, Int.pow_add]
    exact Int.mul_lt_mul_of_pos_right hi (pow_pos2' _)
theorem pow_mono2 {i j : Nat} (h : i ≤ j) : (2 : Int) ^ i ≤ 2 ^ j := by
  rw [← cast_pow', ← cast_pow']
  have := Nat.pow_le_pow_right (n := 2) (by omega) h
  omega
theorem l5_val (x : W4) (t : Int) : vB (l5 x t) = x.val + 115792089237316195423570985008687907853269984665640564039457584007913129639936 * t := by unfold l5 W4.val; simp only [vB]; omega
theorem l5_words {x : W4} (h : x.ok) {t : Int} (ht : 0 ≤ t ∧ t < 18446744073709551616) : words (l5 x t) := fun d hd => by
  obtain ⟨y0, y1, y2, y3⟩ := h
  unfold l5 at hd
  simp only [List.mem_cons, List.not_mem_nil, or_false] at hd
  rcases hd with rfl | rfl | rfl | rfl | rfl
  · exact y0
  · exact y1
  · exact y2
  · exact y3
  · exact ht
/-- the highest word of a number of n words that has all their bits -/
theorem top_word {l : List Int} {n : Nat} (hn : 1 ≤ n) (hl : l.length = n) (hw : words l) (h : 2 ^ (64 * n - 1) ≤ vB l) : 9223372036854775808 ≤ l.getD (n - 1) 0 := by
  obtain ⟨k, rfl⟩ : ∃ k, n = k + 1 := ⟨n - 1, by omega⟩
  obtain ⟨d0, dt, e, l0⟩ := snoc_of hl
  have b0 := vB_bd d0 (fun x hx => hw x (by rw [e]; exact List.mem_append_left _ hx))
  rw [l0] at b0
  rw [Nat.add_sub_cancel, e, getD_snoc d0 dt [] l0]
  rw [e, vB_append, l0, show 64 * (k + 1) - 1 = 64 * k + 63 from by omega, Int.pow_add, ← pow64] at h
  simp only [vB] at h
  rw [Int.mul_zero, Int.add_zero, show (2 : Int) ^ 63 = 9223372036854775808 from rfl] at h
  rcases Int.lt_or_le dt 9223372036854775808 with hc | hc
  · exfalso
    have h1 : 18446744073709551616 ^ k * dt ≤ 18446744073709551616 ^ k * 9223372036854775807 := Int.mul_le_mul_of_nonneg_left (by omega) (Int.le_of_lt (pow_posB k))
    generalize (18446744073709551616 : Int) ^ k = K at *
    omega
  · exact hc
theorem divmod_calls (a b : W4) (ha : a.ok) (hb : b.ok) (hz : b.val ≠ 0) (w : World) : Calls Try.prog 67 #[vW a, vW b] w fun e w' => e = .returned (qrV (W4.of (a.val / b.val)) (W4.of (a.val % b.val))) ∧ Tidy w w' := by
  obtain ⟨n, u, n1, n4, hu, eu, en, dlo, dhi⟩ := size_of hb hz
  have ba := W4.val_bd ha
  have bb := W4.val_bd hb
  have hp := pow_pos2' u
  have p256' : (2 : Int) ^ 256 = 115792089237316195423570985008687907853269984665640564039457584007913129639936 := rfl
  have h256 : b.val * 2 ^ u < 115792089237316195423570985008687907853269984665640564039457584007913129639936 := by
    have := pow_mono2 (show 64 * n ≤ 256 by omega)
    rw [p256'] at this
    omega
  have hD0 : 0 < b.val * 2 ^ u := Int.mul_pos (by omega) hp
  obtain ⟨ob, vb⟩ := shlW_spec hb hu
  rw [Int.emod_eq_of_lt (by omega) h256] at vb
  obtain ⟨oa, va⟩ := shlW_spec ha hu
  obtain ⟨tp, t0, t9⟩ := topI_eq ha hu
  have hA : vB (l5 (shlW a u) (topI a u)) = a.val * 2 ^ u := by
    rw [l5_val, va, tp]
    have := Int.mul_ediv_add_emod (a.val * 2 ^ u) 115792089237316195423570985008687907853269984665640564039457584007913129639936
    omega
  have wds := l4_words ob
  have vds : vB (l4 (shlW b u)) = b.val * 2 ^ u := by rw [l4_val]; exact vb
  have lds : (l4 (shlW b u)).length = 4 := rfl
  have hdn : vB ((l4 (shlW b u)).take n) = b.val * 2 ^ u := by
    have z := high_zero wds (n := n) (by rw [lds]; exact n4) (Int.le_refl _) (by rw [vds, pow64]; exact dhi)
    have e := vB_append ((l4 (shlW b u)).take n) ((l4 (shlW b u)).drop n)
    rw [List.take_append_drop, z, vds, Int.mul_zero, Int.add_zero] at e
    exact e.symm
  have ltn : ((l4 (shlW b u)).take n).length = n := by rw [List.length_take, lds]; omega
  have top := top_word n1 ltn (words_take wds n) (by rw [hdn]; exact dlo)
  have wrs := l5_words oa ⟨t0, t9⟩
  have lrs : (l5 (shlW a u) (topI a u)).length = 5 := rfl
  have h3 : vB ((l5 (shlW a u) (topI a u)).drop (5 - n)) < vB ((l4 (shlW b u)).take n) := by
    rw [hdn]
    refine Int.lt_of_lt_of_le ?_ dlo
    have e := vB_append ((l5 (shlW a u) (topI a u)).take (5 - n)) ((l5 (shlW a u) (topI a u)).drop (5 - n))
    rw [List.take_append_drop, hA, List.length_take, lrs, show min (5 - n) 5 = 5 - n from by omega] at e
    have b0 := (vB_bd _ (words_take wrs (5 - n))).1
    have big : a.val * 2 ^ u < 2 ^ (256 + 63) := by
      have h1 : a.val * 2 ^ u < 2 ^ 256 * 2 ^ u := Int.mul_lt_mul_of_pos_right (by rw [p256']; exact ba.2) hp
      rw [← Int.pow_add] at h1
      have := pow_mono2 (show 256 + u ≤ 256 + 63 by omega)
      omega
    rcases Int.lt_or_le (vB ((l5 (shlW a u) (topI a u)).drop (5 - n))) (2 ^ (64 * n - 1)) with hc | hc
    · exact hc
    · exfalso
      have h1 : 18446744073709551616 ^ (5 - n) * 2 ^ (64 * n - 1) ≤ 18446744073709551616 ^ (5 - n) * vB ((l5 (shlW a u) (topI a u)).drop (5 - n)) := Int.mul_le_mul_of_nonneg_left hc (Int.le_of_lt (pow_posB _))
      rw [pow64, ← Int.pow_add, show 64 * (5 - n) + (64 * n - 1) = 256 + 63 from by omega, ← pow64] at h1
      omega
  have pre := quo_pre a b n
  rw [eu] at pre
  refine calls_of_runs (T := (tabOf Try.prog extY conQW true)) Try.func67 quo_body (vals := [vW a, vW b]) (by rfl) (by rfl) (goesT_list (tabY_ok conQ_okW) pre.t
    (okCons (decide_eq_false (by rw [wrap_i64' (by omega) (by omega), wrap_u64' (by omega) (by omega)]; omega)) (okCons (lk_ok ha (by omega) (by omega)) (okCons (lk_ok hb (by omega) (by omega)) (okCons (decide_eq_true hb) (okCons (by rfl) (okCons (decide_eq_true en) (okCons (decide_eq_true hb) (okL1 (by
      show eqW b ⟨0, 0, 0, 0⟩ = false
      cases h : eqW b ⟨0, 0, 0, 0⟩
      · rfl
      · rw [eqW_iff.1 h] at hz; exact absurd rfl hz))))))))) fun g => ?_) w
  refine Runs.seq (P1 := fun e y => e = none ∧ ∃ (rs qs : List Int) (i : Int) (g : Nat → Value), y.1 = qFr (vW a) (vW b) n u i undef undef ++ tl 70 g ∧ y.2.1 = qHp a b (shlW a u) (l4 (shlW b u)) rs qs ∧ rs.length = 5 ∧ words rs ∧ qs.length = 4 ∧ words qs ∧ vB rs < b.val * 2 ^ u ∧ vB rs + vB qs * (b.val * 2 ^ u) = a.val * 2 ^ u) ?_ ?_ (fun e y he => by cases he.1)
  · refine Runs.seq (goesT_runs (tabY_ok conQ_okW) (quo_r (vW a) (vW b) undef undef undef n u _ g).t okNil) ?_ (fun e y he => by cases he.1)
    rintro ⟨t, h', s⟩ ⟨_, ⟨g', ht⟩, hh⟩
    simp only at ht hh
    subst ht hh
    refine (quo_loop n1 n4 lds lrs wds wrs top h3 (vW a) (vW b) undef undef u a b (shlW a u) g' s).mono fun e y he => ?_
    rw [hdn, hA] at he
    match e, he with
    | none, he => exact ⟨rfl, he⟩
  · rintro ⟨t, h', s⟩ ⟨_, rs, qs, i, g', ht, hh, lr, wr, lq, wq, hlt, hv⟩
    simp only at ht hh
    subst ht hh
    have hr0 := (vB_bd _ wr).1
    have r4z : vB (rs.drop 4) = 0 := high_zero wr (n := 4) (by omega) (by show (115792089237316195423570985008687907853269984665640564039457584007913129639936 : Int) ≤ 18446744073709551616 ^ 4; decide) (by omega)
    match rs, lr, qs, lq, wr, wq, hr0, r4z, hlt, hv with
    | [r0, r1, r2, r3, r4], _, [q0, q1, q2, q3], _, wr, wq, hr0, r4z, hlt, hv =>
      have okQ' : (⟨q0, q1, q2, q3⟩ : W4).ok := ⟨wq q0 (by simp), wq q1 (by simp), wq q2 (by simp), wq q3 (by simp)⟩
      have okR : (⟨r0, r1, r2, r3⟩ : W4).ok := ⟨wr r0 (by simp), wr r1 (by simp), wr r2 (by simp), wr r3 (by simp)⟩
      have vq : vB [q0, q1, q2, q3] = (⟨q0, q1, q2, q3⟩ : W4).val := l4_val ⟨q0, q1, q2, q3⟩
      have e4 : r4 = 0 := by
        simp only [List.drop_succ_cons, List.drop_zero, vB] at r4z
        omega
      have vr : vB [r0, r1, r2, r3, r4] = (⟨r0, r1, r2, r3⟩ : W4).val := by
        have := l5_val ⟨r0, r1, r2, r3⟩ r4
        rw [e4, Int.mul_zero, Int.add_zero] at this
        rw [e4]
        exact this
      rw [vq] at hv
      rw [vr] at hv hlt hr0
      have eA : a.val * 2 ^ u = b.val * 2 ^ u * (⟨q0, q1, q2, q3⟩ : W4).val + (⟨r0, r1, r2, r3⟩ : W4).val := by rw [Int.mul_comm (b.val * 2 ^ u)]; omega
      have eq : a.val / b.val = (⟨q0, q1, q2, q3⟩ : W4).val := by
        rw [← Int.mul_ediv_mul_of_pos_left a.val b.val hp]
        exact ediv_of eA hr0 hlt
      have er : (⟨r0, r1, r2, r3⟩ : W4).val = a.val % b.val * 2 ^ u := by
        have dm := Int.mul_ediv_add_emod a.val b.val
        rw [eq] at dm
        have : a.val * 2 ^ u = b.val * 2 ^ u * (⟨q0, q1, q2, q3⟩ : W4).val + a.val % b.val * 2 ^ u := by
          rw [Int.mul_right_comm, ← Int.add_mul, dm]
        omega
      have es : shrW ⟨r0, r1, r2, r3⟩ u = W4.of (a.val % b.val) := by
        unfold shrW
        split
        · have : u = 0 := by omega
          subst this
          rw [Int.pow_zero, Int.mul_one] at er
          rw [← er, W4.of_val okR]
        · rw [if_neg (by omega), Int.toNat_natCast, er, Int.mul_ediv_cancel _ (by omega)]
      refine (goesT_runs (tabY_ok conQ_okW) (quo_end (vW a) (vW b) undef undef n u i a b (shlW a u) (l4 (shlW b u)) r0 r1 r2 r3 r4 ⟨q0, q1, q2, q3⟩ g') (okL1 (lk_ok okR (by omega) (by omega)))).mono fun e y he => ?_
      obtain ⟨rfl, ⟨g2, h2⟩, h3'⟩ := he
      refine ⟨.inr rfl, ?_⟩
      rw [h2, h3', es, eq, W4.of_val okQ']
      rfl
end Go.Proofs.Ytbcpnpchioncbaa

/-
  wide.DivMod, as a contract.
-/
namespace Go.Proofs.Ytbcpnpchioncbaa
open Go.KRun Go.Wd
set_option maxRecDepth 100000

def nz2 (a b : W4) : Bool × Bool := (decide (a.ok ∧ b.ok ∧ b.val ≠ 0), true)
def gQR : Ans := fun vals s =>
  match vals with
  | [x, y] =>
    match w4 x, w4 y with
    | some a, some b => some (qrV (W4.of (a.val / b.val)) (W4.of (a.val % b.val)), s, [nz2 a b])
    | _, _ => none
  | _ => none
theorem gQR_ok : AnsOk 67 gQR := by
  intro vals s v s' lg h hl w
  unfold gQR at h
  split at h
  · split at h
    · rename_i a b ha hb
      cases h
      have h1 := hl _ (List.mem_singleton.2 rfl)
      simp only [nz2, decide_eq_true_eq] at h1
      rw [w4_spec ha, w4_spec hb]
      exact divmod_calls a b h1.1 h1.2.1 h1.2.2 w
    · cases h
  · cases h
end Go.Proofs.Ytbcpnpchioncbaa

/-
  rnd.Whole, as a call in every world.
-/
namespace Go.Proofs.Ytbcpnpchioncbaa
open Go.KRun Go.Wd Go.Pt Go.Rn
set_option maxRecDepth 100000

def whX (n : Bool) (ex : Int) (x : W4) (b : Bool) : Value := .tuple #[vN n ex x b, .bool false]
theorem wh1 (n b : Bool) (x : W4) (ex m : Int) : Fits (reckon (tabOf Try.prog extY conTi true) 300 33 [vN n ex x b, .int .i64 m] [cmp true]) (whX n ex x b) [(decide (ex > 0), true)] := ⟨by kernel_rfl, by kernel_rfl, by kernel_rfl, by kernel_rfl⟩
theorem wh2 (n : Bool) (x : W4) (ex m : Int) : Fits (reckon (tabOf Try.prog extY conTi true) 300 33 [vN n ex x false, .int .i64 m] [cmp false, cmp true]) (whX n ex x false) [(ex == 0, true), (decide (ex > 0), false)] := ⟨by kernel_rfl, by kernel_rfl, by kernel_rfl, by kernel_rfl⟩
def whQ (m : Int) (n : Bool) (x : W4) (b : Bool) (ex : Int) : Nat := toQ m n (tw x b) (clp ex - 1) 0
def whL (x : W4) (b : Bool) (ex : Int) : Bool := toL (tw x b) (clp ex - 1) 0
theorem wh3 (n e : Bool) (x : W4) (ex m : Int) : Fits (reckon (tabOf Try.prog extY conTi true) 300 33 [vN n ex x true, .int .i64 m] [cmp false, cmp true, cmp true, cmp e]) (tmR n 0 (ofN (whQ m n x true ex)) e) [(whL x true ex, e), (decide (whQ m n x true ex < 2 ^ 256), true), (okTm x (clp ex) 0, true), (ex == 0, true), (decide (ex > 0), false)] := ⟨by kernel_rfl, by kernel_rfl, by kernel_rfl, by kernel_rfl⟩
theorem wh4 (n b e : Bool) (x : W4) (ex m : Int) : Fits (reckon (tabOf Try.prog extY conTi true) 300 33 [vN n ex x b, .int .i64 m] [cmp false, cmp false, cmp true, cmp e]) (tmR n 0 (ofN (whQ m n x b ex)) e) [(whL x b ex, e), (decide (whQ m n x b ex < 2 ^ 256), true), (okTm x (clp ex) 0, true), (ex == 0, false), (decide (ex > 0), false)] := ⟨by kernel_rfl, by kernel_rfl, by kernel_rfl, by kernel_rfl⟩
theorem wh5 (n : Bool) (x : W4) (ex m : Int) : Fits (reckon (tabOf Try.prog extY conTi true) 300 33 [vN n ex x true, .int .i64 m] [cmp false, cmp true, cmp false]) (tmR n 1 w63 (whL x true ex)) [(decide (whQ m n x true ex < 2 ^ 256), false), (decide (clp ex ≤ 0), true), (okTm x (clp ex) 0, true), (ex == 0, true), (decide (ex > 0), false)] := ⟨by kernel_rfl, by kernel_rfl, by kernel_rfl, by kernel_rfl⟩
theorem wh6 (n b : Bool) (x : W4) (ex m : Int) : Fits (reckon (tabOf Try.prog extY conTi true) 300 33 [vN n ex x b, .int .i64 m] [cmp false, cmp false, cmp false]) (tmR n 1 w63 (whL x b ex)) [(decide (whQ m n x b ex < 2 ^ 256), false), (decide (clp ex ≤ 0), true), (okTm x (clp ex) 0, true), (ex == 0, false), (decide (ex > 0), false)] := ⟨by kernel_rfl, by kernel_rfl, by kernel_rfl, by kernel_rfl⟩
/-- it stays as it is -/
def early (ex : Int) (b : Bool) : Bool := decide (0 < ex) || (decide (ex = 0) && !b)
def gWh : Ans := fun vals s =>
  match vals with
  | [v, .int .i64 m] =>
    match n7 v, s with
    | some (n, ex, x, b), .inr (.inr (.inr (.inl true))) :: s' => some (whX n ex x b, s', [(early ex b, true)])
    | some (n, ex, x, b), .inr (.inr (.inr (.inl false))) :: .inr (.inr (.inr (.inl true))) :: .inr (.inr (.inr (.inl e))) :: s' => some (tmR n 0 (ofN (whQ m n x b ex)) e, s', [(whL x b ex, e), (decide (whQ m n x b ex < 2 ^ 256), true), (early ex b, false), (decide x.ok, true)])
    | some (n, ex, x, b), .inr (.inr (.inr (.inl false))) :: .inr (.inr (.inr (.inl false))) :: .inr (.inr (.inr (.inl e))) :: s' => some (tmR n 1 w63 e, s', [(whL x b ex, e), (decide (whQ m n x b ex < 2 ^ 256), false), (early ex b, false), (decide x.ok, true)])
    | _, _ => none
  | _ => none
theorem not_early {ex : Int} {b : Bool} (h : early ex b = false) : ¬ 0 < ex ∧ (ex = 0 → b = true) := by
  unfold early at h
  simp only [Bool.or_eq_false_iff, decide_eq_false_iff_not, Bool.and_eq_false_iff, Bool.not_eq_false'] at h
  exact ⟨h.1, fun h0 => h.2.resolve_left (fun hn => hn h0)⟩
theorem gWh_ok : AnsOk 33 gWh := by
  intro vals s v s' lg h hl w
  unfold gWh at h
  split at h
  · rename_i v0 m
    split at h
    · rename_i n ex x b s2 hn
      cases h
      have h1 := hl _ (List.mem_singleton.2 rfl)
      rw [n7_spec hn]
      unfold early at h1
      simp only [Bool.or_eq_true, decide_eq_true_eq, Bool.and_eq_true, Bool.not_eq_true'] at h1
      by_cases h0 : 0 < ex
      · exact fits_calls (tabY_ok conTi_ok) (wh1 n b x ex m) (okL1 (decide_eq_true h0)) (by rfl) (by rfl) w
      · rcases h1 with h1 | ⟨h1, h2⟩
        · exact absurd h1 h0
        · subst h2
          exact fits_calls (tabY_ok conTi_ok) (wh2 n x ex m) (okCons (by rw [h1]; rfl) (okL1 (decide_eq_false h0))) (by rfl) (by rfl) w
    · rename_i n ex x b e s2 hn
      cases h
      rw [okCs, okCs, okCs, okCs] at hl
      obtain ⟨l1, l2, l3, l4, _⟩ := hl
      have hx := of_decide_eq_true l4
      obtain ⟨n1, n2⟩ := not_early l3
      have hc := clp_bd ex
      have kt : okTm x (clp ex) 0 = true := decide_eq_true ⟨hx, by omega, by omega, by omega, by omega⟩
      rw [n7_spec hn]
      by_cases h0 : ex = 0
      · have hb := n2 h0
        subst hb
        exact fits_calls (tabY_ok conTi_ok) (wh3 n e x ex m) (okCons l1 (okCons l2 (okCons kt (okCons (by rw [h0]; rfl) (okL1 (decide_eq_false n1)))))) (by rfl) (by rfl) w
      · exact fits_calls (tabY_ok conTi_ok) (wh4 n b e x ex m) (okCons l1 (okCons l2 (okCons kt (okCons (by simp [h0]) (okL1 (decide_eq_false n1)))))) (by rfl) (by rfl) w
    · rename_i n ex x b e s2 hn
      cases h
      rw [okCs, okCs, okCs, okCs] at hl
      obtain ⟨l1, l2, l3, l4, _⟩ := hl
      have hx := of_decide_eq_true l4
      obtain ⟨n1, n2⟩ := not_early l3
      have hc := clp_bd ex
      have hc0 : clp ex ≤ 0 := by unfold clp; split <;> split <;> omega
      have kt : okTm x (clp ex) 0 = true := decide_eq_true ⟨hx, by omega, by omega, by omega, by omega⟩
      rw [n7_spec hn, ← l1]
      by_cases h0 : ex = 0
      · have hb := n2 h0
        subst hb
        exact fits_calls (tabY_ok conTi_ok) (wh5 n x ex m) (okCons l2 (okCons (decide_eq_true hc0) (okCons kt (okCons (by rw [h0]; rfl) (okL1 (decide_eq_false n1)))))) (by rfl) (by rfl) w
      · exact fits_calls (tabY_ok conTi_ok) (wh6 n b x ex m) (okCons l2 (okCons (decide_eq_true hc0) (okCons kt (okCons (by simp [h0]) (okL1 (decide_eq_false n1)))))) (by rfl) (by rfl) w
    · cases h
  · cases h
end Go.Proofs.Ytbcpnpchioncbaa
