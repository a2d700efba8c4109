/-
  wide.DivMod, as a call: the quotient and the rest of any two numbers, the second not 0; and by 0.
-/
import Derived.Test.YtnolcojnodoecaaG36
import Derived.Test.YtnolcojnodoecaaG34
import Derived.Test.YtnolcojnodoecaaG04
import Derived.Test.YtnolcojnodoecaaG30
namespace Go.Proofs.Ytnolcojnodoecaa
open Go.KRun Go.Wd
set_option maxRecDepth 100000

def qrV (q r : W4) : Value := .tuple #[vW q, vW r, .nilIface]
theorem cast_pow' (k : Nat) : ((2 ^ k : Nat) : Int) = 2 ^ k := by simp
/-- a number's length in words, and what it is moved up by -/
theorem size_of {b : W4} (hb : b.ok) (hz : b.val ≠ 0) : ∃ n u : Nat, 1 ≤ n ∧ n ≤ 4 ∧ u < 64 ∧ upI b n = u ∧ IntKind.i64.wrap ((szI b).tdiv 64) = n ∧ 2 ^ (64 * n - 1) ≤ b.val * 2 ^ u ∧ b.val * 2 ^ u < 2 ^ (64 * n) := by
  have bd := W4.val_bd hb
  have hV : b.val.toNat ≠ 0 := by omega
  obtain ⟨s1, s2⟩ := bitLen_spec b.val.toNat
  have s2 := s2 hV
  have hk1 : bitLen b.val.toNat ≠ 0 := by intro h0; rw [h0] at s1; simp at s1; omega
  have hk2 : bitLen b.val.toNat ≤ 256 := by
    rcases Nat.lt_or_ge 256 (bitLen b.val.toNat) with hh | hh
    · have h1 : 2 ^ 256 ≤ 2 ^ (bitLen b.val.toNat - 1) := Nat.pow_le_pow_right (by omega) (by omega)
      have h2 : (2 : Nat) ^ 256 = 115792089237316195423570985008687907853269984665640564039457584007913129639936 := rfl
      rw [h2] at h1
      omega
    · exact hh
  have lo : (2 : Int) ^ (bitLen b.val.toNat - 1) ≤ b.val := by rw [← cast_pow']; omega
  have hi : b.val < (2 : Int) ^ bitLen b.val.toNat := by rw [← cast_pow']; omega
  unfold upI szI lenI
  generalize bitLen b.val.toNat = k at *
  have hn : (k + 63) / 64 * 64 ≥ k ∧ (k + 63) / 64 * 64 < k + 64 := by omega
  refine ⟨(k + 63) / 64, (k + 63) / 64 * 64 - k, by omega, by omega, by omega, ?_, ?_, ?_, ?_⟩
  · rw [wrap_i64' (n := ((((k + 63) / 64 : Nat) : Int)) * 64) (by omega) (by omega), wrap_i64' (by omega) (by omega)]
    omega
  · rw [wrap_i64' (n := (k : Int) + 64) (by omega) (by omega), wrap_i64' (n := (k : Int) + 64 - 1) (by omega) (by omega), Int.tdiv_eq_ediv_of_nonneg (by omega), wrap_i64' (by omega) (by omega)]
    omega
  · rw [show 64 * ((k + 63) / 64) - 1 = (k - 1) + ((k + 63) / 64 * 64 - k) from by omega, Int.pow_add]
    exact Int.mul_le_mul_of_nonneg_right lo (Int.le_of_lt (pow_pos2' _))
  · have e : 64 * ((k + 63) / 64) = k + ((k + 63) / 64 * 64 - k) := by omega
    rw [e, Int.pow_add]
    exact Int.mul_lt_mul_of_pos_right hi (pow_pos2' _)
theorem pow_mono2 {i j : Nat} (h : i ≤ j) : (2 : Int) ^ i ≤ 2 ^ j := by
  rw [← cast_pow', ← cast_pow']
  have := Nat.pow_le_pow_right (n := 2) (by omega) h
  omega
theorem l5_val (x : W4) (t : Int) : vB (l5 x t) = x.val + 115792089237316195423570985008687907853269984665640564039457584007913129639936 * t := by unfold l5 W4.val; simp only [vB]; omega
theorem l5_words {x : W4} (h : x.ok) {t : Int} (ht : 0 ≤ t ∧ t < 18446744073709551616) : words (l5 x t) := fun d hd => by
  obtain ⟨y0, y1, y2, y3⟩ := h
  unfold l5 at hd
  simp only [List.mem_cons, List.not_mem_nil, or_false] at hd
  rcases hd with rfl | rfl | rfl | rfl | rfl
  · exact y0
  · exact y1
  · exact y2
  · exact y3
  · exact ht
/-- the highest word of a number of n words that has all their bits -/
theorem top_word {l : List Int} {n : Nat} (hn : 1 ≤ n) (hl : l.length = n) (hw : words l) (h : 2 ^ (64 * n - 1) ≤ vB l) : 9223372036854775808 ≤ l.getD (n - 1) 0 := by
  obtain ⟨k, rfl⟩ : ∃ k, n = k + 1 := ⟨n - 1, by omega⟩
  obtain ⟨d0, dt, e, l0⟩ := snoc_of hl
  have b0 := vB_bd d0 (fun x hx => hw x (by rw [e]; exact List.mem_append_left _ hx))
  rw [l0] at b0
  rw [Nat.add_sub_cancel, e, getD_snoc d0 dt [] l0]
  rw [e, vB_append, l0, show 64 * (k + 1) - 1 = 64 * k + 63 from by omega, Int.pow_add, ← pow64] at h
  simp only [vB] at h
  rw [Int.mul_zero, Int.add_zero, show (2 : Int) ^ 63 = 9223372036854775808 from rfl] at h
  rcases Int.lt_or_le dt 9223372036854775808 with hc | hc
  · exfalso
    have h1 : 18446744073709551616 ^ k * dt ≤ 18446744073709551616 ^ k * 9223372036854775807 := Int.mul_le_mul_of_nonneg_left (by omega) (Int.le_of_lt (pow_posB k))
    generalize (18446744073709551616 : Int) ^ k = K at *
    omega
  · exact hc
theorem divmod_calls (a b : W4) (ha : a.ok) (hb : b.ok) (hz : b.val ≠ 0) (w : World) : Calls Try.prog 50 #[vW a, vW b] w fun e w' => e = .returned (qrV (W4.of (a.val / b.val)) (W4.of (a.val % b.val))) ∧ Tidy w w' := by
  obtain ⟨n, u, n1, n4, hu, eu, en, dlo, dhi⟩ := size_of hb hz
  have ba := W4.val_bd ha
  have bb := W4.val_bd hb
  have hp := pow_pos2' u
  have p256' : (2 : Int) ^ 256 = 115792089237316195423570985008687907853269984665640564039457584007913129639936 := rfl
  have h256 : b.val * 2 ^ u < 115792089237316195423570985008687907853269984665640564039457584007913129639936 := by
    have := pow_mono2 (show 64 * n ≤ 256 by omega)
    rw [p256'] at this
    omega
  have hD0 : 0 < b.val * 2 ^ u := Int.mul_pos (by omega) hp
  obtain ⟨ob, vb⟩ := shlW_spec hb hu
  rw [Int.emod_eq_of_lt (by omega) h256] at vb
  obtain ⟨oa, va⟩ := shlW_spec ha hu
  obtain ⟨tp, t0, t9⟩ := topI_eq ha hu
  have hA : vB (l5 (shlW a u) (topI a u)) = a.val * 2 ^ u := by
    rw [l5_val, va, tp]
    have := Int.mul_ediv_add_emod (a.val * 2 ^ u) 115792089237316195423570985008687907853269984665640564039457584007913129639936
    omega
  have wds := l4_words ob
  have vds : vB (l4 (shlW b u)) = b.val * 2 ^ u := by rw [l4_val]; exact vb
  have lds : (l4 (shlW b u)).length = 4 := rfl
  have hdn : vB ((l4 (shlW b u)).take n) = b.val * 2 ^ u := by
    have z := high_zero wds (n := n) (by rw [lds]; exact n4) (Int.le_refl _) (by rw [vds, pow64]; exact dhi)
    have e := vB_append ((l4 (shlW b u)).take n) ((l4 (shlW b u)).drop n)
    rw [List.take_append_drop, z, vds, Int.mul_zero, Int.add_zero] at e
    exact e.symm
  have ltn : ((l4 (shlW b u)).take n).length = n := by rw [List.length_take, lds]; omega
  have top := top_word n1 ltn (words_take wds n) (by rw [hdn]; exact dlo)
  have wrs := l5_words oa ⟨t0, t9⟩
  have lrs : (l5 (shlW a u) (topI a u)).length = 5 := rfl
  have h3 : vB ((l5 (shlW a u) (topI a u)).drop (5 - n)) < vB ((l4 (shlW b u)).take n) := by
    rw [hdn]
    refine Int.lt_of_lt_of_le ?_ dlo
    have e := vB_append ((l5 (shlW a u) (topI a u)).take (5 - n)) ((l5 (shlW a u) (topI a u)).drop (5 - n))
    rw [List.take_append_drop, hA, List.length_take, lrs, show min (5 - n) 5 = 5 - n from by omega] at e
    have b0 := (vB_bd _ (words_take wrs (5 - n))).1
    have big : a.val * 2 ^ u < 2 ^ (256 + 63) := by
      have h1 : a.val * 2 ^ u < 2 ^ 256 * 2 ^ u := Int.mul_lt_mul_of_pos_right (by rw [p256']; exact ba.2) hp
      rw [← Int.pow_add] at h1
      have := pow_mono2 (show 256 + u ≤ 256 + 63 by omega)
      omega
    rcases Int.lt_or_le (vB ((l5 (shlW a u) (topI a u)).drop (5 - n))) (2 ^ (64 * n - 1)) with hc | hc
    · exact hc
    · exfalso
      have h1 : 18446744073709551616 ^ (5 - n) * 2 ^ (64 * n - 1) ≤ 18446744073709551616 ^ (5 - n) * vB ((l5 (shlW a u) (topI a u)).drop (5 - n)) := Int.mul_le_mul_of_nonneg_left hc (Int.le_of_lt (pow_posB _))
      rw [pow64, ← Int.pow_add, show 64 * (5 - n) + (64 * n - 1) = 256 + 63 from by omega, ← pow64] at h1
      omega
  have pre := quo_pre a b n
  rw [eu] at pre
  refine calls_of_runs (T := (tabOf Try.prog extY conQW true)) Try.func50 quo_body (vals := [vW a, vW b]) (by rfl) (by rfl) (goesT_list (tabY_ok conQ_okW) pre.t
    (okCons (decide_eq_false (by rw [wrap_i64' (by omega) (by omega), wrap_u64' (by omega) (by omega)]; omega)) (okCons (lk_ok ha (by omega) (by omega)) (okCons (lk_ok hb (by omega) (by omega)) (okCons (decide_eq_true hb) (okCons (by rfl) (okCons (decide_eq_true en) (okCons (decide_eq_true hb) (okL1 (by
      show eqW b ⟨0, 0, 0, 0⟩ = false
      cases h : eqW b ⟨0, 0, 0, 0⟩
      · rfl
      · rw [eqW_iff.1 h] at hz; exact absurd rfl hz))))))))) fun g => ?_) w
  refine Runs.seq (P1 := fun e y => e = none ∧ ∃ (rs qs : List Int) (i : Int) (g : Nat → Value), y.1 = qFr (vW a) (vW b) n u i undef undef ++ tl 70 g ∧ y.2.1 = qHp a b (shlW a u) (l4 (shlW b u)) rs qs ∧ rs.length = 5 ∧ words rs ∧ qs.length = 4 ∧ words qs ∧ vB rs < b.val * 2 ^ u ∧ vB rs + vB qs * (b.val * 2 ^ u) = a.val * 2 ^ u) ?_ ?_ (fun e y he => by cases he.1)
  · refine Runs.seq (goesT_runs (tabY_ok conQ_okW) (quo_r (vW a) (vW b) undef undef undef n u _ g).t okNil) ?_ (fun e y he => by cases he.1)
    rintro ⟨t, h', s⟩ ⟨_, ⟨g', ht⟩, hh⟩
    simp only at ht hh
    subst ht hh
    refine (quo_loop n1 n4 lds lrs wds wrs top h3 (vW a) (vW b) undef undef u a b (shlW a u) g' s).mono fun e y he => ?_
    rw [hdn, hA] at he
    match e, he with
    | none, he => exact ⟨rfl, he⟩
  · rintro ⟨t, h', s⟩ ⟨_, rs, qs, i, g', ht, hh, lr, wr, lq, wq, hlt, hv⟩
    simp only at ht hh
    subst ht hh
    have hr0 := (vB_bd _ wr).1
    have r4z : vB (rs.drop 4) = 0 := high_zero wr (n := 4) (by omega) (by show (115792089237316195423570985008687907853269984665640564039457584007913129639936 : Int) ≤ 18446744073709551616 ^ 4; decide) (by omega)
    match rs, lr, qs, lq, wr, wq, hr0, r4z, hlt, hv with
    | [r0, r1, r2, r3, r4], _, [q0, q1, q2, q3], _, wr, wq, hr0, r4z, hlt, hv =>
      have okQ' : (⟨q0, q1, q2, q3⟩ : W4).ok := ⟨wq q0 (by simp), wq q1 (by simp), wq q2 (by simp), wq q3 (by simp)⟩
      have okR : (⟨r0, r1, r2, r3⟩ : W4).ok := ⟨wr r0 (by simp), wr r1 (by simp), wr r2 (by simp), wr r3 (by simp)⟩
      have vq : vB [q0, q1, q2, q3] = (⟨q0, q1, q2, q3⟩ : W4).val := l4_val ⟨q0, q1, q2, q3⟩
      have e4 : r4 = 0 := by
        simp only [List.drop_succ_cons, List.drop_zero, vB] at r4z
        omega
      have vr : vB [r0, r1, r2, r3, r4] = (⟨r0, r1, r2, r3⟩ : W4).val := by
        have := l5_val ⟨r0, r1, r2, r3⟩ r4
        rw [e4, Int.mul_zero, Int.add_zero] at this
        rw [e4]
        exact this
      rw [vq] at hv
      rw [vr] at hv hlt hr0
      have eA : a.val * 2 ^ u = b.val * 2 ^ u * (⟨q0, q1, q2, q3⟩ : W4).val + (⟨r0, r1, r2, r3⟩ : W4).val := by rw [Int.mul_comm (b.val * 2 ^ u)]; omega
      have eq : a.val / b.val = (⟨q0, q1, q2, q3⟩ : W4).val := by
        rw [← Int.mul_ediv_mul_of_pos_left a.val b.val hp]
        exact ediv_of eA hr0 hlt
      have er : (⟨r0, r1, r2, r3⟩ : W4).val = a.val % b.val * 2 ^ u := by
        have dm := Int.mul_ediv_add_emod a.val b.val
        rw [eq] at dm
        have : a.val * 2 ^ u = b.val * 2 ^ u * (⟨q0, q1, q2, q3⟩ : W4).val + a.val % b.val * 2 ^ u := by
          rw [Int.mul_right_comm, ← Int.add_mul, dm]
        omega
      have es : shrW ⟨r0, r1, r2, r3⟩ u = W4.of (a.val % b.val) := by
        unfold shrW
        split
        · have : u = 0 := by omega
          subst this
          rw [Int.pow_zero, Int.mul_one] at er
          rw [← er, W4.of_val okR]
        · rw [if_neg (by omega), Int.toNat_natCast, er, Int.mul_ediv_cancel _ (by omega)]
      refine (goesT_runs (tabY_ok conQ_okW) (quo_end (vW a) (vW b) undef undef n u i a b (shlW a u) (l4 (shlW b u)) r0 r1 r2 r3 r4 ⟨q0, q1, q2, q3⟩ g') (okL1 (lk_ok okR (by omega) (by omega)))).mono fun e y he => ?_
      obtain ⟨rfl, ⟨g2, h2⟩, h3'⟩ := he
      refine ⟨.inr rfl, ?_⟩
      rw [h2, h3', es, eq, W4.of_val okQ']
      rfl
end Go.Proofs.Ytnolcojnodoecaa

/-
  wide.middle, as a call; the pieces of wide.Sqrt.
-/
namespace Go.Proofs.Ytnolcojnodoecaa
open Go.KRun Go.Wd
set_option maxRecDepth 100000

def nz2 (a b : W4) : Bool × Bool := (decide (a.ok ∧ b.ok ∧ b.val ≠ 0), true)
def gQR : Ans := fun vals s =>
  match vals with
  | [x, y] =>
    match w4 x, w4 y with
    | some a, some b => some (qrV (W4.of (a.val / b.val)) (W4.of (a.val % b.val)), s, [nz2 a b])
    | _, _ => none
  | _ => none
theorem gQR_ok : AnsOk 50 gQR := by
  intro vals s v s' lg h hl w
  unfold gQR at h
  split at h
  · split at h
    · rename_i a b ha hb
      cases h
      have h1 := hl _ (List.mem_singleton.2 rfl)
      simp only [nz2, decide_eq_true_eq] at h1
      rw [w4_spec ha, w4_spec hb]
      exact divmod_calls a b h1.1 h1.2.1 h1.2.2 w
    · cases h
  · cases h
def conMi : Con := alt 50 gQR (alt 86 (g2 (plain2 addV4)) (alt 78 (g1n (plain1n shrV4)) conN))
theorem conMi_ok : ConOk conMi := alt_ok Try.func50 rfl gQR_ok (alt_ok Try.func86 rfl (plain2_ok add_calls) (alt_ok Try.func78 rfl (plain1n_ok shr_calls) conN_ok))
def dq (x a : W4) : W4 := W4.of (a.val / x.val)
def smW (x a : W4) : W4 := W4.of (x.val + (dq x a).val)
def p2 (x y : W4) : Bool × Bool := (decide (x.ok ∧ y.ok), true)
theorem mid_fits (x a : W4) : Fits (reckon (tabOf Try.prog extY conMi true) 500 81 [vW x, vW a] []) (vW (shrW (smW x a) 1)) [lk (smW x a) 1, p2 x (dq x a), nz2 a x] := ⟨by kernel_rfl, by kernel_rfl, by kernel_rfl, by kernel_rfl⟩
def midI (x a : W4) : Int := (x.val + a.val / x.val) / 2
def midOk (x a : W4) : Prop := x.ok ∧ a.ok ∧ x.val ≠ 0 ∧ x.val + a.val / x.val < 115792089237316195423570985008687907853269984665640564039457584007913129639936
theorem mid_calls (x a : W4) (h : midOk x a) (w : World) : Calls Try.prog 81 #[vW x, vW a] w fun e w' => e = .returned (vW (W4.of (midI x a))) ∧ Tidy w w' := by
  obtain ⟨hx, ha, hz, hs⟩ := h
  have bx := W4.val_bd hx
  have ba := W4.val_bd ha
  have q0 : 0 ≤ a.val / x.val := Int.ediv_nonneg ba.1 bx.1
  have q9 : a.val / x.val ≤ a.val := Int.ediv_le_self _ ba.1
  have e1 : (dq x a).val = a.val / x.val := by unfold dq; rw [W4.val_of, Int.emod_eq_of_lt q0 (by omega)]
  have e2 : (smW x a).val = x.val + a.val / x.val := by unfold smW; rw [e1, W4.val_of, Int.emod_eq_of_lt (by omega) hs]
  have h := fits_calls (tabY_ok conMi_ok) (mid_fits x a) (okCons (lk_ok (W4.ok_of _) (by omega) (by omega)) (okCons (decide_eq_true ⟨hx, W4.ok_of _⟩) (okL1 (decide_eq_true ⟨ha, hx, hz⟩)))) (by rfl) (by rfl) w
  have e3 : shrW (smW x a) 1 = W4.of (midI x a) := by
    unfold shrW midI
    rw [if_neg (by omega), if_neg (by omega), e2]
    rfl
  rw [e3] at h
  exact h
def gMid : Ans := fun vals s =>
  match vals with
  | [x, y] =>
    match w4 x, w4 y with
    | some x, some a => some (vW (W4.of (midI x a)), s, [(decide (x.ok ∧ a.ok ∧ x.val ≠ 0 ∧ x.val + a.val / x.val < 115792089237316195423570985008687907853269984665640564039457584007913129639936), true)])
    | _, _ => none
  | _ => none
theorem gMid_ok : AnsOk 81 gMid := by
  intro vals s v s' lg h hl w
  unfold gMid at h
  split at h
  · split at h
    · rename_i a b ha hb
      cases h
      have h1 := hl _ (List.mem_singleton.2 rfl)
      simp only [decide_eq_true_eq] at h1
      rw [w4_spec ha, w4_spec hb]
      exact mid_calls a b h1 w
    · cases h
  · cases h
def conSq : Con := alt 81 gMid (alt 82 (g2 (plain2 cmpV4)) (alt 68 (g1 lenV4) (alt 51 (g1n (plain1n shlV4)) (alt 63 (g2 (plain2 mulV4)) (alt 83 (g2 (plain2 subV4)) conN)))))
theorem conSq_ok : ConOk conSq := alt_ok Try.func81 rfl gMid_ok (alt_ok Try.func82 rfl (plain2_ok cmp_calls) (alt_ok Try.func68 rfl (g1_ok wlen_calls) (alt_ok Try.func51 rfl (plain1n_ok shl_calls) (alt_ok Try.func63 rfl (plain2_ok mul_calls) (alt_ok Try.func83 rfl (plain2_ok sub_calls) conN_ok)))))
def mOkW (x a : W4) : Bool × Bool := (decide (x.ok ∧ a.ok ∧ x.val ≠ 0 ∧ x.val + a.val / x.val < 115792089237316195423570985008687907853269984665640564039457584007913129639936), true)
def sPreW (F : Func) : List Code := [cFst (cBody F), cFst (cSnd (cBody F)), cFst (cSnd (cSnd (cBody F)))]
def sLoopW (F : Func) : Code := cIn (cIn (cFst (cSnd (cSnd (cSnd (cBody F))))))
def sEndW (F : Func) : Code := cSnd (cSnd (cSnd (cSnd (cBody F))))
theorem sq_body : Try.f61.body = some (seqs (sPreW Try.f61) (.seq (.block 0 (.loop (sLoopW Try.f61))) (sEndW Try.f61))) := by kernel_rfl
/-- the temporaries of Sqrt: the pointer to 'next', what is known from ahead of the loop, and the round's own -/
def sTW (a : W4) (v5 : Value) (J K : List Value) : List Value := [vW a, t_ 0, t_ 1, t_ 2, t_ 3, v5, undef, undef, undef, undef] ++ (J ++ (K ++ List.replicate 14 undef))
def eW (x : W4) : List Value × TypeId := ([.int .u64 x.a, .int .u64 x.b, .int .u64 x.c, .int .u64 x.d], 40)
def z4 : W4 := ⟨0, 0, 0, 0⟩
def hA (a x : W4) : Hp := ⟨4, [eW x, eW z4, eW z4, eW a]⟩
def hBW (a x y : W4) : Hp := ⟨5, [eW y, eW x, eW z4, eW z4, eW a]⟩
def hC (a x y z : W4) : Hp := ⟨6, [eW z, eW y, eW x, eW z4, eW z4, eW a]⟩
def nW (x a : W4) : W4 := W4.of (midI x a)
def kGo (x a : W4) : List Value := [vW x, vW a, vW (nW x a), vW (nW x a), vW x, .int .i64 (cmpI (nW x a) x), .bool false, vW (nW x a)]
def kUp (x a : W4) (k : Value) : List Value := [vW x, vW a, vW (nW x a), vW (nW x a), vW x, .int .i64 (cmpI (nW x a) x), .bool true, k]
def cg (x a : W4) (d : Bool) : Bool × Bool := (decide (cmpI (nW x a) x ≥ 0), d)
theorem sq_pre (a : W4) : GoesT (evL (tabOf Try.prog extY conSq true) 500 (sPreW Try.f61) ([vW a] ++ List.replicate 42 undef, ⟨0, []⟩, [sam false]) ⟨[], [], []⟩) 43 0 none
    (sTW a undef [vW a, vW z4, .bool false, undef, undef, vW ⟨1, 0, 0, 0⟩, vW a, .int .i64 (lenI a), .int .i64 (IntKind.i64.wrap (lenI a + 1)), .int .i64 (IntKind.i64.wrap ((IntKind.i64.wrap (lenI a + 1)).tdiv 2)), vW (shlW ⟨1, 0, 0, 0⟩ (IntKind.i64.wrap ((IntKind.i64.wrap (lenI a + 1)).tdiv 2)))] (List.replicate 8 undef))
    (hA a (shlW ⟨1, 0, 0, 0⟩ (IntKind.i64.wrap ((IntKind.i64.wrap (lenI a + 1)).tdiv 2)))) [lk ⟨1, 0, 0, 0⟩ (IntKind.i64.wrap ((IntKind.i64.wrap (lenI a + 1)).tdiv 2)), okQ a, lk ⟨1, 0, 0, 0⟩ (IntKind.i64.wrap ((IntKind.i64.wrap (lenI a + 1)).tdiv 2)), okQ a, lk ⟨1, 0, 0, 0⟩ (IntKind.i64.wrap ((IntKind.i64.wrap (lenI a + 1)).tdiv 2)), lk ⟨1, 0, 0, 0⟩ (IntKind.i64.wrap ((IntKind.i64.wrap (lenI a + 1)).tdiv 2)), okQ a, (eqW a z4, false)] := ⟨by kernel_rfl, by kernel_rfl, by kernel_rfl⟩
theorem sqA_go (a x : W4) (v5 j10 j11 j12 j13 j14 j15 j16 j17 j18 j19 j20 k21 k22 k23 k24 k25 k26 k27 k28 : Value) : GoesE (evC (tabOf Try.prog extY conSq true) 300 false (sLoopW Try.f61) (sTW a v5 [j10, j11, j12, j13, j14, j15, j16, j17, j18, j19, j20] [k21, k22, k23, k24, k25, k26, k27, k28], hA a x, [cmp false]) ⟨[], [], []⟩) 43 0 none
    (sTW a (t_ 4) [j10, j11, j12, j13, j14, j15, j16, j17, j18, j19, j20] (kGo x a)) (hBW a (nW x a) (nW x a)) [cg x a false, p2 (nW x a) x, mOkW x a] := by unfold GoesE; kernel_rfl
theorem sqA_up (a x : W4) (v5 j10 j11 j12 j13 j14 j15 j16 j17 j18 j19 j20 k21 k22 k23 k24 k25 k26 k27 k28 : Value) : GoesE (evC (tabOf Try.prog extY conSq true) 300 false (sLoopW Try.f61) (sTW a v5 [j10, j11, j12, j13, j14, j15, j16, j17, j18, j19, j20] [k21, k22, k23, k24, k25, k26, k27, k28], hA a x, [cmp true]) ⟨[], [], []⟩) 43 0 (some (some 0))
    (sTW a (t_ 4) [j10, j11, j12, j13, j14, j15, j16, j17, j18, j19, j20] (kUp x a k28)) (hBW a x (nW x a)) [cg x a true, p2 (nW x a) x, mOkW x a] := by unfold GoesE; kernel_rfl
theorem sqB_go (a x : W4) (v5 j10 j11 j12 j13 j14 j15 j16 j17 j18 j19 j20 k21 k22 k23 k24 k25 k26 k27 k28 : Value) (y : W4) : GoesE (evC (tabOf Try.prog extY conSq true) 300 false (sLoopW Try.f61) (sTW a v5 [j10, j11, j12, j13, j14, j15, j16, j17, j18, j19, j20] [k21, k22, k23, k24, k25, k26, k27, k28], hBW a x y, [cmp false]) ⟨[], [], []⟩) 43 0 none
    (sTW a (t_ 5) [j10, j11, j12, j13, j14, j15, j16, j17, j18, j19, j20] (kGo x a)) (hC a (nW x a) y (nW x a)) [cg x a false, p2 (nW x a) x, mOkW x a] := by unfold GoesE; kernel_rfl
theorem sqB_up (a x : W4) (v5 j10 j11 j12 j13 j14 j15 j16 j17 j18 j19 j20 k21 k22 k23 k24 k25 k26 k27 k28 : Value) (y : W4) : GoesE (evC (tabOf Try.prog extY conSq true) 300 false (sLoopW Try.f61) (sTW a v5 [j10, j11, j12, j13, j14, j15, j16, j17, j18, j19, j20] [k21, k22, k23, k24, k25, k26, k27, k28], hBW a x y, [cmp true]) ⟨[], [], []⟩) 43 0 (some (some 0))
    (sTW a (t_ 5) [j10, j11, j12, j13, j14, j15, j16, j17, j18, j19, j20] (kUp x a k28)) (hC a x y (nW x a)) [cg x a true, p2 (nW x a) x, mOkW x a] := by unfold GoesE; kernel_rfl
theorem sq_end (a x : W4) (v5 j10 j11 j12 j13 j14 j15 j16 j17 j18 j19 j20 k21 k22 k23 k24 k25 k26 k27 k28 : Value) (y : W4) : GoesT (evC (tabOf Try.prog extY conSq true) 500 false (sEndW Try.f61) (sTW a v5 [j10, j11, j12, j13, j14, j15, j16, j17, j18, j19, j20] [k21, k22, k23, k24, k25, k26, k27, k28], hBW a x y, []) ⟨[], [], []⟩) 4 39 (some none)
    [vW a, t_ 0, t_ 1, t_ 2] ⟨8, [eW (W4.of (a.val - (W4.of (x.val * x.val)).val)), eW (W4.of (x.val * x.val / 115792089237316195423570985008687907853269984665640564039457584007913129639936)), eW (W4.of (x.val * x.val)), eW y, eW x, eW (W4.of (a.val - (W4.of (x.val * x.val)).val)), eW x, eW a]⟩
    [p2 a (W4.of (x.val * x.val)), p2 x x] := ⟨by kernel_rfl, by kernel_rfl, by kernel_rfl⟩
theorem sq_zero (a : W4) : Fits (reckon (tabOf Try.prog extY conSq true) 500 61 [vW a] [sam true]) (.tuple #[vW z4, vW z4]) [(eqW a z4, true)] := ⟨by kernel_rfl, by kernel_rfl, by kernel_rfl, by kernel_rfl⟩
end Go.Proofs.Ytnolcojnodoecaa

/-
  wide.Sqrt, as a call: the root of any number, and the rest.
-/
namespace Go.Proofs.Ytnolcojnodoecaa
open Go.KRun Go.Wd
set_option maxRecDepth 100000

def low (J : List Value) : Prop := ∀ v ∈ J, lt 0 v = true
theorem map_low {J : List Value} (h : low J) (m : Nat → Nat) : J.map (rn m) = J := (List.map_congr_left fun v hv => rn_still (h v hv)).trans (List.map_id' _)
theorem low_ltW {J : List Value} (h : low J) {n : Nat} {v : Value} (hv : v ∈ J) : lt n v = true := lt_mono (Nat.zero_le _) (h v hv)
theorem sT_swp (a : W4) {J K : List Value} (hJ : low J) (hK : low K) : (sTW a (t_ 5) J K).map (rn (swp 4 5)) = sTW a (t_ 4) J K := by
  unfold sTW
  have e1 : rn (swp 4 5) (vW a) = vW a := rn_still (by rfl)
  have e2 : ∀ k, rn (swp 4 5) (t_ k) = t_ (swp 4 5 k) := fun k => by rfl
  rw [List.map_append, List.map_append, List.map_append, map_low hJ, map_low hK, List.map_replicate, rn_still (v := undef) (by rfl)]
  have e3 : rn (swp 4 5) undef = undef := rn_still (by rfl)
  simp only [List.map_cons, List.map_nil, e3, e1, e2]
  rfl
theorem sT_lt (a : W4) {J K : List Value} (hJ : low J) (hK : low K) : ∀ v ∈ sTW a (t_ 4) J K, lt 5 v = true := by
  intro v hv
  unfold sTW at hv
  rcases List.mem_append.1 hv with hv | hv
  · simp only [List.mem_cons, List.not_mem_nil, or_false] at hv
    rcases hv with rfl | rfl | rfl | rfl | rfl | rfl | rfl | rfl | rfl | rfl <;> rfl
  · rcases List.mem_append.1 hv with hv | hv
    · exact low_ltW hJ hv
    · rcases List.mem_append.1 hv with hv | hv
      · exact low_ltW hK hv
      · rw [List.eq_of_mem_replicate hv]; rfl
theorem sq_slide (a x y z : W4) {J K : List Value} (hJ : low J) (hK : low K) {m : Mp} {B : Nat} {s : List Dec} {a' : Act} {w : World} (R : Rel m B (sTW a (t_ 5) J K, hC a x y z, s) a' w) : ∃ m', Rel m' B (sTW a (t_ 4) J K, hBW a x z, s) a' w := by
  obtain ⟨m', h⟩ := slide (k := 4) R (by rfl) (fun v hv => sT_lt a hJ hK _ (by rw [← sT_swp a hJ hK]; exact List.mem_map_of_mem hv))
  rw [sT_swp a hJ hK] at h
  exact ⟨m', h⟩
theorem low_go (x a : W4) : low (kGo x a) := by
  intro v hv
  unfold kGo at hv
  simp only [List.mem_cons, List.not_mem_nil, or_false] at hv
  rcases hv with rfl | rfl | rfl | rfl | rfl | rfl | rfl | rfl <;> rfl
theorem low_up (x a : W4) {k : Value} (hk : lt 0 k = true) : low (kUp x a k) := by
  intro v hv
  unfold kUp at hv
  simp only [List.mem_cons, List.not_mem_nil, or_false] at hv
  rcases hv with rfl | rfl | rfl | rfl | rfl | rfl | rfl | rfl
  · rfl
  · rfl
  · rfl
  · rfl
  · rfl
  · rfl
  · rfl
  · exact hk
/-- what holds of a root that is sought -/
def seek (a x : W4) : Prop := x.ok ∧ 1 ≤ x.val ∧ x.val ≤ 340282366920938463463374607431768211456 ∧ a.val < (x.val + 1) * (x.val + 1)
def sInvW (a : W4) (n : Nat) (y : Lf) : Prop := ∃ (x : W4) (v5 : Value) (J K : List Value), J.length = 11 ∧ K.length = 8 ∧ low J ∧ low K ∧ y.1 = sTW a v5 J K ∧ (y.2.1 = hA a x ∨ ∃ z, y.2.1 = hBW a x z) ∧ seek a x ∧ n = x.val.toNat
def sDone (a : W4) (y : Lf) : Prop := ∃ (x z : W4) (J K : List Value), J.length = 11 ∧ K.length = 8 ∧ y.1 = sTW a (t_ 4) J K ∧ y.2.1 = hBW a x z ∧ x.ok ∧ 0 ≤ x.val ∧ x.val * x.val ≤ a.val ∧ a.val < (x.val + 1) * (x.val + 1)
theorem cmp_ge (x y : W4) : cmpI x y ≥ 0 ↔ y.val ≤ x.val := by
  unfold cmpI
  split
  · omega
  · split <;> omega
theorem step_of {a x : W4} (ha : a.ok) (h : seek a x) : (nW x a).val = (x.val + a.val / x.val) / 2 ∧ okLog [p2 (nW x a) x, mOkW x a] ∧ (nW x a).val < 115792089237316195423570985008687907853269984665640564039457584007913129639936 := by
  obtain ⟨ox, x1, x9, hi⟩ := h
  have ba := W4.val_bd ha
  have q0 : 0 ≤ a.val / x.val := Int.ediv_nonneg ba.1 (by omega)
  have q9 := mid_lim x1 hi
  have e : (nW x a).val = (x.val + a.val / x.val) / 2 := by
    unfold nW midI
    rw [W4.val_of, Int.emod_eq_of_lt (by omega) (by omega)]
  exact ⟨e, okCons (decide_eq_true ⟨W4.ok_of _, ox⟩) (okL1 (decide_eq_true ⟨ox, ha, by omega, by omega⟩)), by omega⟩
theorem seek_next {a x : W4} (ha : a.ok) (h1 : 1 ≤ a.val) (h : seek a x) (hl : (nW x a).val < x.val) : seek a (nW x a) := by
  obtain ⟨e, _, _⟩ := step_of ha h
  obtain ⟨ox, x1, x9, hi⟩ := h
  refine ⟨W4.ok_of _, by rw [e]; exact mid_one x1 h1, by omega, ?_⟩
  rw [e]
  exact mid_up x1 (by omega)
theorem sq_round {a : W4} (ha : a.ok) (h1 : 1 ≤ a.val) (n : Nat) (y : Lf) (h : sInvW a n y) : RunsW (tabOf Try.prog extY conSq true) (sLoopW Try.f61) y fun e y => match e with | none => ∃ n', n' < n ∧ sInvW a n' y | some e => e = some 0 ∧ sDone a y := by
  obtain ⟨t, h', s⟩ := y
  obtain ⟨x, v5, J, K, lJ, lK, hJ, hK, ht, hh, hs, hn⟩ := h
  simp only at ht hh
  obtain ⟨e, lg, lim⟩ := step_of ha hs
  match J, lJ, K, lK with
  | [j10, j11, j12, j13, j14, j15, j16, j17, j18, j19, j20], lJ, [k21, k22, k23, k24, k25, k26, k27, k28], lK =>
    have k28' : lt 0 k28 = true := hK k28 (by simp)
    subst ht
    by_cases hc : x.val ≤ (nW x a).val
    · have fin : x.val * x.val ≤ a.val := mid_end hs.2.1 (by omega)
      have hc' : (cg x a true).1 = (cg x a true).2 := decide_eq_true ((cmp_ge _ _).2 hc)
      rcases hh with rfl | ⟨z, rfl⟩
      · refine (goesT_runs (tabY_ok conSq_ok) (sqA_up a x v5 j10 j11 j12 j13 j14 j15 j16 j17 j18 j19 j20 k21 k22 k23 k24 k25 k26 k27 k28).t (okCons hc' lg)).w.mono fun e' y he => ?_
        obtain ⟨rfl, ⟨g, h2⟩, h3⟩ := he
        exact ⟨rfl, x, nW x a, _, _, lJ, rfl, by rw [h2]; exact List.append_nil _, h3, hs.1, by have := hs.2.1; omega, fin, hs.2.2.2⟩
      · refine (goesT_runs (tabY_ok conSq_ok) (sqB_up a x v5 j10 j11 j12 j13 j14 j15 j16 j17 j18 j19 j20 k21 k22 k23 k24 k25 k26 k27 k28 z).t (okCons hc' lg)).w.post fun e' y he => ?_
        obtain ⟨t2, m2, s2⟩ := y
        obtain ⟨rfl, ⟨g, h2⟩, h3⟩ := he
        simp only at h2 h3
        have h2 : t2 = _ := h2.trans (List.append_nil _)
        subst h2 h3
        exact ⟨_, ⟨rfl, x, nW x a, _, _, lJ, rfl, rfl, rfl, hs.1, by have := hs.2.1; omega, fin, hs.2.2.2⟩, fun m B a' w R => sq_slide a x z (nW x a) hJ (low_up x a k28') R⟩
    · have hc' : (cg x a false).1 = (cg x a false).2 := decide_eq_false (fun h => hc ((cmp_ge _ _).1 h))
      have sn := seek_next ha h1 hs (by omega)
      rcases hh with rfl | ⟨z, rfl⟩
      · refine (goesT_runs (tabY_ok conSq_ok) (sqA_go a x v5 j10 j11 j12 j13 j14 j15 j16 j17 j18 j19 j20 k21 k22 k23 k24 k25 k26 k27 k28).t (okCons hc' lg)).w.mono fun e' y he => ?_
        obtain ⟨rfl, ⟨g, h2⟩, h3⟩ := he
        exact ⟨_, by rw [hn]; have := sn.2.1; omega, nW x a, t_ 4, _, _, lJ, rfl, hJ, low_go x a, h2.trans (List.append_nil _), .inr ⟨_, h3⟩, sn, rfl⟩
      · refine (goesT_runs (tabY_ok conSq_ok) (sqB_go a x v5 j10 j11 j12 j13 j14 j15 j16 j17 j18 j19 j20 k21 k22 k23 k24 k25 k26 k27 k28 z).t (okCons hc' lg)).w.post fun e' y he => ?_
        obtain ⟨t2, m2, s2⟩ := y
        obtain ⟨rfl, ⟨g, h2⟩, h3⟩ := he
        simp only at h2 h3
        have h2 : t2 = _ := h2.trans (List.append_nil _)
        subst h2 h3
        exact ⟨_, ⟨_, by rw [hn]; have := sn.2.1; omega, nW x a, t_ 4, _, _, lJ, rfl, hJ, low_go x a, rfl, .inr ⟨_, rfl⟩, sn, rfl⟩, fun m B a' w R => sq_slide a (nW x a) z (nW x a) hJ (low_go x a) R⟩
def isI (a : W4) : Int := (isq a.val.toNat : Nat)
def rootV (a : W4) : Value := .tuple #[vW (W4.of (isI a)), vW (W4.of (a.val - isI a * isI a))]
theorem isI_spec {a : W4} (ha : a.ok) : 0 ≤ isI a ∧ isI a * isI a ≤ a.val ∧ a.val < (isI a + 1) * (isI a + 1) := by
  have b := W4.val_bd ha
  obtain ⟨h1, h2⟩ := isq_spec (n := a.val.toNat) (by omega)
  have h1 : ((isq a.val.toNat : Nat) : Int) * (isq a.val.toNat : Nat) ≤ (a.val.toNat : Nat) := by exact_mod_cast h1
  have h2 : ((a.val.toNat : Nat) : Int) < ((isq a.val.toNat : Nat) + 1) * ((isq a.val.toNat : Nat) + 1) := by exact_mod_cast h2
  rw [Int.toNat_of_nonneg b.1] at h1 h2
  unfold isI
  exact ⟨by omega, h1, h2⟩
/-- the root that is begun with -/
theorem start_of {a : W4} (ha : a.ok) (h1 : 1 ≤ a.val) : ∃ k : Nat, 1 ≤ k ∧ k ≤ 128 ∧ IntKind.i64.wrap ((IntKind.i64.wrap (lenI a + 1)).tdiv 2) = k ∧ seek a (shlW ⟨1, 0, 0, 0⟩ k) := by
  have bd := W4.val_bd ha
  have hV : a.val.toNat ≠ 0 := by omega
  obtain ⟨s1, s2⟩ := bitLen_spec a.val.toNat
  have s2 := s2 hV
  have hk1 : bitLen a.val.toNat ≠ 0 := by intro h0; rw [h0] at s1; simp at s1; omega
  have hk2 : bitLen a.val.toNat ≤ 256 := by
    rcases Nat.lt_or_ge 256 (bitLen a.val.toNat) with hh | hh
    · have h1 : 2 ^ 256 ≤ 2 ^ (bitLen a.val.toNat - 1) := Nat.pow_le_pow_right (by omega) (by omega)
      have h2 : (2 : Nat) ^ 256 = 115792089237316195423570985008687907853269984665640564039457584007913129639936 := rfl
      rw [h2] at h1
      omega
    · exact hh
  have hi : a.val < (2 : Int) ^ bitLen a.val.toNat := by rw [← cast_pow']; omega
  unfold lenI
  generalize bitLen a.val.toNat = k at *
  refine ⟨(k + 1) / 2, by omega, by omega, ?_, ?_⟩
  · rw [wrap_i64' (n := (k : Int) + 1) (by omega) (by omega), Int.tdiv_eq_ediv_of_nonneg (by omega), wrap_i64' (by omega) (by omega)]
    omega
  · have p := pow_pos2' ((k + 1) / 2)
    have q : (2 : Int) ^ ((k + 1) / 2) ≤ 2 ^ 128 := pow_mono2 (by omega)
    rw [show (2 : Int) ^ 128 = 340282366920938463463374607431768211456 from rfl] at q
    have e : (shlW ⟨1, 0, 0, 0⟩ (((k + 1) / 2 : Nat) : Int)).val = 2 ^ ((k + 1) / 2) := by
      unfold shlW
      rw [if_neg (by omega), if_neg (by omega), W4.val_of, Int.toNat_natCast, show (⟨1, 0, 0, 0⟩ : W4).val = 1 from rfl, Int.one_mul, Int.emod_eq_of_lt (by omega) (by omega)]
    have o : (shlW ⟨1, 0, 0, 0⟩ (((k + 1) / 2 : Nat) : Int)).ok := by
      unfold shlW
      rw [if_neg (by omega), if_neg (by omega)]
      exact W4.ok_of _
    refine ⟨o, by omega, by omega, ?_⟩
    have m : (2 : Int) ^ k ≤ 2 ^ ((k + 1) / 2 + (k + 1) / 2) := pow_mono2 (by omega)
    rw [Int.pow_add] at m
    rw [e, sq_suc]
    omega
theorem sqrt_calls (a : W4) (ha : a.ok) (w : World) : Calls Try.prog 61 #[vW a] w fun e w' => e = .returned (rootV a) ∧ Tidy w w' := by
  have bd := W4.val_bd ha
  by_cases hz : a.val = 0
  · have e : a = z4 := W4.val_inj ha (by decide) (by rw [hz]; rfl)
    subst e
    exact fits_calls (tabY_ok conSq_ok) (sq_zero z4) (okL1 (by rfl)) (by rfl) (by rfl) w
  obtain ⟨k, k1, k9, ek, sk⟩ := start_of ha (by omega)
  have pre := sq_pre a
  rw [ek] at pre
  have ok1 : (⟨1, 0, 0, 0⟩ : W4).ok := by decide
  have l1 : (lk ⟨1, 0, 0, 0⟩ (k : Int)).1 = (lk ⟨1, 0, 0, 0⟩ (k : Int)).2 := lk_ok ok1 (by omega) (by omega)
  have l2 : (okQ a).1 = (okQ a).2 := decide_eq_true ha
  have l3 : eqW a z4 = false := by
    cases h : eqW a z4
    · rfl
    · rw [eqW_iff.1 h] at hz; exact absurd rfl hz
  obtain ⟨g, s', L, hr, hL⟩ := goesT_some pre (okCons l1 (okCons l2 (okCons l1 (okCons l2 (okCons l1 (okCons l1 (okCons l2 (okL1 l3))))))))
  refine calls_of_runsW (T := (tabOf Try.prog extY conSq true)) Try.func61 sq_body (vals := [vW a]) (by rfl) (by rfl) ?_ w
  refine goesT_listW (tabY_ok conSq_ok) pre (okCons l1 (okCons l2 (okCons l1 (okCons l2 (okCons l1 (okCons l1 (okCons l2 (okL1 l3)))))))) fun g => ?_
  refine RunsW.seq (P1 := fun e y => e = none ∧ sDone a y) ?_ ?_ (fun e y he => by cases he.1)
  · refine RunsW.block (P1 := fun e y => match e with | none => False | some e => e = some 0 ∧ sDone a y) ?_ (fun y he => he.elim) (fun y he => by cases he.1) (fun y he => ⟨rfl, he.2⟩) (fun id' y hid he => absurd (Option.some.inj he.1) hid)
    refine RunsW.loop (sInvW a) (fun n y hI => (sq_round ha (by omega) n y hI).mono fun e y he => ?_) (n := (shlW ⟨1, 0, 0, 0⟩ (k : Int)).val.toNat) ⟨_, undef, _, _, rfl, rfl, ?_, ?_, List.append_nil _, .inl rfl, sk, rfl⟩
    · match e, he with
      | none, he => exact he
      | some e, he => exact he
    · intro v hv
      simp only [List.mem_cons, List.not_mem_nil, or_false] at hv
      rcases hv with rfl | rfl | rfl | rfl | rfl | rfl | rfl | rfl | rfl | rfl | rfl <;> rfl
    · intro v hv
      rw [List.eq_of_mem_replicate hv]; rfl
  · rintro ⟨t, h', s⟩ ⟨_, x, z, J, K, lJ, lK, ht, hh, ox, x0, xl, xh⟩
    simp only at ht hh
    subst ht hh
    match J, lJ, K, lK with
    | [j10, j11, j12, j13, j14, j15, j16, j17, j18, j19, j20], _, [k21, k22, k23, k24, k25, k26, k27, k28], _ =>
      have ex : x.val = isI a := isq_one (by omega) x0 (by omega) (by omega)
      have x9 := W4.val_bd ox
      refine (goesT_runs (tabY_ok conSq_ok) (sq_end a x (t_ 4) j10 j11 j12 j13 j14 j15 j16 j17 j18 j19 j20 k21 k22 k23 k24 k25 k26 k27 k28 z) (okCons (decide_eq_true ⟨ha, W4.ok_of _⟩) (okL1 (decide_eq_true ⟨ox, ox⟩)))).w.mono fun e y he => ?_
      obtain ⟨rfl, ⟨g2, h2⟩, h3⟩ := he
      refine ⟨.inr rfl, ?_⟩
      have e1 : W4.of (a.val - (W4.of (x.val * x.val)).val) = W4.of (a.val - isI a * isI a) := by
        rw [W4.val_of, Int.emod_eq_of_lt (sq_nonneg' _) (by omega), ex]
      have e2 : x = W4.of (isI a) := by rw [← ex, W4.of_val ox]
      unfold rootV
      rw [h2, h3, e1, ← e2]
      rfl
end Go.Proofs.Ytnolcojnodoecaa
