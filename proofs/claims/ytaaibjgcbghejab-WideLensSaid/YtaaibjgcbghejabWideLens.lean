/-
  PROVED HERE: for every input the law tillerlaw01.WideLens returns true, and each argument reads afterwards as it read before: a number of 256 bits is below 2^Len, and not below half of that; its highest bit is set, and none above it; moved up it has so many more. No condition.
-/
import Derived.Test.YtaaibjgcbghejabSure
import Derived.Test.YtaaibjgcbghejabCon3
import Derived.Test.YtaaibjgcbghejabRow
import Derived.Test.YtaaibjgcbghejabRows
namespace Go.Proofs.Ytaaibjgcbghejab.wideLens
open Go.KRun Go.Wd Go.ChangeShapes Go.WideShapes Go.ChangeAt Go.RowKit
set_option linter.unusedVariables false

def con : Con := alt 11 (g1 lenV4) (alt 13 (g1n (plain1n bitV4)) (alt 9 (g1n (plain1n shlV4)) (alt 8 (g1n shrB) (alt 10 gSure conN))))
theorem con_ok : ConOk con := alt_ok Try.func11 rfl (g1_ok wlen_calls) (alt_ok Try.func13 rfl (plain1n_ok bit_calls) (alt_ok Try.func9 rfl (plain1n_ok shl_calls) (alt_ok Try.func8 rfl shrB_ok (alt_ok Try.func10 rfl gSure_ok conN_ok))))

def zero : W4 := ⟨0, 0, 0, 0⟩
def one : W4 := ⟨1, 0, 0, 0⟩
def lo (x : W4) : Bool × Bool := (decide x.ok, true)
def km (x : W4) : Int := IntKind.i64.wrap (lenI x - 1)
def dv (x : W4) : Int := IntKind.u64.wrap (IntKind.i64.wrap (257 - lenI x))
def byI (x : W4) (n : Int) : Int := IntKind.i64.wrap ((IntKind.u64.wrap n).tmod (dv x))
set_option maxRecDepth 100000 in
theorem law_zero (x : W4) (n : Int) : Fits (reckon (tabOf Try.prog extY con true) 3000 4 [vW x, .int .i64 n] [sam true, cmp true]) (.bool true)
    [(lenI x == 0, true), (eqW x zero, true), lo x] := ⟨by kernel_rfl, by kernel_rfl, by kernel_rfl, by kernel_rfl⟩
set_option maxRecDepth 100000 in
theorem law_keep (x : W4) (n : Int) : Fits (reckon (tabOf Try.prog extY con true) 3000 4 [vW x, .int .i64 n] [sam false, cmp false, cmp false, cmp false, sam false, cmp false, cmp false, cmp true, cmp true]) (.bool true)
    [(lenI (shlW x (byI x n)) == IntKind.i64.wrap (lenI x + byI x n), true), lo (shlW x (byI x n)), lk x (byI x n), (decide (dv x = 0), false),
      (bitI x (lenI x) != 0, false), lk x (lenI x), (bitI x (km x) != 1, false), lk x (km x), (!(eqW (shrW x (km x)) one), false), (decide (lenI x > 256), false), (decide (lenI x < 1), false),
      lk x (km x), (shrL x (km x), false), (eqW x zero, false), lo x] := ⟨by kernel_rfl, by kernel_rfl, by kernel_rfl, by kernel_rfl⟩
set_option maxRecDepth 100000 in
theorem law_lose (x : W4) (n : Int) : Fits (reckon (tabOf Try.prog extY con true) 3000 4 [vW x, .int .i64 n] [sam false, cmp true, cmp false, cmp false, sam false, cmp false, cmp false, cmp false, cmp true, cmp true]) (.bool true)
    [(lenI (shlW x (byI x n)) == IntKind.i64.wrap (lenI x + byI x n), true), lo (shlW x (byI x n)), lk x (byI x n), (decide (dv x = 0), false), (lenI x == 1, false),
      (bitI x (lenI x) != 0, false), lk x (lenI x), (bitI x (km x) != 1, false), lk x (km x), (!(eqW (shrW x (km x)) one), false), (decide (lenI x > 256), false), (decide (lenI x < 1), false),
      lk x (km x), (shrL x (km x), true), (eqW x zero, false), lo x] := ⟨by kernel_rfl, by kernel_rfl, by kernel_rfl, by kernel_rfl⟩

/-! ### the numbers -/
theorem two_pos (k : Nat) : (0 : Int) < 2 ^ k := Int.pow_pos (by omega)
theorem cast_pow (k : Nat) : ((2 ^ k : Nat) : Int) = 2 ^ k := by simp
/-- what Len is -/
structure Ln (x : W4) (v k : Int) : Prop where
  v1 : 1 ≤ v
  k1 : 1 ≤ k
  k2 : k ≤ 256
  lo : 2 ^ (k - 1).toNat ≤ v
  hi : v < 2 ^ k.toNat
theorem ln {x : W4} (hx : x.ok) (h : x.val ≠ 0) : Ln x x.val (lenI x) := by
  have b := W4.val_bd hx
  have hV : x.val.toNat ≠ 0 := by omega
  obtain ⟨s1, s2⟩ := bitLen_spec x.val.toNat
  have s2 := s2 hV
  have hk1 : bitLen x.val.toNat ≠ 0 := by intro h0; rw [h0] at s1; simp at s1; omega
  have hk2 : bitLen x.val.toNat ≤ 256 := by
    rcases Nat.lt_or_ge 256 (bitLen x.val.toNat) with hh | hh
    · have h1 : 2 ^ 256 ≤ 2 ^ (bitLen x.val.toNat - 1) := Nat.pow_le_pow_right (by omega) (by omega)
      have h2 : (2 : Nat) ^ 256 = 115792089237316195423570985008687907853269984665640564039457584007913129639936 := rfl
      rw [h2] at h1
      omega
    · exact hh
  unfold lenI
  refine ⟨by omega, by omega, by omega, ?_, ?_⟩
  · rw [show (((bitLen x.val.toNat : Nat) : Int) - 1).toNat = bitLen x.val.toNat - 1 by omega, ← cast_pow]
    omega
  · rw [Int.toNat_natCast, ← cast_pow]
    omega
theorem half {x : W4} {v k : Int} (L : Ln x v k) : v / 2 ^ (k - 1).toNat = 1 := by
  have e : (2 : Int) ^ k.toNat = 2 ^ (k - 1).toNat * 2 := by
    rw [show k.toNat = (k - 1).toNat + 1 by have := L.k1; omega, Int.pow_succ]
  have h1 := L.lo
  have h2 := L.hi
  have p := two_pos (k - 1).toNat
  rw [e] at h2
  refine ediv_of (l := v - 2 ^ (k - 1).toNat) ?_ (by omega) (by omega)
  omega
theorem zero_ok : zero.ok := ⟨z64, z64, z64, z64⟩
theorem one_eq : W4.of 1 = one := rfl
theorem shlW_ok {x : W4} (hx : x.ok) (n : Int) : (shlW x n).ok := by
  unfold shlW
  split
  · exact hx
  · split
    · exact zero_ok
    · exact W4.ok_of _
theorem km_eq {x : W4} {v : Int} (L : Ln x v (lenI x)) : km x = lenI x - 1 := by
  have := L.k1; have := L.k2
  unfold km
  rw [wrap_i64' (by omega) (by omega)]
theorem dv_eq {x : W4} {v : Int} (L : Ln x v (lenI x)) : dv x = 257 - lenI x := by
  have := L.k1; have := L.k2
  unfold dv
  rw [wrap_i64' (by omega) (by omega), wrap_u64' (by omega) (by omega)]
theorem by_bd {x : W4} {v : Int} (L : Ln x v (lenI x)) (n : Int) : 0 ≤ byI x n ∧ byI x n ≤ 256 - lenI x := by
  have := L.k1; have := L.k2
  have hd := dv_eq L
  have h0 : 0 ≤ IntKind.u64.wrap n := by rw [wrap_u64]; omega
  have h1 := Int.emod_nonneg (IntKind.u64.wrap n) (b := dv x) (by omega)
  have h2 := Int.emod_lt_of_pos (IntKind.u64.wrap n) (b := dv x) (by omega)
  unfold byI
  rw [Int.tmod_eq_emod_of_nonneg h0, wrap_i64' (by omega) (by omega)]
  omega
theorem rest_one {x : W4} (hx : x.ok) (L : Ln x x.val (lenI x)) : shrW x (km x) = one := by
  have h := half L
  have := L.k1; have := L.k2
  rw [km_eq L]
  unfold shrW
  split
  · rename_i h1
    have e : lenI x = 1 := by omega
    rw [e] at h
    have h' : x.val = 1 := by simpa using h
    rw [← W4.of_val hx, h', one_eq]
  · rw [if_neg (by omega), h, one_eq]
theorem top_bit {x : W4} (L : Ln x x.val (lenI x)) : bitI x (km x) = 1 := by
  have h := half L
  have := L.k1; have := L.k2
  rw [km_eq L]
  unfold bitI
  rw [if_neg (by omega), if_neg (by omega), h]
  rfl
theorem no_bit {x : W4} (L : Ln x x.val (lenI x)) : bitI x (lenI x) = 0 := by
  have := L.k1; have := L.v1
  unfold bitI
  rw [if_neg (by omega)]
  split
  · rfl
  · rw [Int.ediv_eq_zero_of_lt (by omega) L.hi]; rfl
theorem len_moved {x : W4} (hx : x.ok) (L : Ln x x.val (lenI x)) {b : Int} (h0 : 0 ≤ b) (h1 : b ≤ 256 - lenI x) : lenI (shlW x b) = lenI x + b := by
  have k1 := L.k1
  have v1 := L.v1
  unfold shlW
  split
  · omega
  · rw [if_neg (by omega)]
    have p := two_pos b.toNat
    have e1 : (2 : Int) ^ (lenI x).toNat * 2 ^ b.toNat * 2 ^ (256 - lenI x - b).toNat = 115792089237316195423570985008687907853269984665640564039457584007913129639936 := by
      rw [← Int.pow_add, ← Int.pow_add, show (lenI x).toNat + b.toNat + (256 - lenI x - b).toNat = 256 by omega]
      rfl
    have q := two_pos (256 - lenI x - b).toNat
    have g0 : 0 ≤ x.val * 2 ^ b.toNat := Int.mul_nonneg (by omega) (by omega)
    have g1 : x.val * 2 ^ b.toNat < 2 ^ (lenI x).toNat * 2 ^ b.toNat := Int.mul_lt_mul_of_pos_right L.hi p
    have g2 : (2 : Int) ^ (lenI x).toNat * 2 ^ b.toNat ≤ 115792089237316195423570985008687907853269984665640564039457584007913129639936 := by
      have g3 : (0 : Int) ≤ 2 ^ (lenI x).toNat * 2 ^ b.toNat := Int.mul_nonneg (Int.le_of_lt (two_pos _)) (Int.le_of_lt p)
      have := mul_le_of 1 (2 ^ (256 - lenI x - b).toNat) _ g3 (by omega)
      rw [e1, Int.mul_one] at this
      exact this
    have e2 : (W4.of (x.val * 2 ^ b.toNat)).val = x.val * 2 ^ b.toNat := by rw [W4.val_of, Int.emod_eq_of_lt g0 (by omega)]
    have e3 : (x.val * 2 ^ b.toNat).toNat = x.val.toNat * 2 ^ b.toNat := by
      have : x.val * 2 ^ b.toNat = ((x.val.toNat * 2 ^ b.toNat : Nat) : Int) := by
        rw [Int.natCast_mul, cast_pow, Int.toNat_of_nonneg (by omega)]
      rw [this, Int.toNat_natCast]
    have e4 : x.val.toNat * 2 ^ b.toNat / 2 ^ b.toNat = x.val.toNat := Nat.mul_div_cancel _ (Nat.two_pow_pos _)
    have e5 := bitLen_shift (x.val.toNat * 2 ^ b.toNat) b.toNat (by rw [e4]; omega)
    rw [e4] at e5
    unfold lenI
    rw [e2, e3, e5]
    omega

set_option maxRecDepth 100000 in
theorem walk (x : W4) (n : Int) (hx : x.ok) (w : World) : Calls Try.prog 4 #[vW x, .int .i64 n] w fun e w' => e = .returned (.bool true) ∧ Tidy w w' := by
  have l0 : ∀ z : W4, z.ok → (lo z).1 = (lo z).2 := fun z hz => decide_eq_true hz
  by_cases h : x.val = 0
  · have hz : x = zero := W4.val_inj hx zero_ok (h.trans (by rfl))
    refine fits_calls (tabY_ok con_ok) (law_zero x n) ?_ (by rfl) (by rfl) w
    refine okCons ?_ (okCons (eqW_iff.2 hz) (okL1 (l0 x hx)))
    subst hz
    rfl
  · have L := ln hx h
    have k1 := L.k1
    have k2 := L.k2
    have em := km_eq L
    have ed := dv_eq L
    obtain ⟨b0, b1⟩ := by_bd L n
    have hm := len_moved hx L b0 b1
    have hne : eqW x zero = false := by
      cases he : eqW x zero
      · rfl
      · exact absurd (by rw [eqW_iff.1 he]; rfl) h
    have q1 : (lenI (shlW x (byI x n)) == IntKind.i64.wrap (lenI x + byI x n)) = true := by
      rw [hm, wrap_i64' (by omega) (by omega)]
      exact beq_iff_eq.2 rfl
    have q2 := l0 _ (shlW_ok hx (byI x n))
    have q3 := lk_ok (n := byI x n) hx (by omega) (by omega)
    have q4 : decide (dv x = 0) = false := decide_eq_false (by omega)
    have q5 : (bitI x (lenI x) != 0) = false := by rw [no_bit L]; rfl
    have q6 := lk_ok (n := lenI x) hx (by omega) (by omega)
    have q7 : (bitI x (km x) != 1) = false := by rw [top_bit L]; rfl
    have q8 := lk_ok (n := km x) hx (by omega) (by omega)
    have q9 : (!(eqW (shrW x (km x)) one)) = false := by rw [rest_one hx L]; rfl
    have q10 : decide (lenI x > 256) = false := decide_eq_false (by omega)
    have q11 : decide (lenI x < 1) = false := decide_eq_false (by omega)
    cases hl : shrL x (km x) with
    | false =>
      exact fits_calls (tabY_ok con_ok) (law_keep x n) (okCons q1 (okCons q2 (okCons q3 (okCons q4 (okCons q5 (okCons q6 (okCons q7 (okCons q8 (okCons q9 (okCons q10 (okCons q11 (okCons q8 (okCons hl (okCons hne (okL1 (l0 x hx)))))))))))))))) (by rfl) (by rfl) w
    | true =>
      have q12 : (lenI x == 1) = false := by
        rw [beq_eq_false_iff_ne]
        intro h1
        rw [em, h1] at hl
        unfold shrL at hl
        simp at hl
      exact fits_calls (tabY_ok con_ok) (law_lose x n) (okCons q1 (okCons q2 (okCons q3 (okCons q4 (okCons q12 (okCons q5 (okCons q6 (okCons q7 (okCons q8 (okCons q9 (okCons q10 (okCons q11 (okCons q8 (okCons hl (okCons hne (okL1 (l0 x hx))))))))))))))))) (by rfl) (by rfl) w

theorem own : ownKnob Try.prog.godebug = none := by kernel_rfl
theorem cellsA : Try.prog.cellsOf 23 = 4 := by kernel_rfl
theorem cellsE : Try.prog.cellsOf 22 = 1 := by kernel_rfl
set_option maxRecDepth 100000 in
theorem lifted (os : Os) (started : os.Started) (H : Type) (enc : TypeId × Value → H) :
    ReturnsInHanded {} Try.checked os 4 .any (Rows.wideLensSpec.pre6 enc Try.prog Try.f4 Rows.wideLensRow.domain false) (Rows.wideLensSpec.post enc Try.prog Try.f4 false true false false) := by
  refine returnsInHanded_of_change (C := Try.checked) own started (by kernel_rfl) Try.func4
    (ChangeSpec.witness6 (enc := enc) (C := Try.checked) false ⟨#[], #[.agg #[.int .u64 0, .int .u64 0, .int .u64 0, .int .u64 0], .int .i64 0], []⟩ 8 (by kernel_rfl) (by kernel_rfl) (by kernel_rfl) (by kernel_rfl)) ?_
  intro W base args ds gs before hval0 hW hcnd _
  have hval : ∀ (j : Nat) t v, Try.f4.params[j]? = some t → args[j]? = some v → Value.okWide Try.prog W .any base t v := hval0
  have hW' := hW
  obtain ⟨p, q, hA0, hV, rfl, hfz, hnd⟩ := hW
  have hA : DataW.TrodAll enc Try.prog W 0 (fun _ => true) true Try.f4.params.toList args.toList ds p := hA0
  rw [Try.params4] at hA hval
  obtain ⟨v0, v1, d0, d1, p0, p1, rfl, rfl, rfl, h0, h1⟩ := trodAll_two hA
  obtain ⟨rfl, rfl⟩ := trodVars_none hV
  obtain ⟨a0, a1, a2, a3, rfl, rfl, rfl, wa0, wa1, wa2, wa3⟩ := open_w4 Try.underlying23 Try.underlying22 cellsA cellsE (hval 0 23 v0 rfl rfl) h0
  obtain ⟨n, rfl, rfl, rfl, wn⟩ := open_int Try.underlying3 (hval 1 3 v1 rfl rfl) h1
  clear hA0 hval0
  simp only [List.append_nil] at hW'
  refine (walk ⟨a0, a1, a2, a3⟩ n ⟨u64_bounds wa0, u64_bounds wa1, u64_bounds wa2, u64_bounds wa3⟩ W).mono fun e W' ⟨he, hg⟩ => ?_
  subst he
  exact ⟨_, rfl, post_of_same (pa := []) (pv := []) hW' (fun _ _ _ => trodAll_mk1 (shut_bool Try.underlying4 _))
    (fun sp _ => trodAll_mk2 (shut_w4 Try.underlying23 Try.underlying22 cellsA cellsE wa0 wa1 wa2 wa3) (shut_int Try.underlying3 wn)) (fun _ _ => rfl) rfl
    (hg.1.frame _) (tidy_frozen hg) (ok_one (by kernel_rfl) rfl (okWide_bool_mk Try.underlying4 _))⟩

theorem proved : Rows.WideLensSaid :=
  OpenClaim.holds_of_wide 4 Try.f4 rfl rfl rfl rfl rfl rfl rfl ⟨rfl, rfl, rfl, rfl, rfl⟩ rfl rfl rfl rfl rfl (by kernel_rfl) Try.func4 (by kernel_rfl)
    (of_decide_eq_true (by kernel_rfl)) (by unfold Func.isWrapper; first | (rw [if_pos (by decide +kernel)]; kernel_rfl) | (rw [if_neg (by decide +kernel)]; exact ⟨rfl, rfl⟩))
    (fun os started H enc _ => lifted os started H enc)
end Go.Proofs.Ytaaibjgcbghejab.wideLens
