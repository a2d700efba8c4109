/-
  PROVED HERE: for every input the law tillerlaw01.WideBack returns true, and each argument reads afterwards as it read before: of any two numbers of 256 bits what is added is taken away again, and what is moved up, and down again, has its low bits. No condition.
-/
import Derived.Test.YtaaibjgcbghejabSure
import Derived.Test.YtaaibjgcbghejabCon2
import Derived.Test.YtaaibjgcbghejabRow
import Derived.Test.YtaaibjgcbghejabRows
namespace Go.Proofs.Ytaaibjgcbghejab.wideBack
open Go.KRun Go.Wd Go.ChangeShapes Go.WideShapes Go.ChangeAt Go.RowKit
set_option linter.unusedVariables false

def con : Con := alt 6 (g2 (plain2 addV4)) (alt 7 (g2 (plain2 subV4)) (alt 9 (g1n (plain1n shlV4)) (alt 8 (g1n shrB) (alt 10 gSure conN))))
theorem con_ok : ConOk con := alt_ok Try.func6 rfl (plain2_ok add_calls) (alt_ok Try.func7 rfl (plain2_ok sub_calls) (alt_ok Try.func9 rfl (plain1n_ok shl_calls) (alt_ok Try.func8 rfl shrB_ok (alt_ok Try.func10 rfl gSure_ok conN_ok))))

def okp (x y : W4) : Bool × Bool := (decide (x.ok ∧ y.ok), true)
def zero : W4 := ⟨0, 0, 0, 0⟩
def kk (n : Int) : Int := IntKind.i64.wrap ((IntKind.u64.wrap n).tmod 256)
def kc (n : Int) : Int := IntKind.i64.wrap (256 - kk n)
def sumW (x y : W4) : W4 := W4.of (x.val + y.val)
def backW (x y : W4) : W4 := W4.of ((sumW x y).val - y.val)
def lowW (x u : W4) (n : Int) : W4 := W4.of (x.val - (shlW u (kc n)).val)
set_option maxRecDepth 100000 in
theorem law_ne (x y : W4) (n : Int) : Fits (reckon (tabOf Try.prog extY con true) 3000 3 [vW x, vW y, .int .i64 n] [cmp true, cmp false, tst false, sam true, sam true]) (.bool true)
    [(eqW (shrW (shlW x (kk n)) (kk n)) (lowW x (shrW x (kc n)) n), true), (eqW (backW x y) x, true),
      okp x (shlW (shrW x (kc n)) (kc n)), lk (shrW x (kc n)) (kc n), okp x (shlW (shrW x (kc n)) (kc n)), okp x (shlW (shrW x (kc n)) (kc n)), lk (shrW x (kc n)) (kc n),
      (kk n == 0, false), lk x (kc n), lk (shlW x (kk n)) (kk n), (shrL (shlW x (kk n)) (kk n), false), lk x (kk n), (decide ((256 : Int) = 0), false), okp (sumW x y) y, okp x y] := ⟨by kernel_rfl, by kernel_rfl, by kernel_rfl, by kernel_rfl⟩
set_option maxRecDepth 100000 in
theorem law_eq (x y : W4) (n : Int) : Fits (reckon (tabOf Try.prog extY con true) 3000 3 [vW x, vW y, .int .i64 n] [cmp true, cmp false, tst true, sam true, sam true]) (.bool true)
    [(eqW (shrW (shlW x (kk n)) (kk n)) (lowW x zero n), true), (eqW (backW x y) x, true),
      okp x (shlW zero (kc n)), lk zero (kc n), okp x (shlW zero (kc n)), okp x (shlW zero (kc n)), lk zero (kc n),
      (kk n == 0, true), lk x (kc n), lk (shlW x (kk n)) (kk n), (shrL (shlW x (kk n)) (kk n), false), lk x (kk n), (decide ((256 : Int) = 0), false), okp (sumW x y) y, okp x y] := ⟨by kernel_rfl, by kernel_rfl, by kernel_rfl, by kernel_rfl⟩

/-! ### the numbers -/
theorem kk_eq (n : Int) : kk n = n % 256 := by
  unfold kk
  rw [wrap_u64, Int.tmod_eq_emod_of_nonneg (by omega), wrap_i64' (by omega) (by omega)]
  omega
theorem kc_eq (n : Int) : kc n = 256 - n % 256 := by
  unfold kc
  rw [kk_eq, wrap_i64' (by omega) (by omega)]
theorem zero_ok : zero.ok := ⟨z64, z64, z64, z64⟩
theorem shlW_ok {x : W4} (hx : x.ok) (n : Int) : (shlW x n).ok := by
  unfold shlW
  split
  · exact hx
  · split
    · exact zero_ok
    · exact W4.ok_of _
theorem shrW_ok {x : W4} (hx : x.ok) (n : Int) : (shrW x n).ok := by
  unfold shrW
  split
  · exact hx
  · split
    · exact zero_ok
    · exact W4.ok_of _
theorem back_eq {x y : W4} (hx : x.ok) (hy : y.ok) : backW x y = x := by
  have h1 := W4.val_bd hx
  have h2 := W4.val_bd hy
  unfold backW sumW
  rw [W4.val_of]
  exact W4.of_eq (k := ((x.val + y.val) % 115792089237316195423570985008687907853269984665640564039457584007913129639936 - (x.val + y.val)) / 115792089237316195423570985008687907853269984665640564039457584007913129639936) hx (by omega)
/-- P = 2^k, R = 2^(256-k) -/
theorem pr {k : Int} (h0 : 0 ≤ k) (h1 : k ≤ 256) : (2 : Int) ^ k.toNat * 2 ^ (256 - k).toNat = 115792089237316195423570985008687907853269984665640564039457584007913129639936 := by
  rw [← Int.pow_add]
  have : k.toNat + (256 - k).toNat = 256 := by omega
  rw [this]
  rfl
theorem two_pos (k : Nat) : (0 : Int) < 2 ^ k := Int.pow_pos (by omega)
/-- moved up by k: P times the low 256-k bits -/
theorem up_val {x : W4} (hx : x.ok) {k : Int} (h0 : 1 ≤ k) (h1 : k ≤ 255) : (shlW x k).val = 2 ^ k.toNat * (x.val % 2 ^ (256 - k).toNat) := by
  have hpr := pr (k := k) (by omega) (by omega)
  unfold shlW
  rw [if_neg (by omega), if_neg (by omega), W4.val_of, ← hpr, Int.mul_comm x.val, Int.mul_emod_mul_of_pos _ _ (two_pos _)]
theorem low_eq {x : W4} (hx : x.ok) {k : Int} (h0 : 1 ≤ k) (h1 : k ≤ 255) : shrW (shlW x k) k = W4.of (x.val % 2 ^ (256 - k).toNat) ∧ shrL (shlW x k) k = false := by
  have hv := up_val hx h0 h1
  have hp := two_pos k.toNat
  unfold shrW shrL
  rw [if_neg (by omega), if_neg (by omega), if_neg (by omega), if_neg (by omega), hv, Int.mul_ediv_cancel_left _ (by omega), Int.mul_emod_right]
  exact ⟨rfl, by simp⟩
theorem high_eq {x : W4} (hx : x.ok) {k : Int} (h0 : 1 ≤ k) (h1 : k ≤ 255) : (shlW (shrW x k) k).val = x.val - x.val % 2 ^ k.toNat := by
  have hp := two_pos k.toNat
  have b := W4.val_bd hx
  have hm := Int.mul_ediv_add_emod x.val (2 ^ k.toNat)
  have h3 := Int.emod_nonneg x.val (Int.ne_of_gt hp)
  have h4 : 0 ≤ x.val / 2 ^ k.toNat := Int.ediv_nonneg b.1 (by omega)
  have h5 : x.val / 2 ^ k.toNat ≤ x.val := by
    have := mul_le_of 1 (2 ^ k.toNat) (x.val / 2 ^ k.toNat) h4 (by omega)
    rw [Int.mul_one, Int.mul_comm] at this
    omega
  have h6 : 0 ≤ 2 ^ k.toNat * (x.val / 2 ^ k.toNat) := Int.mul_nonneg (by omega) h4
  unfold shlW shrW
  rw [if_neg (by omega), if_neg (by omega), if_neg (by omega), if_neg (by omega), W4.val_of, W4.val_of, Int.emod_eq_of_lt h4 (by omega), Int.mul_comm]
  generalize x.val % 2 ^ k.toNat = l at *
  rw [Int.emod_eq_of_lt h6 (by omega)]
  omega

set_option maxRecDepth 100000 in
theorem walk (x y : W4) (n : Int) (hx : x.ok) (hy : y.ok) (w : World) : Calls Try.prog 3 #[vW x, vW y, .int .i64 n] w fun e w' => e = .returned (.bool true) ∧ Tidy w w' := by
  have e1 := kk_eq n
  have e2 := kc_eq n
  have hs : (sumW x y).ok := W4.ok_of _
  have k1 : ∀ z : W4, z.ok → (lk z (kk n)).1 = (lk z (kk n)).2 := fun z hz => lk_ok hz (by omega) (by omega)
  have k2 : ∀ z : W4, z.ok → (lk z (kc n)).1 = (lk z (kc n)).2 := fun z hz => lk_ok hz (by omega) (by omega)
  have k3 : ∀ z u : W4, z.ok → u.ok → (okp z u).1 = (okp z u).2 := fun z u hz hu => decide_eq_true ⟨hz, hu⟩
  by_cases h : kk n = 0
  · have f1 : shrW (shlW x (kk n)) (kk n) = x := by unfold shrW shlW; rw [h]; rfl
    have f2 : lowW x zero n = x := by
      unfold lowW
      rw [e2, show n % 256 = 0 by omega]
      have : (shlW zero (256 - 0)).val = 0 := rfl
      rw [this, Int.sub_zero, W4.of_val hx]
    have f3 : shrL (shlW x (kk n)) (kk n) = false := by unfold shrL; rw [h]; rfl
    refine fits_calls (tabY_ok con_ok) (law_eq x y n) ?_ (by rfl) (by rfl) w
    have kz := k2 zero zero_ok
    have sz := k3 x _ hx (shlW_ok zero_ok (kc n))
    refine okCons (eqW_iff.2 (by rw [f1, f2])) (okCons (eqW_iff.2 (back_eq hx hy)) (okCons sz (okCons kz (okCons sz (okCons sz (okCons kz ?_))))))
    exact okCons (beq_iff_eq.2 h) (okCons (k2 x hx) (okCons (k1 _ (shlW_ok hx _)) (okCons f3 (okCons (k1 x hx) (okCons (by rfl) (okCons (k3 _ _ hs hy) (okL1 (k3 _ _ hx hy))))))))
  · have hk0 : 1 ≤ kk n := by omega
    have hk1 : kk n ≤ 255 := by omega
    obtain ⟨f1, f3⟩ := low_eq hx hk0 hk1
    have f2 : lowW x (shrW x (kc n)) n = W4.of (x.val % 2 ^ (256 - kk n).toNat) := by
      have ec : kc n = 256 - kk n := by omega
      unfold lowW
      rw [ec, high_eq hx (by omega) (by omega)]
      congr 1
      omega
    refine fits_calls (tabY_ok con_ok) (law_ne x y n) ?_ (by rfl) (by rfl) w
    have hu := shrW_ok hx (kc n)
    have kz := k2 _ hu
    have sz := k3 x _ hx (shlW_ok hu (kc n))
    refine okCons (eqW_iff.2 (by rw [f1, f2])) (okCons (eqW_iff.2 (back_eq hx hy)) (okCons sz (okCons kz (okCons sz (okCons sz (okCons kz ?_))))))
    exact okCons (beq_eq_false_iff_ne.2 h) (okCons (k2 x hx) (okCons (k1 _ (shlW_ok hx _)) (okCons f3 (okCons (k1 x hx) (okCons (by rfl) (okCons (k3 _ _ hs hy) (okL1 (k3 _ _ hx hy))))))))

theorem own : ownKnob Try.prog.godebug = none := by kernel_rfl
theorem cellsA : Try.prog.cellsOf 23 = 4 := by kernel_rfl
theorem cellsE : Try.prog.cellsOf 22 = 1 := by kernel_rfl
set_option maxRecDepth 100000 in
theorem lifted (os : Os) (started : os.Started) (H : Type) (enc : TypeId × Value → H) :
    ReturnsInHanded {} Try.checked os 3 .any (Rows.wideBackSpec.pre6 enc Try.prog Try.f3 Rows.wideBackRow.domain false) (Rows.wideBackSpec.post enc Try.prog Try.f3 false true false false) := by
  refine returnsInHanded_of_change (C := Try.checked) own started (by kernel_rfl) Try.func3
    (ChangeSpec.witness6 (enc := enc) (C := Try.checked) false ⟨#[], #[.agg #[.int .u64 0, .int .u64 0, .int .u64 0, .int .u64 0], .agg #[.int .u64 0, .int .u64 0, .int .u64 0, .int .u64 0], .int .i64 0], []⟩ 8 (by kernel_rfl) (by kernel_rfl) (by kernel_rfl) (by kernel_rfl)) ?_
  intro W base args ds gs before hval0 hW hcnd _
  have hval : ∀ (j : Nat) t v, Try.f3.params[j]? = some t → args[j]? = some v → Value.okWide Try.prog W .any base t v := hval0
  have hW' := hW
  obtain ⟨p, q, hA0, hV, rfl, hfz, hnd⟩ := hW
  have hA : DataW.TrodAll enc Try.prog W 0 (fun _ => true) true Try.f3.params.toList args.toList ds p := hA0
  rw [Try.params3] at hA hval
  obtain ⟨v0, v1, v2, d0, d1, d2, p0, p1, p2, rfl, rfl, rfl, h0, h1, h2⟩ := trodAll_three hA
  obtain ⟨rfl, rfl⟩ := trodVars_none hV
  obtain ⟨a0, a1, a2, a3, rfl, rfl, rfl, wa0, wa1, wa2, wa3⟩ := open_w4 Try.underlying23 Try.underlying22 cellsA cellsE (hval 0 23 v0 rfl rfl) h0
  obtain ⟨b0, b1, b2, b3, rfl, rfl, rfl, wb0, wb1, wb2, wb3⟩ := open_w4 Try.underlying23 Try.underlying22 cellsA cellsE (hval 1 23 v1 rfl rfl) h1
  obtain ⟨n, rfl, rfl, rfl, wn⟩ := open_int Try.underlying3 (hval 2 3 v2 rfl rfl) h2
  clear hA0 hval0
  simp only [List.append_nil] at hW'
  refine (walk ⟨a0, a1, a2, a3⟩ ⟨b0, b1, b2, b3⟩ n ⟨u64_bounds wa0, u64_bounds wa1, u64_bounds wa2, u64_bounds wa3⟩ ⟨u64_bounds wb0, u64_bounds wb1, u64_bounds wb2, u64_bounds wb3⟩ W).mono fun e W' ⟨he, hg⟩ => ?_
  subst he
  exact ⟨_, rfl, post_of_same (pa := []) (pv := []) hW' (fun _ _ _ => trodAll_mk1 (shut_bool Try.underlying4 _))
    (fun sp _ => trodAll_mk3 (shut_w4 Try.underlying23 Try.underlying22 cellsA cellsE wa0 wa1 wa2 wa3) (shut_w4 Try.underlying23 Try.underlying22 cellsA cellsE wb0 wb1 wb2 wb3) (shut_int Try.underlying3 wn)) (fun _ _ => rfl) rfl
    (hg.1.frame _) (tidy_frozen hg) (ok_one (by kernel_rfl) rfl (okWide_bool_mk Try.underlying4 _))⟩

theorem proved : Rows.WideBackSaid :=
  OpenClaim.holds_of_wide 3 Try.f3 rfl rfl rfl rfl rfl rfl rfl ⟨rfl, rfl, rfl, rfl, rfl⟩ rfl rfl rfl rfl rfl (by kernel_rfl) Try.func3 (by kernel_rfl)
    (of_decide_eq_true (by kernel_rfl)) (by unfold Func.isWrapper; first | (rw [if_pos (by decide +kernel)]; kernel_rfl) | (rw [if_neg (by decide +kernel)]; exact ⟨rfl, rfl⟩))
    (fun os started H enc _ => lifted os started H enc)
end Go.Proofs.Ytaaibjgcbghejab.wideBack
