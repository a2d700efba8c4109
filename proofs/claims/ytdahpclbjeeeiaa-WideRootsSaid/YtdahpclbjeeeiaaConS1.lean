/-
  wide.middle, as a call; the pieces of wide.Sqrt.
-/
import Derived.Test.YtdahpclbjeeeiaaConQB
import Derived.Test.YtdahpclbjeeeiaaCon6
import Derived.Test.YtdahpclbjeeeiaaRunU
namespace Go.Proofs.Ytdahpclbjeeeiaa
open Go.KRun Go.Wd
set_option maxRecDepth 100000

def nz2 (a b : W4) : Bool × Bool := (decide (a.ok ∧ b.ok ∧ b.val ≠ 0), true)
def gQR : Ans := fun vals s =>
  match vals with
  | [x, y] =>
    match w4 x, w4 y with
    | some a, some b => some (qrV (W4.of (a.val / b.val)) (W4.of (a.val % b.val)), s, [nz2 a b])
    | _, _ => none
  | _ => none
theorem gQR_ok : AnsOk 26 gQR := by
  intro vals s v s' lg h hl w
  unfold gQR at h
  split at h
  · split at h
    · rename_i a b ha hb
      cases h
      have h1 := hl _ (List.mem_singleton.2 rfl)
      simp only [nz2, decide_eq_true_eq] at h1
      rw [w4_spec ha, w4_spec hb]
      exact divmod_calls a b h1.1 h1.2.1 h1.2.2 w
    · cases h
  · cases h
def conMi : Con := alt 26 gQR (alt 7 (g2 (plain2 addV4)) (alt 16 (g1n (plain1n shrV4)) conN))
theorem conMi_ok : ConOk conMi := alt_ok Try.func26 rfl gQR_ok (alt_ok Try.func7 rfl (plain2_ok add_calls) (alt_ok Try.func16 rfl (plain1n_ok shr_calls) conN_ok))
def dq (x a : W4) : W4 := W4.of (a.val / x.val)
def sm (x a : W4) : W4 := W4.of (x.val + (dq x a).val)
def p2 (x y : W4) : Bool × Bool := (decide (x.ok ∧ y.ok), true)
theorem mid_fits (x a : W4) : Fits (reckon (tabOf Try.prog extY conMi true) 500 30 [vW x, vW a] []) (vW (shrW (sm x a) 1)) [lk (sm x a) 1, p2 x (dq x a), nz2 a x] := ⟨by kernel_rfl, by kernel_rfl, by kernel_rfl, by kernel_rfl⟩
def midI (x a : W4) : Int := (x.val + a.val / x.val) / 2
def midOk (x a : W4) : Prop := x.ok ∧ a.ok ∧ x.val ≠ 0 ∧ x.val + a.val / x.val < 115792089237316195423570985008687907853269984665640564039457584007913129639936
theorem mid_calls (x a : W4) (h : midOk x a) (w : World) : Calls Try.prog 30 #[vW x, vW a] w fun e w' => e = .returned (vW (W4.of (midI x a))) ∧ Tidy w w' := by
  obtain ⟨hx, ha, hz, hs⟩ := h
  have bx := W4.val_bd hx
  have ba := W4.val_bd ha
  have q0 : 0 ≤ a.val / x.val := Int.ediv_nonneg ba.1 bx.1
  have q9 : a.val / x.val ≤ a.val := Int.ediv_le_self _ ba.1
  have e1 : (dq x a).val = a.val / x.val := by unfold dq; rw [W4.val_of, Int.emod_eq_of_lt q0 (by omega)]
  have e2 : (sm x a).val = x.val + a.val / x.val := by unfold sm; rw [e1, W4.val_of, Int.emod_eq_of_lt (by omega) hs]
  have h := fits_calls (tabY_ok conMi_ok) (mid_fits x a) (okCons (lk_ok (W4.ok_of _) (by omega) (by omega)) (okCons (decide_eq_true ⟨hx, W4.ok_of _⟩) (okL1 (decide_eq_true ⟨ha, hx, hz⟩)))) (by rfl) (by rfl) w
  have e3 : shrW (sm x a) 1 = W4.of (midI x a) := by
    unfold shrW midI
    rw [if_neg (by omega), if_neg (by omega), e2]
    rfl
  rw [e3] at h
  exact h
def gMid : Ans := fun vals s =>
  match vals with
  | [x, y] =>
    match w4 x, w4 y with
    | some x, some a => some (vW (W4.of (midI x a)), s, [(decide (x.ok ∧ a.ok ∧ x.val ≠ 0 ∧ x.val + a.val / x.val < 115792089237316195423570985008687907853269984665640564039457584007913129639936), true)])
    | _, _ => none
  | _ => none
theorem gMid_ok : AnsOk 30 gMid := by
  intro vals s v s' lg h hl w
  unfold gMid at h
  split at h
  · split at h
    · rename_i a b ha hb
      cases h
      have h1 := hl _ (List.mem_singleton.2 rfl)
      simp only [decide_eq_true_eq] at h1
      rw [w4_spec ha, w4_spec hb]
      exact mid_calls a b h1 w
    · cases h
  · cases h
def conSq : Con := alt 30 gMid (alt 11 (g2 (plain2 cmpV4)) (alt 29 (g1 lenV4) (alt 18 (g1n (plain1n shlV4)) (alt 14 (g2 (plain2 mulV4)) (alt 9 (g2 (plain2 subV4)) conN)))))
theorem conSq_ok : ConOk conSq := alt_ok Try.func30 rfl gMid_ok (alt_ok Try.func11 rfl (plain2_ok cmp_calls) (alt_ok Try.func29 rfl (g1_ok wlen_calls) (alt_ok Try.func18 rfl (plain1n_ok shl_calls) (alt_ok Try.func14 rfl (plain2_ok mul_calls) (alt_ok Try.func9 rfl (plain2_ok sub_calls) conN_ok)))))
def mOk (x a : W4) : Bool × Bool := (decide (x.ok ∧ a.ok ∧ x.val ≠ 0 ∧ x.val + a.val / x.val < 115792089237316195423570985008687907853269984665640564039457584007913129639936), true)
def sPre (F : Func) : List Code := [cFst (cBody F), cFst (cSnd (cBody F)), cFst (cSnd (cSnd (cBody F)))]
def sLoop (F : Func) : Code := cIn (cIn (cFst (cSnd (cSnd (cSnd (cBody F))))))
def sEnd (F : Func) : Code := cSnd (cSnd (cSnd (cSnd (cBody F))))
theorem sq_body : Try.f20.body = some (seqs (sPre Try.f20) (.seq (.block 0 (.loop (sLoop Try.f20))) (sEnd Try.f20))) := by kernel_rfl
/-- the temporaries of Sqrt: the pointer to 'next', what is known from ahead of the loop, and the round's own -/
def sT (a : W4) (v5 : Value) (J K : List Value) : List Value := [vW a, t_ 0, t_ 1, t_ 2, t_ 3, v5, undef, undef, undef, undef] ++ (J ++ (K ++ List.replicate 14 undef))
def eW (x : W4) : List Value × TypeId := ([.int .u64 x.a, .int .u64 x.b, .int .u64 x.c, .int .u64 x.d], 24)
def z4 : W4 := ⟨0, 0, 0, 0⟩
def hA (a x : W4) : Hp := ⟨4, [eW x, eW z4, eW z4, eW a]⟩
def hB (a x y : W4) : Hp := ⟨5, [eW y, eW x, eW z4, eW z4, eW a]⟩
def hC (a x y z : W4) : Hp := ⟨6, [eW z, eW y, eW x, eW z4, eW z4, eW a]⟩
def nW (x a : W4) : W4 := W4.of (midI x a)
def kGo (x a : W4) : List Value := [vW x, vW a, vW (nW x a), vW (nW x a), vW x, .int .i64 (cmpI (nW x a) x), .bool false, vW (nW x a)]
def kUp (x a : W4) (k : Value) : List Value := [vW x, vW a, vW (nW x a), vW (nW x a), vW x, .int .i64 (cmpI (nW x a) x), .bool true, k]
def cg (x a : W4) (d : Bool) : Bool × Bool := (decide (cmpI (nW x a) x ≥ 0), d)
theorem sq_pre (a : W4) : GoesT (evL (tabOf Try.prog extY conSq true) 500 (sPre Try.f20) ([vW a] ++ List.replicate 42 undef, ⟨0, []⟩, [sam false]) ⟨[], [], []⟩) 43 0 none
    (sT a undef [vW a, vW z4, .bool false, undef, undef, vW ⟨1, 0, 0, 0⟩, vW a, .int .i64 (lenI a), .int .i64 (IntKind.i64.wrap (lenI a + 1)), .int .i64 (IntKind.i64.wrap ((IntKind.i64.wrap (lenI a + 1)).tdiv 2)), vW (shlW ⟨1, 0, 0, 0⟩ (IntKind.i64.wrap ((IntKind.i64.wrap (lenI a + 1)).tdiv 2)))] (List.replicate 8 undef))
    (hA a (shlW ⟨1, 0, 0, 0⟩ (IntKind.i64.wrap ((IntKind.i64.wrap (lenI a + 1)).tdiv 2)))) [lk ⟨1, 0, 0, 0⟩ (IntKind.i64.wrap ((IntKind.i64.wrap (lenI a + 1)).tdiv 2)), okQ a, lk ⟨1, 0, 0, 0⟩ (IntKind.i64.wrap ((IntKind.i64.wrap (lenI a + 1)).tdiv 2)), okQ a, lk ⟨1, 0, 0, 0⟩ (IntKind.i64.wrap ((IntKind.i64.wrap (lenI a + 1)).tdiv 2)), lk ⟨1, 0, 0, 0⟩ (IntKind.i64.wrap ((IntKind.i64.wrap (lenI a + 1)).tdiv 2)), okQ a, (eqW a z4, false)] := ⟨by kernel_rfl, by kernel_rfl, by kernel_rfl⟩
theorem sqA_go (a x : W4) (v5 j10 j11 j12 j13 j14 j15 j16 j17 j18 j19 j20 k21 k22 k23 k24 k25 k26 k27 k28 : Value) : GoesE (evC (tabOf Try.prog extY conSq true) 300 false (sLoop Try.f20) (sT a v5 [j10, j11, j12, j13, j14, j15, j16, j17, j18, j19, j20] [k21, k22, k23, k24, k25, k26, k27, k28], hA a x, [cmp false]) ⟨[], [], []⟩) 43 0 none
    (sT a (t_ 4) [j10, j11, j12, j13, j14, j15, j16, j17, j18, j19, j20] (kGo x a)) (hB a (nW x a) (nW x a)) [cg x a false, p2 (nW x a) x, mOk x a] := by unfold GoesE; kernel_rfl
theorem sqA_up (a x : W4) (v5 j10 j11 j12 j13 j14 j15 j16 j17 j18 j19 j20 k21 k22 k23 k24 k25 k26 k27 k28 : Value) : GoesE (evC (tabOf Try.prog extY conSq true) 300 false (sLoop Try.f20) (sT a v5 [j10, j11, j12, j13, j14, j15, j16, j17, j18, j19, j20] [k21, k22, k23, k24, k25, k26, k27, k28], hA a x, [cmp true]) ⟨[], [], []⟩) 43 0 (some (some 0))
    (sT a (t_ 4) [j10, j11, j12, j13, j14, j15, j16, j17, j18, j19, j20] (kUp x a k28)) (hB a x (nW x a)) [cg x a true, p2 (nW x a) x, mOk x a] := by unfold GoesE; kernel_rfl
theorem sqB_go (a x : W4) (v5 j10 j11 j12 j13 j14 j15 j16 j17 j18 j19 j20 k21 k22 k23 k24 k25 k26 k27 k28 : Value) (y : W4) : GoesE (evC (tabOf Try.prog extY conSq true) 300 false (sLoop Try.f20) (sT a v5 [j10, j11, j12, j13, j14, j15, j16, j17, j18, j19, j20] [k21, k22, k23, k24, k25, k26, k27, k28], hB a x y, [cmp false]) ⟨[], [], []⟩) 43 0 none
    (sT a (t_ 5) [j10, j11, j12, j13, j14, j15, j16, j17, j18, j19, j20] (kGo x a)) (hC a (nW x a) y (nW x a)) [cg x a false, p2 (nW x a) x, mOk x a] := by unfold GoesE; kernel_rfl
theorem sqB_up (a x : W4) (v5 j10 j11 j12 j13 j14 j15 j16 j17 j18 j19 j20 k21 k22 k23 k24 k25 k26 k27 k28 : Value) (y : W4) : GoesE (evC (tabOf Try.prog extY conSq true) 300 false (sLoop Try.f20) (sT a v5 [j10, j11, j12, j13, j14, j15, j16, j17, j18, j19, j20] [k21, k22, k23, k24, k25, k26, k27, k28], hB a x y, [cmp true]) ⟨[], [], []⟩) 43 0 (some (some 0))
    (sT a (t_ 5) [j10, j11, j12, j13, j14, j15, j16, j17, j18, j19, j20] (kUp x a k28)) (hC a x y (nW x a)) [cg x a true, p2 (nW x a) x, mOk x a] := by unfold GoesE; kernel_rfl
theorem sq_end (a x : W4) (v5 j10 j11 j12 j13 j14 j15 j16 j17 j18 j19 j20 k21 k22 k23 k24 k25 k26 k27 k28 : Value) (y : W4) : GoesT (evC (tabOf Try.prog extY conSq true) 500 false (sEnd Try.f20) (sT a v5 [j10, j11, j12, j13, j14, j15, j16, j17, j18, j19, j20] [k21, k22, k23, k24, k25, k26, k27, k28], hB a x y, []) ⟨[], [], []⟩) 4 39 (some none)
    [vW a, t_ 0, t_ 1, t_ 2] ⟨8, [eW (W4.of (a.val - (W4.of (x.val * x.val)).val)), eW (W4.of (x.val * x.val / 115792089237316195423570985008687907853269984665640564039457584007913129639936)), eW (W4.of (x.val * x.val)), eW y, eW x, eW (W4.of (a.val - (W4.of (x.val * x.val)).val)), eW x, eW a]⟩
    [p2 a (W4.of (x.val * x.val)), p2 x x] := ⟨by kernel_rfl, by kernel_rfl, by kernel_rfl⟩
theorem sq_zero (a : W4) : Fits (reckon (tabOf Try.prog extY conSq true) 500 20 [vW a] [sam true]) (.tuple #[vW z4, vW z4]) [(eqW a z4, true)] := ⟨by kernel_rfl, by kernel_rfl, by kernel_rfl, by kernel_rfl⟩
end Go.Proofs.Ytdahpclbjeeeiaa
