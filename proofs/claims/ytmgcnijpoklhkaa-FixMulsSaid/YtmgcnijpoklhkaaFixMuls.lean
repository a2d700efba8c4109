/-
  PROVED HERE: for every input the law tillerlaw15.FixMuls returns true, and each argument reads afterwards as it read before: the product of any two fractions, cut, and whether it is too great, are those of the document. No condition.
-/
import Derived.Test.YtmgcnijpoklhkaaG15
import Derived.Test.YtmgcnijpoklhkaaRows
namespace Go.Proofs.Ytmgcnijpoklhkaa.fixMuls
open Go.KRun Go.Pt Go.ChangeShapes Go.WideShapes Go.ChangeAt Go.RowKit Go.Wd Go.Nt
set_option linter.unusedVariables false
set_option maxRecDepth 100000
def kA4 (x : W4) : List Value × TypeId := ([.int .u64 x.a, .int .u64 x.b, .int .u64 x.c, .int .u64 x.d], 23)
def kW4 (x : W4) : List Value × TypeId := ([.int .u64 x.a, .int .u64 x.b, .int .u64 x.c, .int .u64 x.d], 24)
def bMu (a b : W4) : List (List Value × TypeId) := [kW4 (W4.of (fmI a b)), kA4 b, kA4 a]
theorem mu_c (a b : W4) (P Y H S L : Nat) (e1 e2 : Bool) : Fits (reckon (tabH Try.prog extY conF5 hcF) 600 3 [vW a, vW b] [cmp true, num P, cmp true, cmp e1, num Y, cmp true, cmp e2, num H, cmp true, num S, cmp true, num L, num 0, cmp true, cmp true]) (.bool true) [(decide ((((d16 H).length : Nat) : Int) > 0), true), ((0 : Int) == 0, true), (decide (cmpZ (vO (hN5 (bMu a b) [(W4.of (fmI a b)).nat, L, S, H, Y, P, b.nat, a.nat]) (aP16 10) ((d16 (W4.of (fmI a b)).nat).length)) (vO (hN5 (bMu a b) [(W4.of (fmI a b)).nat, L, S, H, Y, P, b.nat, a.nat]) (aP16 9) ((d16 L).length)) = 0), true), (two16 (hN5 (bMu a b) [(W4.of (fmI a b)).nat, L, S, H, Y, P, b.nat, a.nat]) (aP16 10) (aP16 9) ((d16 (W4.of (fmI a b)).nat).length) ((d16 (W4.of (fmI a b)).nat).length) ((d16 L).length) ((d16 L).length), true), oW (W4.of (fmI a b)), (decide (vO (hN5 (bMu a b) [S, H, Y, P, b.nat, a.nat]) (aP16 6) ((d16 Y).length) - vO (hN5 (bMu a b) [S, H, Y, P, b.nat, a.nat]) (aP16 8) ((d16 S).length) = L), true), (okSb (hN5 (bMu a b) [S, H, Y, P, b.nat, a.nat]) (aP16 6) (aP16 8) ((d16 Y).length) ((d16 Y).length) ((d16 S).length) ((d16 S).length), true), (decide (0 < (d16 Y).length), true), (decide (vO (hN5 (bMu a b) [H, Y, P, b.nat, a.nat]) (aP16 7) ((d16 H).length) * 2 ^ (256 : Int).toNat = S), true), (okSh (hN5 (bMu a b) [H, Y, P, b.nat, a.nat]) (aP16 7) ((d16 H).length) ((d16 H).length) 256, true), (decide (0 < (d16 H).length), true), (decide (vO (hN5 (bMu a b) [Y, P, b.nat, a.nat]) (aP16 6) ((d16 Y).length) / 2 ^ (256 : Int).toNat = H), true), (decide (vO (hN5 (bMu a b) [Y, P, b.nat, a.nat]) (aP16 6) ((d16 Y).length) % 2 ^ (256 : Int).toNat ≠ 0), e2), (decide ((256 : Int).toNat / 16 < (d16 Y).length), true), (okShr (hN5 (bMu a b) [Y, P, b.nat, a.nat]) (aP16 6) ((d16 Y).length) ((d16 Y).length) 256, true), (decide (vO (hN5 (bMu a b) [P, b.nat, a.nat]) (aP16 5) ((d16 P).length) / 2 ^ (248 : Int).toNat = Y), true), (decide (vO (hN5 (bMu a b) [P, b.nat, a.nat]) (aP16 5) ((d16 P).length) % 2 ^ (248 : Int).toNat ≠ 0), e1), (decide ((248 : Int).toNat / 16 < (d16 P).length), true), (okShr (hN5 (bMu a b) [P, b.nat, a.nat]) (aP16 5) ((d16 P).length) ((d16 P).length) 248, true), (decide (vO (hN5 (bMu a b) [b.nat, a.nat]) (aP16 3) ((d16 a.nat).length) * vO (hN5 (bMu a b) [b.nat, a.nat]) (aP16 4) ((d16 b.nat).length) = P), true), (okMu (hN5 (bMu a b) [b.nat, a.nat]) (aP16 3) (aP16 4) ((d16 a.nat).length) ((d16 a.nat).length) ((d16 b.nat).length) ((d16 b.nat).length), true), oW b, oW a, (decide (115792089237316195423570985008687907853269984665640564039457584007913129639936 ≤ fmI a b), true), q2 a b] := ⟨by kernel_rfl, by kernel_rfl, by kernel_rfl, by kernel_rfl⟩
theorem mu_b (a b : W4) (P Y H S L : Nat) (e1 e2 : Bool) : Fits (reckon (tabH Try.prog extY conF5 hcF) 600 3 [vW a, vW b] [cmp false, num P, cmp true, cmp e1, num Y, cmp false, cmp e2, cmp false, cmp true, num L, num 0, cmp true, cmp false]) (.bool true) [(decide (((0 : Nat) : Int) > 0), false), ((0 : Int) == 0, true), (decide (cmpZ (vO (hN5 (bMu a b) [(W4.of (fmI a b)).nat, L, Y, P, b.nat, a.nat]) (aP16 8) ((d16 (W4.of (fmI a b)).nat).length)) (vO (hN5 (bMu a b) [(W4.of (fmI a b)).nat, L, Y, P, b.nat, a.nat]) (aP16 7) ((d16 L).length)) = 0), true), (two16 (hN5 (bMu a b) [(W4.of (fmI a b)).nat, L, Y, P, b.nat, a.nat]) (aP16 8) (aP16 7) ((d16 (W4.of (fmI a b)).nat).length) ((d16 (W4.of (fmI a b)).nat).length) ((d16 L).length) ((d16 L).length), true), oW (W4.of (fmI a b)), (decide (vO (hN5 (bMu a b) [Y, P, b.nat, a.nat]) (aP16 6) ((d16 Y).length) - vO (hN5 (bMu a b) [Y, P, b.nat, a.nat]) none (0) = L), true), (okSb (hN5 (bMu a b) [Y, P, b.nat, a.nat]) (aP16 6) none ((d16 Y).length) ((d16 Y).length) (0) (0), true), (decide (0 < (d16 Y).length), true), (rowP (hN5 (bMu a b) [Y, P, b.nat, a.nat]) none (0) (0), true), (decide (0 < 0), false), (decide (vO (hN5 (bMu a b) [Y, P, b.nat, a.nat]) (aP16 6) ((d16 Y).length) % 2 ^ (256 : Int).toNat ≠ 0), e2), (decide ((256 : Int).toNat / 16 < (d16 Y).length), false), (okShr (hN5 (bMu a b) [Y, P, b.nat, a.nat]) (aP16 6) ((d16 Y).length) ((d16 Y).length) 256, true), (decide (vO (hN5 (bMu a b) [P, b.nat, a.nat]) (aP16 5) ((d16 P).length) / 2 ^ (248 : Int).toNat = Y), true), (decide (vO (hN5 (bMu a b) [P, b.nat, a.nat]) (aP16 5) ((d16 P).length) % 2 ^ (248 : Int).toNat ≠ 0), e1), (decide ((248 : Int).toNat / 16 < (d16 P).length), true), (okShr (hN5 (bMu a b) [P, b.nat, a.nat]) (aP16 5) ((d16 P).length) ((d16 P).length) 248, true), (decide (vO (hN5 (bMu a b) [b.nat, a.nat]) (aP16 3) ((d16 a.nat).length) * vO (hN5 (bMu a b) [b.nat, a.nat]) (aP16 4) ((d16 b.nat).length) = P), true), (okMu (hN5 (bMu a b) [b.nat, a.nat]) (aP16 3) (aP16 4) ((d16 a.nat).length) ((d16 a.nat).length) ((d16 b.nat).length) ((d16 b.nat).length), true), oW b, oW a, (decide (115792089237316195423570985008687907853269984665640564039457584007913129639936 ≤ fmI a b), false), q2 a b] := ⟨by kernel_rfl, by kernel_rfl, by kernel_rfl, by kernel_rfl⟩
theorem mu_z (a b : W4) (P Y H S L : Nat) (e1 e2 : Bool) : Fits (reckon (tabH Try.prog extY conF5 hcF) 600 3 [vW a, vW b] [cmp false, num P, cmp true, cmp e1, num Y, cmp false, cmp e2, cmp false, cmp false, num 0, cmp true, cmp false]) (.bool true) [(decide (((0 : Nat) : Int) > 0), false), ((0 : Int) == 0, true), (decide (cmpZ (vO (hN5 (bMu a b) [(W4.of (fmI a b)).nat, Y, P, b.nat, a.nat]) (aP16 7) ((d16 (W4.of (fmI a b)).nat).length)) (vO (hN5 (bMu a b) [(W4.of (fmI a b)).nat, Y, P, b.nat, a.nat]) none (0)) = 0), true), (two16 (hN5 (bMu a b) [(W4.of (fmI a b)).nat, Y, P, b.nat, a.nat]) (aP16 7) none ((d16 (W4.of (fmI a b)).nat).length) ((d16 (W4.of (fmI a b)).nat).length) (0) (0), true), oW (W4.of (fmI a b)), (two16 (hN5 (bMu a b) [Y, P, b.nat, a.nat]) (aP16 6) none ((d16 Y).length) ((d16 Y).length) (0) (0), true), (decide (0 < (d16 Y).length), false), (rowP (hN5 (bMu a b) [Y, P, b.nat, a.nat]) none (0) (0), true), (decide (0 < 0), false), (decide (vO (hN5 (bMu a b) [Y, P, b.nat, a.nat]) (aP16 6) ((d16 Y).length) % 2 ^ (256 : Int).toNat ≠ 0), e2), (decide ((256 : Int).toNat / 16 < (d16 Y).length), false), (okShr (hN5 (bMu a b) [Y, P, b.nat, a.nat]) (aP16 6) ((d16 Y).length) ((d16 Y).length) 256, true), (decide (vO (hN5 (bMu a b) [P, b.nat, a.nat]) (aP16 5) ((d16 P).length) / 2 ^ (248 : Int).toNat = Y), true), (decide (vO (hN5 (bMu a b) [P, b.nat, a.nat]) (aP16 5) ((d16 P).length) % 2 ^ (248 : Int).toNat ≠ 0), e1), (decide ((248 : Int).toNat / 16 < (d16 P).length), true), (okShr (hN5 (bMu a b) [P, b.nat, a.nat]) (aP16 5) ((d16 P).length) ((d16 P).length) 248, true), (decide (vO (hN5 (bMu a b) [b.nat, a.nat]) (aP16 3) ((d16 a.nat).length) * vO (hN5 (bMu a b) [b.nat, a.nat]) (aP16 4) ((d16 b.nat).length) = P), true), (okMu (hN5 (bMu a b) [b.nat, a.nat]) (aP16 3) (aP16 4) ((d16 a.nat).length) ((d16 a.nat).length) ((d16 b.nat).length) ((d16 b.nat).length), true), oW b, oW a, (decide (115792089237316195423570985008687907853269984665640564039457584007913129639936 ≤ fmI a b), false), q2 a b] := ⟨by kernel_rfl, by kernel_rfl, by kernel_rfl, by kernel_rfl⟩
theorem mu_a (a b : W4) (P Y H S L : Nat) (e1 e2 : Bool) : Fits (reckon (tabH Try.prog extY conF5 hcF) 600 3 [vW a, vW b] [cmp false, num P, cmp false, cmp e1, cmp false, cmp e2, cmp false, cmp false, num 0, cmp true, cmp false]) (.bool true) [(decide (((0 : Nat) : Int) > 0), false), ((0 : Int) == 0, true), (decide (cmpZ (vO (hN5 (bMu a b) [(W4.of (fmI a b)).nat, P, b.nat, a.nat]) (aP16 6) ((d16 (W4.of (fmI a b)).nat).length)) (vO (hN5 (bMu a b) [(W4.of (fmI a b)).nat, P, b.nat, a.nat]) none (0)) = 0), true), (two16 (hN5 (bMu a b) [(W4.of (fmI a b)).nat, P, b.nat, a.nat]) (aP16 6) none ((d16 (W4.of (fmI a b)).nat).length) ((d16 (W4.of (fmI a b)).nat).length) (0) (0), true), oW (W4.of (fmI a b)), (two16 (hN5 (bMu a b) [P, b.nat, a.nat]) none none (0) (0) (0) (0), true), (decide (0 < 0), false), (rowP (hN5 (bMu a b) [P, b.nat, a.nat]) none (0) (0), true), (decide (0 < 0), false), (decide (vO (hN5 (bMu a b) [P, b.nat, a.nat]) none (0) % 2 ^ (256 : Int).toNat ≠ 0), e2), (decide ((256 : Int).toNat / 16 < 0), false), (okShr (hN5 (bMu a b) [P, b.nat, a.nat]) none (0) (0) 256, true), (decide (vO (hN5 (bMu a b) [P, b.nat, a.nat]) (aP16 5) ((d16 P).length) % 2 ^ (248 : Int).toNat ≠ 0), e1), (decide ((248 : Int).toNat / 16 < (d16 P).length), false), (okShr (hN5 (bMu a b) [P, b.nat, a.nat]) (aP16 5) ((d16 P).length) ((d16 P).length) 248, true), (decide (vO (hN5 (bMu a b) [b.nat, a.nat]) (aP16 3) ((d16 a.nat).length) * vO (hN5 (bMu a b) [b.nat, a.nat]) (aP16 4) ((d16 b.nat).length) = P), true), (okMu (hN5 (bMu a b) [b.nat, a.nat]) (aP16 3) (aP16 4) ((d16 a.nat).length) ((d16 a.nat).length) ((d16 b.nat).length) ((d16 b.nat).length), true), oW b, oW a, (decide (115792089237316195423570985008687907853269984665640564039457584007913129639936 ≤ fmI a b), false), q2 a b] := ⟨by kernel_rfl, by kernel_rfl, by kernel_rfl, by kernel_rfl⟩
theorem p512 : (2 : Nat) ^ (16 * 32) = 115792089237316195423570985008687907853269984665640564039457584007913129639936 * 115792089237316195423570985008687907853269984665640564039457584007913129639936 := by decide +kernel
theorem walk (a b : W4) (ha : a.ok) (hb : b.ok) (w : World) : Calls Try.prog 3 #[vW a, vW b] w fun e w' => e = .returned (.bool true) ∧ Tidy w w' := by
  have hv : ([vW a, vW b].all (lt 0)) = true := rfl
  have T := tabH_ok conF5_ok hcF_ok
  have na := W4.nat_lt ha
  have nb := W4.nat_lt hb
  have va := W4.nat_val ha
  have vb := W4.nat_val hb
  obtain ⟨P, hP⟩ : ∃ P, a.nat * b.nat = P := ⟨_, rfl⟩
  obtain ⟨Y, hY⟩ : ∃ Y, P / 2 ^ (248 : Int).toNat = Y := ⟨_, rfl⟩
  obtain ⟨H, hH⟩ : ∃ H, Y / 2 ^ (256 : Int).toNat = H := ⟨_, rfl⟩
  obtain ⟨S, hS⟩ : ∃ S, H * 2 ^ (256 : Int).toNat = S := ⟨_, rfl⟩
  obtain ⟨L, hL⟩ : ∃ L, Y - S = L := ⟨_, rfl⟩
  have e256 : (2 : Nat) ^ (256 : Int).toNat = 115792089237316195423570985008687907853269984665640564039457584007913129639936 := by rfl
  have e248 : (2 : Nat) ^ (248 : Int).toNat = 452312848583266388373324160190187140051835877600158453279131187530910662656 := by rfl
  have p256 : (2 : Nat) ^ 256 = 115792089237316195423570985008687907853269984665640564039457584007913129639936 := by rfl
  have bP : P < 115792089237316195423570985008687907853269984665640564039457584007913129639936 * 115792089237316195423570985008687907853269984665640564039457584007913129639936 := by
    rw [← hP]
    rw [p256] at na nb
    exact Nat.mul_lt_mul'' na nb
  have eI : fmI a b = (Y : Int) := by
    unfold fmI
    rw [va, vb, ← hY, ← hP, e248, Int.natCast_ediv, Int.natCast_mul]
    rfl
  have nX : (W4.of (fmI a b)).nat = Y % 115792089237316195423570985008687907853269984665640564039457584007913129639936 := by
    unfold W4.nat
    rw [W4.val_of, eI]
    omega
  have eH : H = Y / 115792089237316195423570985008687907853269984665640564039457584007913129639936 := by rw [← hH, e256]
  have eS : S = Y / 115792089237316195423570985008687907853269984665640564039457584007913129639936 * 115792089237316195423570985008687907853269984665640564039457584007913129639936 := by rw [← hS, e256, eH]
  have eL : L = Y % 115792089237316195423570985008687907853269984665640564039457584007913129639936 := by rw [← hL, eS]; omega
  have hle : S ≤ Y := by rw [eS]; exact Nat.div_mul_le_self _ _
  have eY : Y = P / 452312848583266388373324160190187140051835877600158453279131187530910662656 := by rw [← hY, e248]
  have sh : ∀ V : Nat, V < 115792089237316195423570985008687907853269984665640564039457584007913129639936 * 115792089237316195423570985008687907853269984665640564039457584007913129639936 → (d16 V).length < 100000 := fun V hV => by
    have := d16_len (A := V) (k := 32) (by rw [p512]; exact hV)
    omega
  have bY : Y ≤ P := by rw [eY]; exact Nat.div_le_self _ _
  have la := sh a.nat (by rw [p256] at na; omega)
  have lb := sh b.nat (by rw [p256] at nb; omega)
  have lP := sh P bP
  have lY := sh Y (by omega)
  have lH := sh H (by omega)
  have lS := sh S (by omega)
  have lL := sh L (by omega)
  have lX := sh (W4.of (fmI a b)).nat (by rw [nX]; omega)
  have hov : decide (115792089237316195423570985008687907853269984665640564039457584007913129639936 ≤ fmI a b) = decide (115792089237316195423570985008687907853269984665640564039457584007913129639936 ≤ Y) := by rw [eI, decide_eq_decide]; omega
  have hc : cmpZ (W4.of (fmI a b)).nat L = 0 := by rw [nX, eL]; unfold cmpZ; rw [if_neg (by omega), if_pos rfl]
  have i15 := len_iff16 P 15
  have i16 := len_iff16 Y 16
  have i0 := len_iff16 Y 0
  have j0 := len_iff16 H 0
  rw [show (2 : Nat) ^ (16 * 15) = 1766847064778384329583297500742918515827483896875618958121606201292619776 by rfl] at i15
  rw [show (2 : Nat) ^ (16 * 16) = 115792089237316195423570985008687907853269984665640564039457584007913129639936 by rfl] at i16
  rw [show (2 : Nat) ^ (16 * 0) = 1 by rfl] at i0 j0
  by_cases c : 115792089237316195423570985008687907853269984665640564039457584007913129639936 ≤ Y
  · have hov : decide (115792089237316195423570985008687907853269984665640564039457584007913129639936 ≤ fmI a b) = true := by rw [hov]; exact decide_eq_true c
    have d1 : decide ((248 : Int).toNat / 16 < (d16 P).length) = true := decide_eq_true (i15.2 (by omega))
    have d2 : decide ((256 : Int).toNat / 16 < (d16 Y).length) = true := decide_eq_true (i16.2 c)
    have hh : 0 < (d16 H).length := j0.2 (by omega)
    have d3 : decide (0 < (d16 H).length) = true := decide_eq_true hh
    have d4 : decide (0 < (d16 Y).length) = true := decide_eq_true (i0.2 (by omega))
    have d5 : decide ((((d16 H).length : Nat) : Int) > 0) = true := decide_eq_true (by omega)
    exact fits_calls T (mu_c a b P Y H S L _ _) (okPC d5 (okPC rfl (okPC ((bN5 (V := (W4.of (fmI a b)).nat) rfl lX).cmp (bN5 (V := L) rfl lL) hc) (okPC ((bN5 (V := (W4.of (fmI a b)).nat) rfl lX).two (bN5 (V := L) rfl lL)) (okPC (decide_eq_true (W4.ok_of _)) (okPC ((bN5 (V := Y) rfl lY).subV (bN5 (V := S) rfl lS) hL) (okPC ((bN5 (V := Y) rfl lY).sb (bN5 (V := S) rfl lS) hle) (okPC d4 (okPC ((bN5 (V := H) rfl lH).shlV (k := (256 : Int).toNat) hS) (okPC ((bN5 (V := H) rfl lH).shl (k := 256) ⟨by decide, by decide⟩) (okPC d3 (okPC ((bN5 (V := Y) rfl lY).shrV (k := (256 : Int).toNat) hH) (okPC ((bN5 (V := Y) rfl lY).lost (k := (256 : Int).toNat) rfl) (okPC d2 (okPC ((bN5 (V := Y) rfl lY).shr (k := 256) ⟨by decide, by decide⟩) (okPC ((bN5 (V := P) rfl lP).shrV (k := (248 : Int).toNat) hY) (okPC ((bN5 (V := P) rfl lP).lost (k := (248 : Int).toNat) rfl) (okPC d1 (okPC ((bN5 (V := P) rfl lP).shr (k := 248) ⟨by decide, by decide⟩) (okPC ((bN5 (V := a.nat) rfl la).mulV (bN5 (V := b.nat) rfl lb) hP) (okPC ((bN5 (V := a.nat) rfl la).mu (bN5 (V := b.nat) rfl lb)) (okPC (decide_eq_true hb) (okPC (decide_eq_true ha) (okPC hov (okP1 (decide_eq_true ⟨ha, hb⟩)))))))))))))))))))))))))) hv (by rfl) w
  have hov : decide (115792089237316195423570985008687907853269984665640564039457584007913129639936 ≤ fmI a b) = false := by rw [hov]; exact decide_eq_false c
  have d3 : decide (0 < 0) = false := rfl
  have d5 : decide (((0 : Nat) : Int) > 0) = false := rfl
  have hLY : Y - 0 = L := by rw [eL]; omega
  by_cases c1 : 15 < (d16 P).length
  · have d1 : decide ((248 : Int).toNat / 16 < (d16 P).length) = true := decide_eq_true c1
    have d2 : decide ((256 : Int).toNat / 16 < (d16 Y).length) = false := decide_eq_false fun h => c (i16.1 h)
    by_cases c2 : 0 < (d16 Y).length
    · have d4 : decide (0 < (d16 Y).length) = true := decide_eq_true c2
      have hL := hLY
      have hle : 0 ≤ Y := Nat.zero_le _
      exact fits_calls T (mu_b a b P Y H S L _ _) (okPC d5 (okPC rfl (okPC ((bN5 (V := (W4.of (fmI a b)).nat) rfl lX).cmp (bN5 (V := L) rfl lL) hc) (okPC ((bN5 (V := (W4.of (fmI a b)).nat) rfl lX).two (bN5 (V := L) rfl lL)) (okPC (decide_eq_true (W4.ok_of _)) (okPC ((bN5 (V := Y) rfl lY).subV (nN5 (hN5 (bMu a b) [Y, P, b.nat, a.nat])) hL) (okPC ((bN5 (V := Y) rfl lY).sb (nN5 (hN5 (bMu a b) [Y, P, b.nat, a.nat])) hle) (okPC d4 (okPC rfl (okPC d3 (okPC ((bN5 (V := Y) rfl lY).lost (k := (256 : Int).toNat) rfl) (okPC d2 (okPC ((bN5 (V := Y) rfl lY).shr (k := 256) ⟨by decide, by decide⟩) (okPC ((bN5 (V := P) rfl lP).shrV (k := (248 : Int).toNat) hY) (okPC ((bN5 (V := P) rfl lP).lost (k := (248 : Int).toNat) rfl) (okPC d1 (okPC ((bN5 (V := P) rfl lP).shr (k := 248) ⟨by decide, by decide⟩) (okPC ((bN5 (V := a.nat) rfl la).mulV (bN5 (V := b.nat) rfl lb) hP) (okPC ((bN5 (V := a.nat) rfl la).mu (bN5 (V := b.nat) rfl lb)) (okPC (decide_eq_true hb) (okPC (decide_eq_true ha) (okPC hov (okP1 (decide_eq_true ⟨ha, hb⟩)))))))))))))))))))))))) hv (by rfl) w
    · have d4 : decide (0 < (d16 Y).length) = false := decide_eq_false c2
      have hc : cmpZ (W4.of (fmI a b)).nat 0 = 0 := by
        rw [nX]
        have : Y = 0 := by
          have := fun h => c2 (i0.2 h)
          omega
        rw [this]
        rfl
      exact fits_calls T (mu_z a b P Y H S L _ _) (okPC d5 (okPC rfl (okPC ((bN5 (V := (W4.of (fmI a b)).nat) rfl lX).cmp (nN5 (hN5 (bMu a b) [(W4.of (fmI a b)).nat, Y, P, b.nat, a.nat])) hc) (okPC ((bN5 (V := (W4.of (fmI a b)).nat) rfl lX).two (nN5 (hN5 (bMu a b) [(W4.of (fmI a b)).nat, Y, P, b.nat, a.nat]))) (okPC (decide_eq_true (W4.ok_of _)) (okPC ((bN5 (V := Y) rfl lY).two (nN5 (hN5 (bMu a b) [Y, P, b.nat, a.nat]))) (okPC d4 (okPC rfl (okPC d3 (okPC ((bN5 (V := Y) rfl lY).lost (k := (256 : Int).toNat) rfl) (okPC d2 (okPC ((bN5 (V := Y) rfl lY).shr (k := 256) ⟨by decide, by decide⟩) (okPC ((bN5 (V := P) rfl lP).shrV (k := (248 : Int).toNat) hY) (okPC ((bN5 (V := P) rfl lP).lost (k := (248 : Int).toNat) rfl) (okPC d1 (okPC ((bN5 (V := P) rfl lP).shr (k := 248) ⟨by decide, by decide⟩) (okPC ((bN5 (V := a.nat) rfl la).mulV (bN5 (V := b.nat) rfl lb) hP) (okPC ((bN5 (V := a.nat) rfl la).mu (bN5 (V := b.nat) rfl lb)) (okPC (decide_eq_true hb) (okPC (decide_eq_true ha) (okPC hov (okP1 (decide_eq_true ⟨ha, hb⟩))))))))))))))))))))))) hv (by rfl) w
  · have d1 : decide ((248 : Int).toNat / 16 < (d16 P).length) = false := decide_eq_false c1
    have d2 : decide ((256 : Int).toNat / 16 < 0) = false := rfl
    have d4 := d3
    have hc : cmpZ (W4.of (fmI a b)).nat 0 = 0 := by
      rw [nX]
      have : Y = 0 := by
        have := fun h => c1 (i15.2 h)
        omega
      rw [this]
      rfl
    exact fits_calls T (mu_a a b P Y H S L _ _) (okPC d5 (okPC rfl (okPC ((bN5 (V := (W4.of (fmI a b)).nat) rfl lX).cmp (nN5 (hN5 (bMu a b) [(W4.of (fmI a b)).nat, P, b.nat, a.nat])) hc) (okPC ((bN5 (V := (W4.of (fmI a b)).nat) rfl lX).two (nN5 (hN5 (bMu a b) [(W4.of (fmI a b)).nat, P, b.nat, a.nat]))) (okPC (decide_eq_true (W4.ok_of _)) (okPC ((nN5 (hN5 (bMu a b) [P, b.nat, a.nat])).two (nN5 (hN5 (bMu a b) [P, b.nat, a.nat]))) (okPC d4 (okPC rfl (okPC d3 (okPC ((nN5 (hN5 (bMu a b) [P, b.nat, a.nat])).lost (k := (256 : Int).toNat) rfl) (okPC d2 (okPC ((nN5 (hN5 (bMu a b) [P, b.nat, a.nat])).shr (k := 256) ⟨by decide, by decide⟩) (okPC ((bN5 (V := P) rfl lP).lost (k := (248 : Int).toNat) rfl) (okPC d1 (okPC ((bN5 (V := P) rfl lP).shr (k := 248) ⟨by decide, by decide⟩) (okPC ((bN5 (V := a.nat) rfl la).mulV (bN5 (V := b.nat) rfl lb) hP) (okPC ((bN5 (V := a.nat) rfl la).mu (bN5 (V := b.nat) rfl lb)) (okPC (decide_eq_true hb) (okPC (decide_eq_true ha) (okPC hov (okP1 (decide_eq_true ⟨ha, hb⟩)))))))))))))))))))))) hv (by rfl) w
theorem cells0 {l : List Value} (h : okC [some .u64, some .u64, some .u64, some .u64] l) : ∃ aa ab ac ad, l = [.int .u64 aa, .int .u64 ab, .int .u64 ac, .int .u64 ad] ∧ (Lit.int .u64 aa).wf = true ∧ (Lit.int .u64 ab).wf = true ∧ (Lit.int .u64 ac).wf = true ∧ (Lit.int .u64 ad).wf = true := by
  have hl := okC_length h
  obtain ⟨v0, v1, v2, v3, rfl⟩ : ∃ v0 v1 v2 v3, l = [v0, v1, v2, v3] := by
    match l, hl with
    | [v0, v1, v2, v3], _ => exact ⟨v0, v1, v2, v3, rfl⟩
  obtain ⟨⟨aa, rfl, kaa⟩, ⟨ab, rfl, kab⟩, ⟨ac, rfl, kac⟩, ⟨ad, rfl, kad⟩, _⟩ := h
  exact ⟨aa, ab, ac, ad, rfl, kaa, kab, kac, kad⟩
theorem cells1 {l : List Value} (h : okC [some .u64, some .u64, some .u64, some .u64] l) : ∃ ba bb bc bd, l = [.int .u64 ba, .int .u64 bb, .int .u64 bc, .int .u64 bd] ∧ (Lit.int .u64 ba).wf = true ∧ (Lit.int .u64 bb).wf = true ∧ (Lit.int .u64 bc).wf = true ∧ (Lit.int .u64 bd).wf = true := by
  have hl := okC_length h
  obtain ⟨v0, v1, v2, v3, rfl⟩ : ∃ v0 v1 v2 v3, l = [v0, v1, v2, v3] := by
    match l, hl with
    | [v0, v1, v2, v3], _ => exact ⟨v0, v1, v2, v3, rfl⟩
  obtain ⟨⟨ba, rfl, kba⟩, ⟨bb, rfl, kbb⟩, ⟨bc, rfl, kbc⟩, ⟨bd, rfl, kbd⟩, _⟩ := h
  exact ⟨ba, bb, bc, bd, rfl, kba, kbb, kbc, kbd⟩
theorem own : ownKnob Try.prog.godebug = none := by kernel_rfl
set_option maxRecDepth 100000 in
theorem lifted (os : Os) (started : os.Started) (H : Type) (enc : TypeId × Value → H) :
    ReturnsInHanded {} Try.checked os 3 .any (Rows.fixMulsSpec.pre6 enc Try.prog Try.f3 Rows.fixMulsRow.domain false) (Rows.fixMulsSpec.post enc Try.prog Try.f3 false true false false) := by
  refine returnsInHanded_of_change (C := Try.checked) own started (by kernel_rfl) Try.func3
    (ChangeSpec.witness6 (enc := enc) (C := Try.checked) false ⟨#[], #[.agg #[.int .u64 0, .int .u64 0, .int .u64 0, .int .u64 0], .agg #[.int .u64 0, .int .u64 0, .int .u64 0, .int .u64 0]], []⟩ 8 (by kernel_rfl) (by kernel_rfl) (by kernel_rfl) (by kernel_rfl)) ?_
  intro W base args ds gs before hval0 hW hcnd _
  have hval : ∀ (j : Nat) t v, Try.f3.params[j]? = some t → args[j]? = some v → Value.okWide Try.prog W .any base t v := hval0
  have hW' := hW
  obtain ⟨p, q, hA0, hV, rfl, hfz, hnd⟩ := hW
  have hA : DataW.TrodAll enc Try.prog W 0 (fun _ => true) true Try.f3.params.toList args.toList ds p := hA0
  rw [Try.params3] at hA hval
  obtain ⟨v0, v1, d0, d1, p0, p1, rfl, rfl, rfl, h0, h1⟩ := trodAll_two hA
  obtain ⟨rfl, rfl⟩ := trodVars_none hV
  obtain ⟨c0, rfl, r0⟩ := flat_open (L := [some .u64, some .u64, some .u64, some .u64]) (by kernel_rfl) h0
  obtain ⟨cs0, rfl⟩ := agg_array Try.underlying23 (hval 0 23 v0 rfl rfl)
  obtain ⟨aa, ab, ac, ad, hcs0, kaa, kab, kac, kad⟩ := cells0 c0
  have hcs0' : cs0 = #[.int .u64 aa, .int .u64 ab, .int .u64 ac, .int .u64 ad] := by
    have := congrArg List.toArray hcs0
    simpa [Value.cells] using this
  subst hcs0'
  obtain ⟨c1, rfl, r1⟩ := flat_open (L := [some .u64, some .u64, some .u64, some .u64]) (by kernel_rfl) h1
  obtain ⟨cs1, rfl⟩ := agg_array Try.underlying23 (hval 1 23 v1 rfl rfl)
  obtain ⟨ba, bb, bc, bd, hcs1, kba, kbb, kbc, kbd⟩ := cells1 c1
  have hcs1' : cs1 = #[.int .u64 ba, .int .u64 bb, .int .u64 bc, .int .u64 bd] := by
    have := congrArg List.toArray hcs1
    simpa [Value.cells] using this
  subst hcs1'
  clear hA0 hval0
  simp only [List.append_nil] at hW'
  refine (walk ⟨aa, ab, ac, ad⟩ ⟨ba, bb, bc, bd⟩ ⟨u64_bounds kaa, u64_bounds kab, u64_bounds kac, u64_bounds kad⟩ ⟨u64_bounds kba, u64_bounds kbb, u64_bounds kbc, u64_bounds kbd⟩ W).mono fun e W' ⟨he, hg⟩ => ?_
  subst he
  exact ⟨_, rfl, post_of_same (pa := []) (pv := []) hW' (fun _ _ _ => trodAll_mk1 (shut_bool Try.underlying4 _))
    (fun sp _ => trodAll_mk2 (r0 _ _ _ _) (r1 _ _ _ _)) (fun _ _ => rfl) rfl
    (hg.1.frame _) (tidy_frozen hg) (ok_one (by kernel_rfl) rfl (okWide_bool_mk Try.underlying4 _))⟩
theorem proved : Rows.FixMulsSaid :=
  OpenClaim.holds_of_wide 3 Try.f3 rfl rfl rfl rfl rfl rfl rfl ⟨rfl, rfl, rfl, rfl, rfl⟩ rfl rfl rfl rfl rfl (by kernel_rfl) Try.func3 (by kernel_rfl)
    (of_decide_eq_true (by kernel_rfl)) (by unfold Func.isWrapper; first | (rw [if_pos (by decide +kernel)]; kernel_rfl) | (rw [if_neg (by decide +kernel)]; exact ⟨rfl, rfl⟩))
    (fun os started H enc _ => lifted os started H enc)
end Go.Proofs.Ytmgcnijpoklhkaa.fixMuls
