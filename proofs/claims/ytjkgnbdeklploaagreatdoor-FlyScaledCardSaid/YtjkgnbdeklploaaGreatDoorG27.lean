/-
  CxE, NumK, ConD1, ConD2, ConD3, ConQ1, ConQ2, ConQ3
-/
import Derived.Test.YtjkgnbdeklploaaGreatDoorG26
namespace Go.Proofs.YtjkgnbdeklploaaGreatDoor
open Go.KRun Go.Wd Go.Pt Go.Rn
set_option maxRecDepth 100000
def gXP (k : Int → Int → Int → Value) : Ans := fun vals s =>
  match vals with
  | [.agg ⟨[.int .u64 a, .int .u64 b]⟩, .int .u64 p] => some (k a b p, s, [(decide (U a ∧ U b ∧ U p), true)])
  | _ => none
def gXPX (k : Int → Int → Int → Int → Int → Value) : Ans := fun vals s =>
  match vals with
  | [.agg ⟨[.int .u64 a, .int .u64 b]⟩, .int .u64 p, .agg ⟨[.int .u64 c, .int .u64 d]⟩] => some (k a b p c d, s, [(decide (U a ∧ U b ∧ U p ∧ U c ∧ U d), true)])
  | _ => none
theorem gXPX_ok {f : Nat} {k : Int → Int → Int → Int → Int → Value} (hk : ∀ a b p c d : Int, U a → U b → U p → U c → U d → ∀ w, Calls Tryz.prog f #[pX a b, .int .u64 p, pX c d] w fun e w' => e = .returned (k a b p c d) ∧ Tidy w w') : AnsOk f (gXPX k) := by
  intro vals s v s' lg h hl w
  unfold gXPX at h
  split at h
  · cases h
    obtain ⟨h1, h2, h3, h4, h5⟩ := of_decide_eq_true (hl _ (List.mem_singleton.2 rfl))
    exact hk _ _ _ _ _ h1 h2 h3 h4 h5 w
  · cases h
def coV17 (a b p c d : Int) : Value := cpB (fmP 0 a p c) (fmP 0 b p d) (orB (fmF 0 a p c) (fmF 0 b p d))
theorem mo17 (a b p c d : Int) : Fits (reckon (tabOf Tryz.prog extY conC2 true) 300 97 [pX a b, .int .u64 p, pX c d] []) (coV17 a b p c d) [(decide (U b ∧ U p ∧ U d), true), (decide (U a ∧ U p ∧ U c), true)] := ⟨by kernel_rfl, by kernel_rfl, by kernel_rfl, by kernel_rfl⟩
theorem mo17_calls (a b p c d : Int) (ha : U a) (hb : U b) (hp : U p) (hc : U c) (hd : U d) (w : World) : Calls Tryz.prog 97 #[pX a b, .int .u64 p, pX c d] w fun r w' => r = .returned (coV17 a b p c d) ∧ Tidy w w' :=
  fits_calls (tabY_ok conC2_ok) (mo17 a b p c d) (okCons (decide_eq_true ⟨hb, hp, hd⟩) (okL1 (decide_eq_true ⟨ha, hp, hc⟩))) rfl (by rfl) w
end Go.Proofs.YtjkgnbdeklploaaGreatDoor
namespace Go.Wd
/-- B: the base; D = dt R + d0 the divisor, dt its highest word; P = N R + p0 what is divided, N its two highest words -/
theorem guess_low {B R dt d0 N p0 : Int} (hR : 0 < R) (hd : 0 < dt) (h0 : 0 ≤ d0) (hp : p0 < R) (hq0 : 0 ≤ (N * R + p0) / (dt * R + d0)) (hP : N * R + p0 < B * (dt * R + d0)) :
    (N * R + p0) / (dt * R + d0) ≤ N / dt ∧ (N * R + p0) / (dt * R + d0) ≤ B - 1 := by
  have hD : 0 < dt * R + d0 := by have := Int.mul_pos hd hR; omega
  have e := Int.mul_ediv_add_emod (N * R + p0) (dt * R + d0)
  have m := Int.emod_nonneg (N * R + p0) (show dt * R + d0 ≠ 0 by omega)
  generalize hq : (N * R + p0) / (dt * R + d0) = q at *
  refine ⟨?_, ?_⟩
  · refine Int.le_ediv_of_mul_le hd ?_
    have h1 : q * dt * R ≤ N * R + p0 := by
      have : (dt * R + d0) * q = q * dt * R + d0 * q := by rw [Int.add_mul, Int.mul_right_comm, Int.mul_comm dt q]
      have h2 : 0 ≤ d0 * q := Int.mul_nonneg h0 hq0
      omega
    have h3 : q * dt * R < (N + 1) * R := by rw [Int.add_mul]; omega
    have := Int.lt_of_mul_lt_mul_right h3 (Int.le_of_lt hR)
    omega
  · have h1 : q * (dt * R + d0) < B * (dt * R + d0) := by rw [Int.mul_comm q]; omega
    have := Int.lt_of_mul_lt_mul_right h1 (Int.le_of_lt hD)
    omega
theorem guess_high {B R dt d0 N p0 g : Int} (hR : 0 < R) (hd : 0 < dt) (hB : B ≤ 2 * dt) (h1 : d0 < R) (hp0 : 0 ≤ p0) (hP : N * R + p0 < B * (dt * R + d0)) (h0 : 0 ≤ d0) (hg : g ≤ N / dt) :
    g ≤ (N * R + p0) / (dt * R + d0) + 2 := by
  have hD : 0 < dt * R + d0 := by have := Int.mul_pos hd hR; omega
  have e := Int.lt_mul_ediv_self_add hD (x := N * R + p0)
  have hqB : (N * R + p0) / (dt * R + d0) < B := Int.ediv_lt_of_lt_mul hD hP
  generalize (N * R + p0) / (dt * R + d0) = q at *
  have a1 : g * dt ≤ N := Int.le_trans (Int.mul_le_mul_of_nonneg_right hg (Int.le_of_lt hd)) (Int.ediv_mul_le N (by omega))
  have a2 : g * dt * R ≤ N * R := Int.mul_le_mul_of_nonneg_right a1 (Int.le_of_lt hR)
  rcases Int.lt_or_le g (q + 3) with hc | hc
  · omega
  · exfalso
    by_cases hq : 0 ≤ q + 1
    · have a3 : (dt * R + d0) * (q + 1) ≤ (dt * R + R) * (q + 1) := Int.mul_le_mul_of_nonneg_right (by omega) hq
      have a4 : (dt * R + d0) * q + (dt * R + d0) = (dt * R + d0) * (q + 1) := by rw [Int.mul_add, Int.mul_one]
      have a5 : (dt * R + R) * (q + 1) = (dt + 1) * (q + 1) * R := by rw [show dt * R + R = (dt + 1) * R from by rw [Int.add_mul, Int.one_mul], Int.mul_right_comm]
      have a6 : g * dt * R < (dt + 1) * (q + 1) * R := by omega
      have a7 := Int.lt_of_mul_lt_mul_right a6 (Int.le_of_lt hR)
      have a8 : (q + 3) * dt ≤ g * dt := Int.mul_le_mul_of_nonneg_right hc (Int.le_of_lt hd)
      have a9 : (q + 3) * dt = q * dt + 3 * dt := Int.add_mul ..
      have b1 : (dt + 1) * (q + 1) = q * dt + dt + q + 1 := by rw [Int.add_mul, Int.mul_add, Int.mul_comm dt q]; omega
      omega
    · have c1 : g * dt * R + p0 < (dt * R + d0) * (q + 1) := by
        have a4 : (dt * R + d0) * q + (dt * R + d0) = (dt * R + d0) * (q + 1) := by rw [Int.mul_add, Int.mul_one]
        omega
      have c2 : (q + 3) * dt ≤ g * dt := Int.mul_le_mul_of_nonneg_right hc (Int.le_of_lt hd)
      have c3 : (q + 3) * dt * R ≤ g * dt * R := Int.mul_le_mul_of_nonneg_right c2 (Int.le_of_lt hR)
      have c4 : (dt * R + d0) * (q + 1) ≤ dt * R * (q + 1) := by
        rw [Int.add_mul]
        have : d0 * (q + 1) ≤ 0 := Int.mul_nonpos_of_nonneg_of_nonpos h0 (by omega)
        omega
      have c5 : (q + 3) * dt * R = dt * R * (q + 1) + 2 * (dt * R) := by
        rw [Int.mul_assoc, Int.mul_comm (q + 3), show q + 3 = (q + 1) + 2 from by omega, Int.mul_add, Int.mul_comm (dt * R) 2]
      have c6 := Int.mul_pos hd hR
      omega
end Go.Wd
namespace Go.Proofs.YtjkgnbdeklploaaGreatDoor
open Go.KRun Go.Wd
set_option maxRecDepth 100000
def lz0 (y : Int) : Bool × Bool := (decide (9223372036854775808 ≤ y ∧ y < 18446744073709551616), true)
theorem lz_fits (y : Int) : Fits (reckon (tabOf Tryz.prog extY conL true) 3000 178 [u_ y] []) (.int .i64 (IntKind.i64.wrap (64 - (bitLen y.toNat : Nat)))) [wd y] := ⟨by kernel_rfl, by kernel_rfl, by kernel_rfl, by kernel_rfl⟩
theorem lz_calls (y : Int) (h0 : 9223372036854775808 ≤ y) (h1 : y < 18446744073709551616) (w : World) : Calls Tryz.prog 178 #[u_ y] w fun e w' => e = .returned (.int .i64 0) ∧ Tidy w w' := by
  have h := fits_calls (tabY_ok conL_ok) (lz_fits y) (okL1 (wd_ok ⟨by omega, h1⟩)) (by rfl) (by rfl) w
  have e : bitLen y.toNat = 64 := by
    have e1 : y.toNat / 2 ^ 63 = 1 := by omega
    rw [bitLen_shift y.toNat 63 (by omega), e1]
    rfl
  rw [e] at h
  exact h
def gLZ : Ans := fun vals s =>
  match vals with
  | [.int .u64 y] => some (.int .i64 0, s, [lz0 y])
  | _ => none
theorem gLZ_ok : AnsOk 178 gLZ := by
  intro vals s v s' lg h hl w
  unfold gLZ at h
  split at h
  · cases h
    have h1 := hl _ (List.mem_singleton.2 rfl)
    simp only [lz0, decide_eq_true_eq] at h1
    exact lz_calls _ h1.1 h1.2 w
  · cases h
def conZ : Con := alt 178 gLZ conN
theorem conZ_ok : ConOk conZ := alt_ok Tryz.func178 rfl gLZ_ok conN_ok
def dN (F : Func) : Nat → Code
  | 0 => cBody F
  | n + 1 => cSnd (dN F n)
def dPre (F : Func) : List Code := (List.range 14).map fun i => cFst (dN F i)
def dL1 (F : Func) : Code := cIn (cIn (cFst (dN F 14)))
def dMid (F : Func) : List Code := [cFst (dN F 15), cFst (dN F 16), cFst (dN F 17)]
def dL2 (F : Func) : Code := cIn (cIn (cFst (dN F 18)))
def dEnd (F : Func) : Code := dN F 19
theorem div_body : Tryz.f177.body = some (seqs (dPre Tryz.f177) (.seq (.block 0 (.loop (dL1 Tryz.f177))) (seqs (dMid Tryz.f177) (.seq (.block 2 (.loop (dL2 Tryz.f177))) (dEnd Tryz.f177))))) := by kernel_rfl
def s0 (z : Int) : Int := IntKind.u64.wrap (z * 2 ^ min ((IntKind.u64.wrap 0).toNat) 64)
def s64 (z : Int) : Int := z.fdiv (2 ^ min ((IntKind.u64.wrap (64 - IntKind.u64.wrap 0)).toNat) 64)
def orq (x y : Int) : Int := IntKind.u64.wrap ((BitVec.ofInt 64 x ||| BitVec.ofInt 64 y).toNat : Nat)
/-- the first nineteen temporaries -/
def dFr (hi lo y v3 v4 v5 v6 v7 : Value) (s yn1 yn0 un32 un10 un1 un0 q1 rh : Value) (v17 v18 : Value) : List Value := [hi, lo, y, v3, v4, v5, v6, v7, s, yn1, yn0, un32, un10, un1, un0, q1, rh, v17, v18]
def zf0 : Bool × Bool := (decide ((0 : Int) < 0), false)
def oE (hi lo : Int) : Int := orq (s0 hi) (s64 lo)
def rEW (n q d : Int) : Int := IntKind.u64.wrap (n - IntKind.u64.wrap (q * d))
theorem div_pre (hi lo y q : Int) : GoesE (evL (tabOf Tryz.prog extY conZ true) 500 (dPre Tryz.f177) ([u_ hi, u_ lo, u_ y] ++ List.replicate 132 undef, ⟨0, []⟩, [cmp false, cmp false, cmp false, num q]) ⟨[], [], []⟩) 19 116 none
    (dFr (u_ hi) (u_ lo) (u_ (s0 y)) undef undef undef (u_ 0) (u_ 0) (u_ 0) (u_ (hi32 (s0 y))) (u_ (lo32 (s0 y))) (u_ (oE hi lo)) (u_ (s0 lo)) (u_ (hi32 (s0 lo))) (u_ (lo32 (s0 lo))) (u_ q) (u_ (rEW (oE hi lo) q (hi32 (s0 y)))) undef undef) ⟨0, []⟩
    [(decide (hi32 (s0 y) = 0), false), (decide (IntKind.u64.wrap ((oE hi lo).tdiv (hi32 (s0 y))) = q), true), l32, l32, l32, l32, l32, l32, lz0 y, (hi == 0, false), (decide (y ≤ hi), false), (y == 0, false)] := by unfold GoesE; kernel_rfl
def tooG (q n0 rh u : Int) (d : Bool) : Bool × Bool := (decide (IntKind.u64.wrap (q * n0) > IntKind.u64.wrap (IntKind.u64.wrap (4294967296 * rh) + u)), d)
def gM (q : Int) (d : Bool) : Bool × Bool := (decide (q ≥ 4294967296), d)
def exO (d : Bool) (id : Nat) : Ex := match d with | true => some (some id) | false => none
theorem d1_big (d : Bool) (a0 a1 a2 a3 a4 a5 a6 a7 a8 a11 a12 a14 a17 a18 : Value) (n1 n0 u q rh : Int) (g : Nat → Value) : GoesE (evC (tabOf Tryz.prog extY conZ true) 300 false (dL1 Tryz.f177) (dFr a0 a1 a2 a3 a4 a5 a6 a7 a8 (u_ n1) (u_ n0) a11 a12 (u_ u) a14 (u_ q) (u_ rh) a17 a18 ++ tl 116 g, ⟨0, []⟩, [cmp true, cmp d]) ⟨[], [], []⟩) 19 116 (exO d 0)
    (dFr a0 a1 a2 a3 a4 a5 a6 a7 a8 (u_ n1) (u_ n0) a11 a12 (u_ u) a14 (u_ (IntKind.u64.wrap (q - 1))) (u_ (IntKind.u64.wrap (rh + n1))) a17 a18) ⟨0, []⟩ [gM (IntKind.u64.wrap (rh + n1)) d, gM q true] := by cases d <;> (unfold GoesE; kernel_rfl)
theorem d1_more (d : Bool) (a0 a1 a2 a3 a4 a5 a6 a7 a8 a11 a12 a14 a17 a18 : Value) (n1 n0 u q rh : Int) (g : Nat → Value) : GoesE (evC (tabOf Tryz.prog extY conZ true) 300 false (dL1 Tryz.f177) (dFr a0 a1 a2 a3 a4 a5 a6 a7 a8 (u_ n1) (u_ n0) a11 a12 (u_ u) a14 (u_ q) (u_ rh) a17 a18 ++ tl 116 g, ⟨0, []⟩, [cmp false, cmp true, cmp d]) ⟨[], [], []⟩) 19 116 (exO d 0)
    (dFr a0 a1 a2 a3 a4 a5 a6 a7 a8 (u_ n1) (u_ n0) a11 a12 (u_ u) a14 (u_ (IntKind.u64.wrap (q - 1))) (u_ (IntKind.u64.wrap (rh + n1))) a17 a18) ⟨0, []⟩ [gM (IntKind.u64.wrap (rh + n1)) d, tooG q n0 rh u true, gM q false] := by cases d <;> (unfold GoesE; kernel_rfl)
theorem d1_out (a0 a1 a2 a3 a4 a5 a6 a7 a8 a11 a12 a14 a17 a18 : Value) (n1 n0 u q rh : Int) (g : Nat → Value) : GoesE (evC (tabOf Tryz.prog extY conZ true) 300 false (dL1 Tryz.f177) (dFr a0 a1 a2 a3 a4 a5 a6 a7 a8 (u_ n1) (u_ n0) a11 a12 (u_ u) a14 (u_ q) (u_ rh) a17 a18 ++ tl 116 g, ⟨0, []⟩, [cmp false, cmp false]) ⟨[], [], []⟩) 19 116 (some (some 0))
    (dFr a0 a1 a2 a3 a4 a5 a6 a7 a8 (u_ n1) (u_ n0) a11 a12 (u_ u) a14 (u_ q) (u_ rh) a17 a18) ⟨0, []⟩ [tooG q n0 rh u false, gM q false] := by unfold GoesE; kernel_rfl
theorem d2_big (d : Bool) (a0 a1 a2 a3 a4 a5 a6 a7 a8 a11 a12 a14 a17 a18 : Value) (n1 n0 u q rh : Int) (g : Nat → Value) : GoesE (evC (tabOf Tryz.prog extY conZ true) 300 false (dL2 Tryz.f177) (dFr a0 a1 a2 a3 a4 a5 a6 a7 a8 (u_ n1) (u_ n0) a11 a12 a14 (u_ u) a17 (u_ rh) a18 (u_ q) ++ tl 116 g, ⟨0, []⟩, [cmp true, cmp d]) ⟨[], [], []⟩) 19 116 (exO d 2)
    (dFr a0 a1 a2 a3 a4 a5 a6 a7 a8 (u_ n1) (u_ n0) a11 a12 a14 (u_ u) a17 (u_ (IntKind.u64.wrap (rh + n1))) a18 (u_ (IntKind.u64.wrap (q - 1)))) ⟨0, []⟩ [gM (IntKind.u64.wrap (rh + n1)) d, gM q true] := by cases d <;> (unfold GoesE; kernel_rfl)
theorem d2_more (d : Bool) (a0 a1 a2 a3 a4 a5 a6 a7 a8 a11 a12 a14 a17 a18 : Value) (n1 n0 u q rh : Int) (g : Nat → Value) : GoesE (evC (tabOf Tryz.prog extY conZ true) 300 false (dL2 Tryz.f177) (dFr a0 a1 a2 a3 a4 a5 a6 a7 a8 (u_ n1) (u_ n0) a11 a12 a14 (u_ u) a17 (u_ rh) a18 (u_ q) ++ tl 116 g, ⟨0, []⟩, [cmp false, cmp true, cmp d]) ⟨[], [], []⟩) 19 116 (exO d 2)
    (dFr a0 a1 a2 a3 a4 a5 a6 a7 a8 (u_ n1) (u_ n0) a11 a12 a14 (u_ u) a17 (u_ (IntKind.u64.wrap (rh + n1))) a18 (u_ (IntKind.u64.wrap (q - 1)))) ⟨0, []⟩ [gM (IntKind.u64.wrap (rh + n1)) d, tooG q n0 rh u true, gM q false] := by cases d <;> (unfold GoesE; kernel_rfl)
theorem d2_out (a0 a1 a2 a3 a4 a5 a6 a7 a8 a11 a12 a14 a17 a18 : Value) (n1 n0 u q rh : Int) (g : Nat → Value) : GoesE (evC (tabOf Tryz.prog extY conZ true) 300 false (dL2 Tryz.f177) (dFr a0 a1 a2 a3 a4 a5 a6 a7 a8 (u_ n1) (u_ n0) a11 a12 a14 (u_ u) a17 (u_ rh) a18 (u_ q) ++ tl 116 g, ⟨0, []⟩, [cmp false, cmp false]) ⟨[], [], []⟩) 19 116 (some (some 2))
    (dFr a0 a1 a2 a3 a4 a5 a6 a7 a8 (u_ n1) (u_ n0) a11 a12 a14 (u_ u) a17 (u_ rh) a18 (u_ q)) ⟨0, []⟩ [tooG q n0 rh u false, gM q false] := by unfold GoesE; kernel_rfl
def mE (n u q y : Int) : Int := IntKind.u64.wrap (IntKind.u64.wrap (IntKind.u64.wrap (n * 4294967296) + u) - IntKind.u64.wrap (q * y))
theorem div_mid (a0 a1 a3 a4 a5 a6 a7 a8 a10 a12 a14 a16 a17 a18 : Value) (y n1 n u q p : Int) (g : Nat → Value) : GoesE (evL (tabOf Tryz.prog extY conZ true) 300 (dMid Tryz.f177) (dFr a0 a1 (u_ y) a3 a4 a5 a6 a7 a8 (u_ n1) a10 (u_ n) a12 (u_ u) a14 (u_ q) a16 a17 a18 ++ tl 116 g, ⟨0, []⟩, [num p]) ⟨[], [], []⟩) 19 116 none
    (dFr a0 a1 (u_ y) a3 a4 a5 a6 a7 a8 (u_ n1) a10 (u_ n) a12 (u_ u) a14 (u_ q) (u_ (rEW (mE n u q y) p n1)) (u_ (mE n u q y)) (u_ p)) ⟨0, []⟩ [(decide (n1 = 0), false), (decide (IntKind.u64.wrap ((mE n u q y).tdiv n1) = p), true)] := by unfold GoesE; kernel_rfl
theorem div_end (a0 a1 a3 a4 a5 a6 a7 a9 a10 a11 a12 a13 a16 : Value) (y u q m p : Int) (g : Nat → Value) : GoesE (evC (tabOf Tryz.prog extY conZ true) 300 false (dEnd Tryz.f177) (dFr a0 a1 (u_ y) a3 a4 a5 a6 a7 (u_ 0) a9 a10 a11 a12 a13 (u_ u) (u_ q) a16 (u_ m) (u_ p) ++ tl 116 g, ⟨0, []⟩, []) ⟨[], [], []⟩) 19 116 (some none)
    (dFr a0 a1 (u_ y) a3 a4 a5 (u_ (IntKind.u64.wrap (IntKind.u64.wrap (q * 4294967296) + p))) (u_ ((mE m u p y).fdiv (2 ^ min ((0 : Int).toNat) 64))) (u_ 0) a9 a10 a11 a12 a13 (u_ u) (u_ q) a16 (u_ m) (u_ p)) ⟨0, []⟩ [zf0] := by unfold GoesE; kernel_rfl
theorem div_zero (lo y : Int) : Fits (reckon (tabOf Tryz.prog extY conZ true) 500 177 [u_ 0, u_ lo, u_ y] [cmp false, cmp false, cmp true, num (lo / y), cmp true]) (.tuple #[u_ (lo / y), u_ (lo.tmod y)])
    [(decide (y = 0), false), (decide (y = 0), false), (decide (IntKind.u64.wrap (lo.tdiv y) = lo / y), true), ((0 : Int) == 0, true), (decide (y ≤ 0), false), (y == 0, false)] := ⟨by kernel_rfl, by kernel_rfl, by kernel_rfl, by kernel_rfl⟩
theorem dig_gt {M n1 n0 n u q rh : Int} (hD : 0 < n1 * M + n0) (e : n = q * n1 + rh) (h : q * n0 > M * rh + u) : (n * M + u) / (n1 * M + n0) < q := by
  refine Int.ediv_lt_of_lt_mul hD ?_
  rw [e, Int.add_mul, Int.mul_add, Int.mul_assoc, Int.mul_comm rh M]
  omega
theorem dig_le {M n1 n0 n u q rh : Int} (hD : 0 < n1 * M + n0) (e : n = q * n1 + rh) (h : q * n0 ≤ M * rh + u) : q ≤ (n * M + u) / (n1 * M + n0) := by
  refine Int.le_ediv_of_mul_le hD ?_
  rw [e, Int.add_mul, Int.mul_add, Int.mul_assoc, Int.mul_comm rh M]
  omega
/-- what holds of a digit's guess -/
structure Dig (n1 n0 n u q rh : Int) : Prop where
  hn1 : 2147483648 ≤ n1 ∧ n1 < 4294967296
  hn0 : 0 ≤ n0 ∧ n0 < 4294967296
  hn : 0 ≤ n ∧ n < n1 * 4294967296 + n0
  hu : 0 ≤ u ∧ u < 4294967296
  hrh : 0 ≤ rh ∧ rh < 4294967296
  he : n = q * n1 + rh
  hq : (n * 4294967296 + u) / (n1 * 4294967296 + n0) ≤ q
def dgt (n1 n0 n u : Int) : Int := (n * 4294967296 + u) / (n1 * 4294967296 + n0)
theorem Dig.range {n1 n0 n u q rh : Int} (D : Dig n1 n0 n u q rh) : 0 < n1 * 4294967296 + n0 ∧ 0 ≤ dgt n1 n0 n u ∧ dgt n1 n0 n u < 4294967296 ∧ dgt n1 n0 n u ≤ q ∧ q < 18446744073709551616 := by
  obtain ⟨a, b, c, d, e, f, g⟩ := D
  have hD : 0 < n1 * 4294967296 + n0 := by omega
  have h0 : 0 ≤ dgt n1 n0 n u := Int.ediv_nonneg (by omega) (by omega)
  refine ⟨hD, h0, Int.ediv_lt_of_lt_mul hD (by omega), g, ?_⟩
  have h1 : q * 1 ≤ q * n1 := Int.mul_le_mul_of_nonneg_left (by omega) (Int.le_trans h0 g)
  omega
theorem Dig.big {n1 n0 n u q rh : Int} (D : Dig n1 n0 n u q rh) (h : q ≥ 4294967296) : dgt n1 n0 n u < q := by have := D.range; omega
theorem Dig.mul {n1 n0 n u q rh : Int} (D : Dig n1 n0 n u q rh) (h : ¬ q ≥ 4294967296) : 0 ≤ q * n0 ∧ q * n0 < 18446744073709551616 := by
  have r := D.range
  have b0 := D.hn0
  refine ⟨Int.mul_nonneg (by omega) b0.1, ?_⟩
  have := Int.mul_le_mul (show q ≤ 4294967295 by omega) (show n0 ≤ 4294967295 by omega) b0.1 (by omega)
  omega
theorem Dig.too {n1 n0 n u q rh : Int} (D : Dig n1 n0 n u q rh) (h : ¬ q ≥ 4294967296) (d : Bool) : (tooG q n0 rh u d).1 = decide (q * n0 > 4294967296 * rh + u) := by
  have m := D.mul h
  have r := D.hrh
  have v := D.hu
  unfold tooG
  simp only [wrap_u64]
  rw [Int.emod_eq_of_lt m.1 m.2, Int.emod_eq_of_lt (a := 4294967296 * rh) (by omega) (by omega), Int.emod_eq_of_lt (by omega) (by omega)]
theorem Dig.next {n1 n0 n u q rh : Int} (D : Dig n1 n0 n u q rh) (h : dgt n1 n0 n u < q) : IntKind.u64.wrap (q - 1) = q - 1 ∧ IntKind.u64.wrap (rh + n1) = rh + n1 ∧ n = (q - 1) * n1 + (rh + n1) ∧ dgt n1 n0 n u ≤ q - 1 := by
  have r := D.range
  have a := D.hn1
  have b := D.hrh
  refine ⟨by rw [wrap_u64]; omega, by rw [wrap_u64]; omega, ?_, by omega⟩
  rw [Int.sub_mul, Int.one_mul]
  have := D.he
  omega
theorem Dig.stop {n1 n0 n u q rh : Int} (D : Dig n1 n0 n u q rh) (h : dgt n1 n0 n u < q) (hb : rh + n1 ≥ 4294967296) : q - 1 = dgt n1 n0 n u := by
  obtain ⟨_, _, e, l⟩ := D.next h
  have r := D.range
  have a := D.hn1
  have b := D.hn0
  have c := D.hn
  have lt : q - 1 < 4294967296 := by
    refine Int.lt_of_mul_lt_mul_right (a := n1) ?_ (by omega)
    rw [Int.mul_comm 4294967296 n1]
    generalize (q - 1) * n1 = t at *
    omega
  have m : (q - 1) * n0 ≤ 4294967295 * 4294967295 := Int.mul_le_mul (by omega) (by omega) b.1 (by omega)
  have := dig_le (q := q - 1) (rh := rh + n1) (u := u) r.1 e (by have := D.hu; omega)
  unfold dgt at *
  omega
theorem Dig.done {n1 n0 n u q rh : Int} (D : Dig n1 n0 n u q rh) (h : ¬ q * n0 > 4294967296 * rh + u) : q = dgt n1 n0 n u := by
  have r := D.range
  have := dig_le (u := u) r.1 D.he (by omega)
  unfold dgt at *
  omega
theorem gM_ok (q : Int) : (gM q (decide (q ≥ 4294967296))).1 = (gM q (decide (q ≥ 4294967296))).2 := rfl
theorem gM_t {q : Int} (h : q ≥ 4294967296) : (gM q true).1 = (gM q true).2 := decide_eq_true h
theorem gM_f {q : Int} (h : ¬ q ≥ 4294967296) : (gM q false).1 = (gM q false).2 := decide_eq_false h
theorem d1_loop (a0 a1 a2 a3 a4 a5 a6 a7 a8 a11 a12 a14 a17 a18 : Value) (n1 n0 n u q rh : Int) (D : Dig n1 n0 n u q rh) (g : Nat → Value) (s : List Dec) :
    Runs (tabOf Tryz.prog extY conZ true) (.block 0 (.loop (dL1 Tryz.f177))) (dFr a0 a1 a2 a3 a4 a5 a6 a7 a8 (u_ n1) (u_ n0) a11 a12 (u_ u) a14 (u_ q) (u_ rh) a17 a18 ++ tl 116 g, ⟨0, []⟩, s) fun e y => match e with
      | none => (∃ rh g, y.1 = dFr a0 a1 a2 a3 a4 a5 a6 a7 a8 (u_ n1) (u_ n0) a11 a12 (u_ u) a14 (u_ (dgt n1 n0 n u)) (u_ rh) a17 a18 ++ tl 116 g) ∧ y.2.1 = ⟨0, []⟩
      | some none => False
      | some (some _) => False := by
  refine Runs.forLoop (n := (q - dgt n1 n0 n u).toNat) (R := fun _ => False) (P := fun y => (∃ rh g, y.1 = dFr a0 a1 a2 a3 a4 a5 a6 a7 a8 (u_ n1) (u_ n0) a11 a12 (u_ u) a14 (u_ (dgt n1 n0 n u)) (u_ rh) a17 a18 ++ tl 116 g) ∧ y.2.1 = ⟨0, []⟩)
    (fun r y => ∃ (q rh : Int) (g : Nat → Value), Dig n1 n0 n u q rh ∧ (r : Int) = q - dgt n1 n0 n u ∧ y.1 = dFr a0 a1 a2 a3 a4 a5 a6 a7 a8 (u_ n1) (u_ n0) a11 a12 (u_ u) a14 (u_ q) (u_ rh) a17 a18 ++ tl 116 g ∧ y.2.1 = ⟨0, []⟩) ?_
    ⟨q, rh, g, D, by have := D.range; omega, rfl, rfl⟩
  clear D g s q rh
  rintro r ⟨t, h', s'⟩ ⟨q, rh, g, D, hr, ht, hh⟩
  simp only at ht hh
  subst ht hh
  have step : ∀ (d : Bool) (y : Lf), d = decide (IntKind.u64.wrap (rh + n1) ≥ 4294967296) → dgt n1 n0 n u < q → ∀ e, e = exO d 0 → (∃ g, y.1 = dFr a0 a1 a2 a3 a4 a5 a6 a7 a8 (u_ n1) (u_ n0) a11 a12 (u_ u) a14 (u_ (IntKind.u64.wrap (q - 1))) (u_ (IntKind.u64.wrap (rh + n1))) a17 a18 ++ tl 116 g) → y.2.1 = ⟨0, []⟩ →
      match e with
      | none => ∃ n', n' < r ∧ ∃ (q rh : Int) (g : Nat → Value), Dig n1 n0 n u q rh ∧ (n' : Int) = q - dgt n1 n0 n u ∧ y.1 = dFr a0 a1 a2 a3 a4 a5 a6 a7 a8 (u_ n1) (u_ n0) a11 a12 (u_ u) a14 (u_ q) (u_ rh) a17 a18 ++ tl 116 g ∧ y.2.1 = ⟨0, []⟩
      | some none => False
      | some (some id') => id' = 0 ∧ (∃ rh g, y.1 = dFr a0 a1 a2 a3 a4 a5 a6 a7 a8 (u_ n1) (u_ n0) a11 a12 (u_ u) a14 (u_ (dgt n1 n0 n u)) (u_ rh) a17 a18 ++ tl 116 g) ∧ y.2.1 = ⟨0, []⟩ := by
    rintro d y hd hq e rfl ⟨g', hy⟩ hh
    obtain ⟨w1, w2, w3, w4⟩ := D.next hq
    rw [w1, w2] at hy
    rw [w2] at hd
    by_cases hb : rh + n1 ≥ 4294967296
    · rw [decide_eq_true hb] at hd
      subst hd
      exact ⟨rfl, ⟨rh + n1, g', by rw [hy, D.stop hq hb]⟩, hh⟩
    · rw [decide_eq_false hb] at hd
      subst hd
      have a := D.hn1
      have b := D.hrh
      exact ⟨(q - 1 - dgt n1 n0 n u).toNat, by omega, q - 1, rh + n1, g', ⟨D.hn1, D.hn0, D.hn, D.hu, ⟨by omega, by omega⟩, w3, w4⟩, by omega, hy, hh⟩
  by_cases hb : q ≥ 4294967296
  · refine (goesT_runs (tabY_ok conZ_ok) (d1_big (decide (IntKind.u64.wrap (rh + n1) ≥ 4294967296)) a0 a1 a2 a3 a4 a5 a6 a7 a8 a11 a12 a14 a17 a18 n1 n0 u q rh g).t (okCons (gM_ok _) (okL1 (gM_t hb)))).mono fun e y he => ?_
    exact step _ y rfl (D.big hb) e he.1 he.2.1 he.2.2
  · by_cases hc : q * n0 > 4294967296 * rh + u
    · refine (goesT_runs (tabY_ok conZ_ok) (d1_more (decide (IntKind.u64.wrap (rh + n1) ≥ 4294967296)) a0 a1 a2 a3 a4 a5 a6 a7 a8 a11 a12 a14 a17 a18 n1 n0 u q rh g).t (okCons (gM_ok _) (okCons ((D.too hb true).trans (decide_eq_true hc)) (okL1 (gM_f hb))))).mono fun e y he => ?_
      exact step _ y rfl (dig_gt D.range.1 D.he hc) e he.1 he.2.1 he.2.2
    · refine (goesT_runs (tabY_ok conZ_ok) (d1_out a0 a1 a2 a3 a4 a5 a6 a7 a8 a11 a12 a14 a17 a18 n1 n0 u q rh g).t (okCons ((D.too hb false).trans (decide_eq_false hc)) (okL1 (gM_f hb)))).mono fun e y he => ?_
      obtain ⟨rfl, ⟨g', h2⟩, h3⟩ := he
      have e1 := D.done hc
      exact ⟨rfl, ⟨rh, g', by rw [h2, ← e1]⟩, h3⟩
theorem d2_loop (a0 a1 a2 a3 a4 a5 a6 a7 a8 a11 a12 a14 a17 a18 : Value) (n1 n0 n u q rh : Int) (D : Dig n1 n0 n u q rh) (g : Nat → Value) (s : List Dec) :
    Runs (tabOf Tryz.prog extY conZ true) (.block 2 (.loop (dL2 Tryz.f177))) (dFr a0 a1 a2 a3 a4 a5 a6 a7 a8 (u_ n1) (u_ n0) a11 a12 a14 (u_ u) a17 (u_ rh) a18 (u_ q) ++ tl 116 g, ⟨0, []⟩, s) fun e y => match e with
      | none => (∃ rh g, y.1 = dFr a0 a1 a2 a3 a4 a5 a6 a7 a8 (u_ n1) (u_ n0) a11 a12 a14 (u_ u) a17 (u_ rh) a18 (u_ (dgt n1 n0 n u)) ++ tl 116 g) ∧ y.2.1 = ⟨0, []⟩
      | some none => False
      | some (some _) => False := by
  refine Runs.forLoop (n := (q - dgt n1 n0 n u).toNat) (R := fun _ => False) (P := fun y => (∃ rh g, y.1 = dFr a0 a1 a2 a3 a4 a5 a6 a7 a8 (u_ n1) (u_ n0) a11 a12 a14 (u_ u) a17 (u_ rh) a18 (u_ (dgt n1 n0 n u)) ++ tl 116 g) ∧ y.2.1 = ⟨0, []⟩)
    (fun r y => ∃ (q rh : Int) (g : Nat → Value), Dig n1 n0 n u q rh ∧ (r : Int) = q - dgt n1 n0 n u ∧ y.1 = dFr a0 a1 a2 a3 a4 a5 a6 a7 a8 (u_ n1) (u_ n0) a11 a12 a14 (u_ u) a17 (u_ rh) a18 (u_ q) ++ tl 116 g ∧ y.2.1 = ⟨0, []⟩) ?_
    ⟨q, rh, g, D, by have := D.range; omega, rfl, rfl⟩
  clear D g s q rh
  rintro r ⟨t, h', s'⟩ ⟨q, rh, g, D, hr, ht, hh⟩
  simp only at ht hh
  subst ht hh
  have step : ∀ (d : Bool) (y : Lf), d = decide (IntKind.u64.wrap (rh + n1) ≥ 4294967296) → dgt n1 n0 n u < q → ∀ e, e = exO d 2 → (∃ g, y.1 = dFr a0 a1 a2 a3 a4 a5 a6 a7 a8 (u_ n1) (u_ n0) a11 a12 a14 (u_ u) a17 (u_ (IntKind.u64.wrap (rh + n1))) a18 (u_ (IntKind.u64.wrap (q - 1))) ++ tl 116 g) → y.2.1 = ⟨0, []⟩ →
      match e with
      | none => ∃ n', n' < r ∧ ∃ (q rh : Int) (g : Nat → Value), Dig n1 n0 n u q rh ∧ (n' : Int) = q - dgt n1 n0 n u ∧ y.1 = dFr a0 a1 a2 a3 a4 a5 a6 a7 a8 (u_ n1) (u_ n0) a11 a12 a14 (u_ u) a17 (u_ rh) a18 (u_ q) ++ tl 116 g ∧ y.2.1 = ⟨0, []⟩
      | some none => False
      | some (some id') => id' = 2 ∧ (∃ rh g, y.1 = dFr a0 a1 a2 a3 a4 a5 a6 a7 a8 (u_ n1) (u_ n0) a11 a12 a14 (u_ u) a17 (u_ rh) a18 (u_ (dgt n1 n0 n u)) ++ tl 116 g) ∧ y.2.1 = ⟨0, []⟩ := by
    rintro d y hd hq e rfl ⟨g', hy⟩ hh
    obtain ⟨w1, w2, w3, w4⟩ := D.next hq
    rw [w1, w2] at hy
    rw [w2] at hd
    by_cases hb : rh + n1 ≥ 4294967296
    · rw [decide_eq_true hb] at hd
      subst hd
      exact ⟨rfl, ⟨rh + n1, g', by rw [hy, D.stop hq hb]⟩, hh⟩
    · rw [decide_eq_false hb] at hd
      subst hd
      have a := D.hn1
      have b := D.hrh
      exact ⟨(q - 1 - dgt n1 n0 n u).toNat, by omega, q - 1, rh + n1, g', ⟨D.hn1, D.hn0, D.hn, D.hu, ⟨by omega, by omega⟩, w3, w4⟩, by omega, hy, hh⟩
  by_cases hb : q ≥ 4294967296
  · refine (goesT_runs (tabY_ok conZ_ok) (d2_big (decide (IntKind.u64.wrap (rh + n1) ≥ 4294967296)) a0 a1 a2 a3 a4 a5 a6 a7 a8 a11 a12 a14 a17 a18 n1 n0 u q rh g).t (okCons (gM_ok _) (okL1 (gM_t hb)))).mono fun e y he => ?_
    exact step _ y rfl (D.big hb) e he.1 he.2.1 he.2.2
  · by_cases hc : q * n0 > 4294967296 * rh + u
    · refine (goesT_runs (tabY_ok conZ_ok) (d2_more (decide (IntKind.u64.wrap (rh + n1) ≥ 4294967296)) a0 a1 a2 a3 a4 a5 a6 a7 a8 a11 a12 a14 a17 a18 n1 n0 u q rh g).t (okCons (gM_ok _) (okCons ((D.too hb true).trans (decide_eq_true hc)) (okL1 (gM_f hb))))).mono fun e y he => ?_
      exact step _ y rfl (dig_gt D.range.1 D.he hc) e he.1 he.2.1 he.2.2
    · refine (goesT_runs (tabY_ok conZ_ok) (d2_out a0 a1 a2 a3 a4 a5 a6 a7 a8 a11 a12 a14 a17 a18 n1 n0 u q rh g).t (okCons ((D.too hb false).trans (decide_eq_false hc)) (okL1 (gM_f hb)))).mono fun e y he => ?_
      obtain ⟨rfl, ⟨g', h2⟩, h3⟩ := he
      have e1 := D.done hc
      exact ⟨rfl, ⟨rh, g', by rw [h2, ← e1]⟩, h3⟩
theorem s0_eq {z : Int} (h : word z) : s0 z = z := by
  unfold s0
  rw [show (2 : Int) ^ min ((IntKind.u64.wrap 0).toNat) 64 = 1 from rfl, Int.mul_one]
  exact wrap_u64' h.1 h.2
theorem s64_eq {z : Int} (h : word z) : s64 z = 0 := by
  unfold s64
  rw [show (2 : Int) ^ min ((IntKind.u64.wrap (64 - IntKind.u64.wrap 0)).toNat) 64 = 18446744073709551616 from rfl, Int.fdiv_eq_ediv_of_nonneg _ (by omega)]
  exact Int.ediv_eq_zero_of_lt h.1 h.2
theorem oE_eq {hi lo : Int} (h : word hi) (hl : word lo) : oE hi lo = hi := by
  unfold oE orq
  rw [s0_eq h, s64_eq hl, show BitVec.ofInt 64 0 = 0#64 from rfl, BitVec.or_zero]
  have e1 : (BitVec.ofInt 64 hi).toNat = hi.toNat := by
    rw [BitVec.toNat_ofInt]
    unfold word at h
    omega
  rw [e1, wrap_u64]
  unfold word at h
  omega
theorem rE_eq {n d : Int} (h : 0 ≤ n ∧ n < 18446744073709551616) (hd : 0 < d) : rEW n (n / d) d = n % d ∧ n = n / d * d + n % d ∧ 0 ≤ n % d ∧ n % d < d := by
  have e := Int.mul_ediv_add_emod n d
  have m1 := Int.emod_nonneg n (show d ≠ 0 by omega)
  have m2 := Int.emod_lt_of_pos n hd
  rw [Int.mul_comm] at e
  have m3 : 0 ≤ n / d * d := Int.mul_nonneg (Int.ediv_nonneg h.1 (by omega)) (by omega)
  refine ⟨?_, by omega, m1, m2⟩
  unfold rEW
  rw [wrap_u64, wrap_u64]
  generalize n / d * d = t at *
  omega
theorem mE_eq {n u q y : Int} (h0 : 0 ≤ n * 4294967296 + u - q * y) (h1 : n * 4294967296 + u - q * y < 18446744073709551616) : mE n u q y = n * 4294967296 + u - q * y := by
  unfold mE
  simp only [wrap_u64]
  generalize q * y = t at *
  omega
theorem dgt_rest (n1 n0 n u : Int) (hD : 0 < n1 * 4294967296 + n0) : 0 ≤ n * 4294967296 + u - dgt n1 n0 n u * (n1 * 4294967296 + n0) ∧ n * 4294967296 + u - dgt n1 n0 n u * (n1 * 4294967296 + n0) < n1 * 4294967296 + n0 := by
  unfold dgt
  have e := Int.mul_ediv_add_emod (n * 4294967296 + u) (n1 * 4294967296 + n0)
  have m1 := Int.emod_nonneg (n * 4294967296 + u) (show n1 * 4294967296 + n0 ≠ 0 by omega)
  have m2 := Int.emod_lt_of_pos (n * 4294967296 + u) hD
  rw [Int.mul_comm] at e
  generalize (n * 4294967296 + u) / (n1 * 4294967296 + n0) * (n1 * 4294967296 + n0) = t at *
  omega
theorem dig_begin {n1 n0 n u : Int} (h1 : 2147483648 ≤ n1 ∧ n1 < 4294967296) (h0 : 0 ≤ n0 ∧ n0 < 4294967296) (hn : 0 ≤ n ∧ n < n1 * 4294967296 + n0) (hu : 0 ≤ u ∧ u < 4294967296) : Dig n1 n0 n u (n / n1) (rEW n (n / n1) n1) := by
  obtain ⟨e1, e2, e3, e4⟩ := rE_eq (n := n) (d := n1) ⟨hn.1, by omega⟩ (by omega)
  refine ⟨h1, h0, hn, hu, by rw [e1]; omega, by rw [e1]; exact e2, ?_⟩
  exact (guess_low (B := 4294967296) (by omega) (by omega) h0.1 hu.2 (Int.ediv_nonneg (by omega) (by omega)) (by omega)).1
theorem wrapq {n n1 : Int} (hn : 0 ≤ n ∧ n < 18446744073709551616) (h1 : 2147483648 ≤ n1) : (decide (IntKind.u64.wrap (n.tdiv n1) = n / n1), true).1 = (decide (IntKind.u64.wrap (n.tdiv n1) = n / n1), true).2 := by
  refine decide_eq_true ?_
  have a : 0 ≤ n / n1 := Int.ediv_nonneg hn.1 (by omega)
  have b : n / n1 ≤ n := Int.ediv_le_self _ hn.1
  rw [Int.tdiv_eq_ediv_of_nonneg hn.1, wrap_u64' a (by omega)]
def divV (hi lo y : Int) : Value := .tuple #[u_ ((hi * 18446744073709551616 + lo) / y), u_ ((hi * 18446744073709551616 + lo) % y)]
theorem div_calls (hi lo y : Int) (hh : word hi) (hl : word lo) (hy : 9223372036854775808 ≤ y ∧ y < 18446744073709551616) (hlt : hi < y) (w : World) : Calls Tryz.prog 177 #[u_ hi, u_ lo, u_ y] w fun e w' => e = .returned (divV hi lo y) ∧ Tidy w w' := by
  unfold word at hh hl
  by_cases hz : hi = 0
  · subst hz
    have h := fits_calls (tabY_ok conZ_ok) (div_zero lo y) (okCons (decide_eq_false (by omega : ¬ y = 0)) (okCons (decide_eq_false (by omega : ¬ y = 0)) (okCons (wrapq hl (by omega)) (okCons (by rfl) (okCons (decide_eq_false (by omega : ¬ y ≤ 0)) (okL1 (beq_eq_false_iff_ne.2 (by omega : y ≠ 0)))))))) (by rfl) (by rfl) w
    unfold divV
    rw [Int.zero_mul, Int.zero_add]
    rw [Int.tmod_eq_emod_of_nonneg hl.1] at h
    exact h
  · have wy : word y := ⟨by omega, hy.2⟩
    have ey := Int.mul_ediv_add_emod y 4294967296
    have el := Int.mul_ediv_add_emod lo 4294967296
    have b1 : 2147483648 ≤ y / 4294967296 ∧ y / 4294967296 < 4294967296 := by omega
    have b0 : 0 ≤ y % 4294967296 ∧ y % 4294967296 < 4294967296 := by omega
    have c1 : 0 ≤ lo / 4294967296 ∧ lo / 4294967296 < 4294967296 := by omega
    have c0 : 0 ≤ lo % 4294967296 ∧ lo % 4294967296 < 4294967296 := by omega
    have pre := div_pre hi lo y (hi / (y / 4294967296))
    rw [s0_eq wy, s0_eq hl, oE_eq hh hl, hi32_eq, hi32_eq, lo32_eq wy.1 wy.2, lo32_eq hl.1 hl.2] at pre
    have ey' : y = y / 4294967296 * 4294967296 + y % 4294967296 := by omega
    generalize y / 4294967296 = n1 at *
    generalize y % 4294967296 = n0 at *
    generalize lo / 4294967296 = u1 at *
    generalize lo % 4294967296 = u0 at *
    have D1 := dig_begin (n := hi) b1 b0 (by omega) c1
    have rg1 := D1.range
    have rs1 := dgt_rest n1 n0 hi u1 (by omega)
    have em : mE hi u1 (dgt n1 n0 hi u1) y = hi * 4294967296 + u1 - dgt n1 n0 hi u1 * y := mE_eq (by rw [ey']; omega) (by rw [ey']; omega)
    have rm : 0 ≤ mE hi u1 (dgt n1 n0 hi u1) y ∧ mE hi u1 (dgt n1 n0 hi u1) y < n1 * 4294967296 + n0 := by rw [em, ey']; exact rs1
    generalize hq1 : dgt n1 n0 hi u1 = q1 at *
    generalize hm : mE hi u1 q1 y = m at *
    have D2 := dig_begin (n := m) b1 b0 rm c0
    have rg2 := D2.range
    have rs2 := dgt_rest n1 n0 m u0 (by omega)
    have ee : mE m u0 (dgt n1 n0 m u0) y = m * 4294967296 + u0 - dgt n1 n0 m u0 * y := mE_eq (by rw [ey']; omega) (by rw [ey']; omega)
    refine calls_of_runs (T := (tabOf Tryz.prog extY conZ true)) Tryz.func177 div_body (vals := [u_ hi, u_ lo, u_ y]) (by rfl) (by rfl) (goesT_list (tabY_ok conZ_ok) pre.t
      (okCons (decide_eq_false (by omega : ¬ n1 = 0)) (okCons (wrapq hh b1.1) (okCons l32_ok (okCons l32_ok (okCons l32_ok (okCons l32_ok (okCons l32_ok (okCons l32_ok (okCons (decide_eq_true hy) (okCons (beq_eq_false_iff_ne.2 hz) (okCons (decide_eq_false (by omega : ¬ y ≤ hi)) (okL1 (beq_eq_false_iff_ne.2 (by omega : y ≠ 0))))))))))))))
      fun g => ?_) w
    refine Runs.seq (P1 := fun e z => e = none ∧ (∃ rh g, z.1 = dFr (u_ hi) (u_ lo) (u_ y) undef undef undef (u_ 0) (u_ 0) (u_ 0) (u_ n1) (u_ n0) (u_ hi) (u_ lo) (u_ u1) (u_ u0) (u_ q1) (u_ rh) undef undef ++ tl 116 g) ∧ z.2.1 = ⟨0, []⟩) ?_ ?_ (fun e z he => by cases he.1)
    · refine (d1_loop (u_ hi) (u_ lo) (u_ y) undef undef undef (u_ 0) (u_ 0) (u_ 0) (u_ hi) (u_ lo) (u_ u0) undef undef n1 n0 hi u1 _ _ D1 g []).mono fun e z he => ?_
      rw [hq1] at he
      match e, he with
      | none, he => exact ⟨rfl, he⟩
    rintro ⟨t, h', s⟩ ⟨_, ⟨rh, g1, ht⟩, hh'⟩
    simp only at ht hh'
    subst ht hh'
    have mid := div_mid (u_ hi) (u_ lo) undef undef undef (u_ 0) (u_ 0) (u_ 0) (u_ n0) (u_ lo) (u_ u0) (u_ rh) undef undef y n1 hi u1 q1 (m / n1) g1
    rw [hm] at mid
    refine goesT_list (tabY_ok conZ_ok) mid.t (okCons (decide_eq_false (by omega : ¬ n1 = 0)) (okL1 (wrapq (n := m) (by omega) b1.1))) fun g2 => ?_
    refine Runs.seq (P1 := fun e z => e = none ∧ (∃ rh g, z.1 = dFr (u_ hi) (u_ lo) (u_ y) undef undef undef (u_ 0) (u_ 0) (u_ 0) (u_ n1) (u_ n0) (u_ hi) (u_ lo) (u_ u1) (u_ u0) (u_ q1) (u_ rh) (u_ m) (u_ (dgt n1 n0 m u0)) ++ tl 116 g) ∧ z.2.1 = ⟨0, []⟩) ?_ ?_ (fun e z he => by cases he.1)
    · refine (d2_loop (u_ hi) (u_ lo) (u_ y) undef undef undef (u_ 0) (u_ 0) (u_ 0) (u_ hi) (u_ lo) (u_ u1) (u_ q1) (u_ m) n1 n0 m u0 _ _ D2 g2 []).mono fun e z he => ?_
      match e, he with
      | none, he => exact ⟨rfl, he⟩
    rintro ⟨t, h', s⟩ ⟨_, ⟨rh2, g3, ht⟩, hh'⟩
    simp only at ht hh'
    subst ht hh'
    generalize hq0 : dgt n1 n0 m u0 = q0 at *
    refine (goesT_runs (tabY_ok conZ_ok) (div_end (u_ hi) (u_ lo) undef undef undef (u_ 0) (u_ 0) (u_ n1) (u_ n0) (u_ hi) (u_ lo) (u_ u1) (u_ rh2) y u0 q1 m q0 g3).t (okL1 (by rfl))).mono fun e z he => ?_
    obtain ⟨rfl, ⟨g4, h2⟩, h3⟩ := he
    refine ⟨.inr rfl, ?_⟩
    have eq : IntKind.u64.wrap (IntKind.u64.wrap (q1 * 4294967296) + q0) = q1 * 4294967296 + q0 := by rw [wrap_u64, wrap_u64]; omega
    have er : (mE m u0 q0 y).fdiv (2 ^ min ((0 : Int).toNat) 64) = m * 4294967296 + u0 - q0 * y := by
      rw [show (2 : Int) ^ min ((0 : Int).toNat) 64 = 1 from rfl, Int.fdiv_one, ee]
    have key : hi * 18446744073709551616 + lo = y * (q1 * 4294967296 + q0) + (m * 4294967296 + u0 - q0 * y) := by
      have k1 : y * (q1 * 4294967296 + q0) = 4294967296 * (q1 * y) + q0 * y := by
        rw [Int.mul_add, Int.mul_comm y q0, Int.mul_comm y, Int.mul_assoc, Int.mul_comm 4294967296 y, ← Int.mul_assoc, Int.mul_comm (q1 * y)]
      rw [k1]
      generalize q1 * y = t1 at em ⊢
      generalize q0 * y = t0
      omega
    have ry : 0 ≤ m * 4294967296 + u0 - q0 * y ∧ m * 4294967296 + u0 - q0 * y < y := by
      rw [← ey'] at rs2
      exact rs2
    have fq : (hi * 18446744073709551616 + lo) / y = q1 * 4294967296 + q0 := ediv_of key ry.1 ry.2
    have fr : (hi * 18446744073709551616 + lo) % y = m * 4294967296 + u0 - q0 * y := by
      rw [key, Int.mul_add_emod_self_left, Int.emod_eq_of_lt ry.1 ry.2]
    unfold divV
    rw [h2, h3, eq, er, fq, fr]
    rfl
def norm3 (h l b : Int) : Bool × Bool := (decide (word h ∧ word l ∧ 9223372036854775808 ≤ b ∧ b < 18446744073709551616 ∧ h < b), true)
def gDiv : Ans := fun vals s =>
  match vals with
  | [x, y, z] =>
    match u1m x, u1m y, u1m z with
    | some h, some l, some b => some (divV h l b, s, [norm3 h l b])
    | _, _, _ => none
  | _ => none
theorem gDiv_ok : AnsOk 177 gDiv := by
  intro vals s v s' lg h hl w
  unfold gDiv at h
  split at h
  · split at h
    · rename_i x y z hx hy hz
      cases h
      have h1 := hl _ (List.mem_singleton.2 rfl)
      simp only [norm3, decide_eq_true_eq] at h1
      rw [u1m_spec hx, u1m_spec hy, u1m_spec hz]
      exact div_calls _ _ _ h1.1 h1.2.1 ⟨h1.2.2.1, h1.2.2.2.1⟩ h1.2.2.2.2 w
    · cases h
  · cases h
def conDv : Con := alt 177 gDiv conN
theorem conDv_ok : ConOk conDv := alt_ok Tryz.func177 rfl gDiv_ok conN_ok
theorem guess_top (h l b : Int) : Fits (reckon (tabOf Tryz.prog extY conDv true) 300 174 [u_ h, u_ l, u_ b] [cmp true]) (u_ 18446744073709551615) [(decide (h ≥ b), true)] := ⟨by kernel_rfl, by kernel_rfl, by kernel_rfl, by kernel_rfl⟩
theorem guess_quo (h l b : Int) : Fits (reckon (tabOf Tryz.prog extY conDv true) 300 174 [u_ h, u_ l, u_ b] [cmp false]) (u_ ((h * 18446744073709551616 + l) / b)) [norm3 h l b, (decide (h ≥ b), false)] := ⟨by kernel_rfl, by kernel_rfl, by kernel_rfl, by kernel_rfl⟩
def gs (h l b : Int) : Int := if h ≥ b then 18446744073709551615 else (h * 18446744073709551616 + l) / b
def gok (h l b : Int) : Bool × Bool := (decide (word h ∧ word l ∧ 9223372036854775808 ≤ b ∧ b < 18446744073709551616), true)
theorem guess_calls (h l b : Int) (hh : word h) (hl : word l) (hb : 9223372036854775808 ≤ b ∧ b < 18446744073709551616) (w : World) : Calls Tryz.prog 174 #[u_ h, u_ l, u_ b] w fun e w' => e = .returned (u_ (gs h l b)) ∧ Tidy w w' := by
  unfold gs
  by_cases hc : h ≥ b
  · rw [if_pos hc]
    exact fits_calls (tabY_ok conDv_ok) (guess_top h l b) (okL1 (decide_eq_true hc)) (by rfl) (by rfl) w
  · rw [if_neg hc]
    exact fits_calls (tabY_ok conDv_ok) (guess_quo h l b) (okCons (decide_eq_true ⟨hh, hl, hb.1, hb.2, by omega⟩) (okL1 (decide_eq_false hc))) (by rfl) (by rfl) w
def gGuess : Ans := fun vals s =>
  match vals with
  | [x, y, z] =>
    match u1m x, u1m y, u1m z with
    | some h, some l, some b => some (u_ (gs h l b), s, [gok h l b])
    | _, _, _ => none
  | _ => none
theorem gGuess_ok : AnsOk 174 gGuess := by
  intro vals s v s' lg h hl w
  unfold gGuess at h
  split at h
  · split at h
    · rename_i x y z hx hy hz
      cases h
      have h1 := hl _ (List.mem_singleton.2 rfl)
      simp only [gok, decide_eq_true_eq] at h1
      rw [u1m_spec hx, u1m_spec hy, u1m_spec hz]
      exact guess_calls _ _ _ h1.1 h1.2.1 h1.2.2 w
    · cases h
  · cases h
def conQW : Con := alt 174 gGuess (alt 159 gMA (alt 140 (g1 lenV4) (alt 141 (g1n (plain1n shlV4)) (alt 142 (g1n (plain1n shrV4)) conN))))
theorem conQ_okW : ConOk conQW := alt_ok Tryz.func174 rfl gGuess_ok (alt_ok Tryz.func159 rfl gMA_ok (alt_ok Tryz.func140 rfl (g1_ok wlen_calls) (alt_ok Tryz.func141 rfl (plain1n_ok shl_calls) (alt_ok Tryz.func142 rfl (plain1n_ok shr_calls) conN_ok))))
def eN (F : Func) : Nat → Code
  | 0 => cBody F
  | n + 1 => cSnd (eN F n)
def qPre (F : Func) : List Code := (List.range 8).map fun i => cFst (eN F i)
def qRW (F : Func) : Code := cFst (cFst (eN F 8))
def qLoop (F : Func) : Code := cIn (cIn (cSnd (cFst (eN F 8))))
def qEnd (F : Func) : Code := eN F 9
theorem quo_body : Tryz.f172.body = some (seqs (qPre Tryz.f172) (.seq (.seq (qRW Tryz.f172) (.block 0 (.loop (qLoop Tryz.f172)))) (qEnd Tryz.f172))) := by kernel_rfl
def t_ (n : Nat) : Value := .pointer (some ⟨n, 0, none⟩)
def vQ (l : List Int) : List Value := l.map (Value.int .u64)
def qFr (v0 v1 : Value) (n up i : Int) (v14 v15 : Value) : List Value := [v0, v1, t_ 0, t_ 1, t_ 2, t_ 3, .nilIface, .int .i64 n, .int .i64 up, t_ 4, t_ 5, t_ 6, t_ 7, .int .i64 i, v14, v15]
def cW (x : W4) : List Value × TypeId := ([.int .u64 x.a, .int .u64 x.b, .int .u64 x.c, .int .u64 x.d], 159)
def qHp (a b lw : W4) (by_ rest quo : List Int) : Hp := ⟨8, [(vQ quo, 159), (vQ rest, 222), cW lw, (vQ by_, 159), cW ⟨0, 0, 0, 0⟩, cW ⟨0, 0, 0, 0⟩, cW b, cW a]⟩
def offL (q : Int) : List Int → List Int → Int → Int → List Int
  | y :: ys, p :: ps, c, b => Go.Wd.sb p (lo y q 0 c) b :: offL q ys ps (hi y q 0 c) (bo p (lo y q 0 c) b)
  | [], p :: _, c, b => [Go.Wd.sb p c b]
  | _, [], _, _ => []
def offB (q : Int) : List Int → List Int → Int → Int → Int
  | y :: ys, p :: ps, c, b => offB q ys ps (hi y q 0 c) (bo p (lo y q 0 c) b)
  | [], p :: _, c, b => bo p c b
  | _, [], _, _ => 0
def offG (q : Int) : List Int → List Int → Int → Int → Log → Log
  | y :: ys, p :: ps, c, b, L => offG q ys ps (hi y q 0 c) (bo p (lo y q 0 c) b) (okS p (lo y q 0 c) b :: wl y q 0 c :: yes :: L)
  | [], p :: _, c, b, L => okS p c b :: no :: L
  | _, [], _, _, L => L
def putL_ : List Int → List Int → Int → List Int
  | y :: ys, p :: ps, c => ad p y c :: putL_ ys ps (ca p y c)
  | [], p :: _, c => [ad p 0 c]
  | _, [], _ => []
def putC : List Int → List Int → Int → Int
  | y :: ys, p :: ps, c => putC ys ps (ca p y c)
  | [], p :: _, c => ca p 0 c
  | _, [], _ => 0
def putG : List Int → List Int → Int → Log → Log
  | y :: ys, p :: ps, c, L => putG ys ps (ca p y c) (okA p y c :: yes :: L)
  | [], p :: _, c, L => okA p 0 c :: no :: L
  | _, [], _, L => L
def gsL (n : Nat) (ys ps : List Int) : Int := gs (ps.getD n 0) (ps.getD (n - 1) 0) (ys.getD (n - 1) 0)
def gokL (n : Nat) (ys ps : List Int) : Bool × Bool := gok (ps.getD n 0) (ps.getD (n - 1) 0) (ys.getD (n - 1) 0)
def ps0 (n : Nat) (ys ps : List Int) : List Int := offL (gsL n ys ps) ys ps 0 0
def ps1 (n : Nat) (ys ps : List Int) : List Int := putL_ ys (ps0 n ys ps) 0
def ps2 (n : Nat) (ys ps : List Int) : List Int := putL_ ys (ps1 n ys ps) 0
def tkO (n : Nat) : Nat → List Int → List Int → List Int
  | 0, ys, ps => ps0 n ys ps
  | 1, ys, ps => ps1 n ys ps
  | _, ys, ps => ps2 n ys ps
def tkD (n : Nat) : Nat → List Int → List Int → Int
  | 0, ys, ps => gsL n ys ps
  | 1, ys, ps => IntKind.u64.wrap (gsL n ys ps - 1)
  | _, ys, ps => IntKind.u64.wrap (IntKind.u64.wrap (gsL n ys ps - 1) - 1)
def tkG (n : Nat) : Nat → List Int → List Int → Log
  | 0, ys, ps => (offB (gsL n ys ps) ys ps 0 0 != 0, false) :: offG (gsL n ys ps) ys ps 0 0 [gokL n ys ps, yes]
  | 1, ys, ps => (putC ys (ps0 n ys ps) 0 != 0, true) :: putG ys (ps0 n ys ps) 0 ((offB (gsL n ys ps) ys ps 0 0 != 0, true) :: offG (gsL n ys ps) ys ps 0 0 [gokL n ys ps, yes])
  | _, ys, ps => (putC ys (ps1 n ys ps) 0 != 0, true) :: putG ys (ps1 n ys ps) 0 ((putC ys (ps0 n ys ps) 0 != 0, false) :: putG ys (ps0 n ys ps) 0 ((offB (gsL n ys ps) ys ps 0 0 != 0, true) :: offG (gsL n ys ps) ys ps 0 0 [gokL n ys ps, yes]))
def rng : Nat → List Dec → List Dec
  | 0, s => cmp false :: s
  | n + 1, s => cmp true :: rng n s
def tkS (n : Nat) : Nat → List Dec
  | 0 => cmp true :: rng n [cmp false]
  | 1 => cmp true :: rng n (cmp true :: rng n [cmp true])
  | _ => cmp true :: rng n (cmp true :: rng n (cmp false :: rng n [cmp true]))
def Rd (T : Tab) (F : Func) (n i c : Nat) (v0 v1 v14 v15 : Value) (up d0 d1 d2 d3 r0 r1 r2 r3 r4 q0 q1 q2 q3 : Int) (a b lw : W4) (g : Nat → Value) : Prop :=
  GoesT (evC T 500 false (qLoop F) (qFr v0 v1 n up i v14 v15 ++ tl 70 g, qHp a b lw [d0, d1, d2, d3] [r0, r1, r2, r3, r4] [q0, q1, q2, q3], tkS n c) ⟨[], [], []⟩) 16 70 none
    (qFr v0 v1 n up (IntKind.i64.wrap ((i : Int) - 1)) v14 v15)
    (qHp a b lw [d0, d1, d2, d3] ([r0, r1, r2, r3, r4].take i ++ (tkO n c ([d0, d1, d2, d3].take n) (([r0, r1, r2, r3, r4].drop i).take (n + 1)) ++ [r0, r1, r2, r3, r4].drop (i + n + 1))) ([q0, q1, q2, q3].set i (tkD n c ([d0, d1, d2, d3].take n) (([r0, r1, r2, r3, r4].drop i).take (n + 1)))))
    (tkG n c ([d0, d1, d2, d3].take n) (([r0, r1, r2, r3, r4].drop i).take (n + 1)))
theorem vB_append : ∀ (l m : List Int), vB (l ++ m) = vB l + 18446744073709551616 ^ l.length * vB m
  | [], m => by simp [vB]
  | d :: ds, m => by
    simp only [List.cons_append, vB, List.length_cons, Int.pow_succ]
    rw [vB_append ds m, Int.mul_add, Int.mul_comm (18446744073709551616 ^ ds.length) 18446744073709551616, Int.mul_assoc]
    omega
theorem vB_bd : ∀ (l : List Int), words l → 0 ≤ vB l ∧ vB l < 18446744073709551616 ^ l.length
  | [], _ => by simp [vB]
  | d :: ds, h => by
    have h1 := vB_bd ds fun x hx => h x (List.mem_cons_of_mem _ hx)
    have h2 := h d List.mem_cons_self
    unfold word at h2
    simp only [vB, List.length_cons, Int.pow_succ]
    rw [Int.mul_comm (18446744073709551616 ^ ds.length)]
    omega
theorem sb_spec {x y c : Int} (hx : word x) (hy : word y) (hc : 0 ≤ c ∧ c ≤ 1) : word (Go.Wd.sb x y c) ∧ (bo x y c = 0 ∨ bo x y c = 1) ∧ Go.Wd.sb x y c = x - y - c + 18446744073709551616 * bo x y c := by
  unfold word Go.Wd.sb at *
  have := bo_spec x y c
  generalize bo x y c = k at *
  omega
theorem ad_spec {x y c : Int} (hx : word x) (hy : word y) (hc : 0 ≤ c ∧ c ≤ 1) : word (ad x y c) ∧ (ca x y c = 0 ∨ ca x y c = 1) ∧ ad x y c + 18446744073709551616 * ca x y c = x + y + c := by
  unfold word ad ca at *
  omega
theorem off_spec {q : Int} (hq : word q) : ∀ (ys ps : List Int) (c b : Int) (L : Log), words ys → words ps → ps.length = ys.length + 1 → word c → (0 ≤ b ∧ b ≤ 1) → okLog L →
    words (offL q ys ps c b) ∧ (offL q ys ps c b).length = ps.length ∧ (offB q ys ps c b = 0 ∨ offB q ys ps c b = 1) ∧ okLog (offG q ys ps c b L) ∧
      vB (offL q ys ps c b) = vB ps - vB ys * q - c - b + 18446744073709551616 ^ ps.length * offB q ys ps c b
  | [], [p], c, b, L, _, hp, _, hc, hb, hL => by
    have p1 := hp p List.mem_cons_self
    obtain ⟨e1, e2, e3⟩ := sb_spec p1 hc hb
    refine ⟨fun d hd => ?_, rfl, e2, okCons (decide_eq_true ⟨p1.1, hc.1, hc.2, hb.1, hb.2⟩) (okCons no_ok hL), ?_⟩
    · simp only [offL, List.mem_singleton] at hd
      rw [hd]; exact e1
    · simp only [offL, offB, vB, List.length_cons, List.length_nil]
      rw [e3]
      omega
  | y :: ys, p :: ps, c, b, L, hy, hp, hl, hc, hb, hL => by
    have y1 := hy y List.mem_cons_self
    have p1 := hp p List.mem_cons_self
    have w0 : word 0 := by unfold word; omega
    obtain ⟨l1, l2, l3⟩ := lohi y1 hq w0 hc
    obtain ⟨e1, e2, e3⟩ := sb_spec p1 l1 hb
    simp only [List.length_cons, Nat.add_right_cancel_iff] at hl
    obtain ⟨g1, g2, g3, g4, g5⟩ := off_spec hq ys ps (hi y q 0 c) (bo p (lo y q 0 c) b) (okS p (lo y q 0 c) b :: wl y q 0 c :: yes :: L) (fun x hx => hy x (List.mem_cons_of_mem _ hx)) (fun x hx => hp x (List.mem_cons_of_mem _ hx)) hl l2 (by omega)
      (okCons (decide_eq_true ⟨p1.1, l1.1, l1.2, hb.1, hb.2⟩) (okCons (decide_eq_true ⟨y1, hq, w0, hc⟩) (okCons yes_ok hL)))
    refine ⟨fun d hd => ?_, by simp only [offL, List.length_cons, g2], g3, g4, ?_⟩
    · simp only [offL] at hd
      rcases List.mem_cons.1 hd with rfl | hd
      · exact e1
      · exact g1 d hd
    · simp only [offL, offB, vB, List.length_cons, Int.pow_succ]
      rw [g5, e3, Int.mul_comm (18446744073709551616 ^ ps.length) 18446744073709551616, Int.mul_assoc, Int.add_mul, Int.mul_assoc]
      generalize 18446744073709551616 ^ ps.length * offB q ys ps (hi y q 0 c) (bo p (lo y q 0 c) b) = t at *
      generalize vB ys * q = v at *
      generalize y * q = z at *
      omega
  | [], [], _, _, _, _, _, hl, _, _, _ => by simp at hl
  | _ :: _, [], _, _, _, _, _, hl, _, _, _ => by simp at hl
  | [], _ :: _ :: _, _, _, _, _, _, hl, _, _, _ => by simp at hl
theorem put_spec : ∀ (ys ps : List Int) (c : Int) (L : Log), words ys → words ps → ps.length = ys.length + 1 → (0 ≤ c ∧ c ≤ 1) → okLog L →
    words (putL_ ys ps c) ∧ (putL_ ys ps c).length = ps.length ∧ (putC ys ps c = 0 ∨ putC ys ps c = 1) ∧ okLog (putG ys ps c L) ∧
      vB (putL_ ys ps c) + 18446744073709551616 ^ ps.length * putC ys ps c = vB ps + vB ys + c
  | [], [p], c, L, _, hp, _, hc, hL => by
    have p1 := hp p List.mem_cons_self
    have w0 : word 0 := by unfold word; omega
    obtain ⟨e1, e2, e3⟩ := ad_spec p1 w0 hc
    refine ⟨fun d hd => ?_, rfl, e2, okCons (decide_eq_true ⟨p1.1, by omega, hc.1, hc.2⟩) (okCons no_ok hL), ?_⟩
    · simp only [putL_, List.mem_singleton] at hd
      rw [hd]; exact e1
    · simp only [putL_, putC, vB, List.length_cons, List.length_nil]
      omega
  | y :: ys, p :: ps, c, L, hy, hp, hl, hc, hL => by
    have y1 := hy y List.mem_cons_self
    have p1 := hp p List.mem_cons_self
    obtain ⟨e1, e2, e3⟩ := ad_spec p1 y1 hc
    simp only [List.length_cons, Nat.add_right_cancel_iff] at hl
    obtain ⟨g1, g2, g3, g4, g5⟩ := put_spec ys ps (ca p y c) (okA p y c :: yes :: L) (fun x hx => hy x (List.mem_cons_of_mem _ hx)) (fun x hx => hp x (List.mem_cons_of_mem _ hx)) hl (by omega)
      (okCons (decide_eq_true ⟨p1.1, y1.1, hc.1, hc.2⟩) (okCons yes_ok hL))
    refine ⟨fun d hd => ?_, by simp only [putL_, List.length_cons, g2], g3, g4, ?_⟩
    · simp only [putL_] at hd
      rcases List.mem_cons.1 hd with rfl | hd
      · exact e1
      · exact g1 d hd
    · simp only [putL_, putC, vB, List.length_cons, Int.pow_succ]
      rw [Int.mul_comm (18446744073709551616 ^ ps.length) 18446744073709551616, Int.mul_assoc]
      generalize 18446744073709551616 ^ ps.length * putC ys ps (ca p y c) = t at *
      omega
  | [], [], _, _, _, _, hl, _, _ => by simp at hl
  | _ :: _, [], _, _, _, _, hl, _, _ => by simp at hl
  | [], _ :: _ :: _, _, _, _, _, hl, _, _ => by simp at hl
end Go.Proofs.YtjkgnbdeklploaaGreatDoor
