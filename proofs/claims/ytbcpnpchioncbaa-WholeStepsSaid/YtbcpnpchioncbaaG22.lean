/-
  PLAIN ARITHMETIC: a digit of a quotient, guessed by the highest words alone, is never too small, and too great by 2 at most. No program is named here.
-/
import Derived.Test.YtbcpnpchioncbaaG07
import Derived.Test.YtbcpnpchioncbaaG20
import Derived.Test.YtbcpnpchioncbaaG21
namespace Go.Wd

/-- B: the base; D = dt R + d0 the divisor, dt its highest word; P = N R + p0 what is divided, N its two highest words -/
theorem guess_low {B R dt d0 N p0 : Int} (hR : 0 < R) (hd : 0 < dt) (h0 : 0 ≤ d0) (hp : p0 < R) (hq0 : 0 ≤ (N * R + p0) / (dt * R + d0)) (hP : N * R + p0 < B * (dt * R + d0)) :
    (N * R + p0) / (dt * R + d0) ≤ N / dt ∧ (N * R + p0) / (dt * R + d0) ≤ B - 1 := by
  have hD : 0 < dt * R + d0 := by have := Int.mul_pos hd hR; omega
  have e := Int.mul_ediv_add_emod (N * R + p0) (dt * R + d0)
  have m := Int.emod_nonneg (N * R + p0) (show dt * R + d0 ≠ 0 by omega)
  generalize hq : (N * R + p0) / (dt * R + d0) = q at *
  refine ⟨?_, ?_⟩
  · refine Int.le_ediv_of_mul_le hd ?_
    have h1 : q * dt * R ≤ N * R + p0 := by
      have : (dt * R + d0) * q = q * dt * R + d0 * q := by rw [Int.add_mul, Int.mul_right_comm, Int.mul_comm dt q]
      have h2 : 0 ≤ d0 * q := Int.mul_nonneg h0 hq0
      omega
    have h3 : q * dt * R < (N + 1) * R := by rw [Int.add_mul]; omega
    have := Int.lt_of_mul_lt_mul_right h3 (Int.le_of_lt hR)
    omega
  · have h1 : q * (dt * R + d0) < B * (dt * R + d0) := by rw [Int.mul_comm q]; omega
    have := Int.lt_of_mul_lt_mul_right h1 (Int.le_of_lt hD)
    omega
theorem guess_high {B R dt d0 N p0 g : Int} (hR : 0 < R) (hd : 0 < dt) (hB : B ≤ 2 * dt) (h1 : d0 < R) (hp0 : 0 ≤ p0) (hP : N * R + p0 < B * (dt * R + d0)) (h0 : 0 ≤ d0) (hg : g ≤ N / dt) :
    g ≤ (N * R + p0) / (dt * R + d0) + 2 := by
  have hD : 0 < dt * R + d0 := by have := Int.mul_pos hd hR; omega
  have e := Int.lt_mul_ediv_self_add hD (x := N * R + p0)
  have hqB : (N * R + p0) / (dt * R + d0) < B := Int.ediv_lt_of_lt_mul hD hP
  generalize (N * R + p0) / (dt * R + d0) = q at *
  have a1 : g * dt ≤ N := Int.le_trans (Int.mul_le_mul_of_nonneg_right hg (Int.le_of_lt hd)) (Int.ediv_mul_le N (by omega))
  have a2 : g * dt * R ≤ N * R := Int.mul_le_mul_of_nonneg_right a1 (Int.le_of_lt hR)
  rcases Int.lt_or_le g (q + 3) with hc | hc
  · omega
  · exfalso
    by_cases hq : 0 ≤ q + 1
    · have a3 : (dt * R + d0) * (q + 1) ≤ (dt * R + R) * (q + 1) := Int.mul_le_mul_of_nonneg_right (by omega) hq
      have a4 : (dt * R + d0) * q + (dt * R + d0) = (dt * R + d0) * (q + 1) := by rw [Int.mul_add, Int.mul_one]
      have a5 : (dt * R + R) * (q + 1) = (dt + 1) * (q + 1) * R := by rw [show dt * R + R = (dt + 1) * R from by rw [Int.add_mul, Int.one_mul], Int.mul_right_comm]
      have a6 : g * dt * R < (dt + 1) * (q + 1) * R := by omega
      have a7 := Int.lt_of_mul_lt_mul_right a6 (Int.le_of_lt hR)
      have a8 : (q + 3) * dt ≤ g * dt := Int.mul_le_mul_of_nonneg_right hc (Int.le_of_lt hd)
      have a9 : (q + 3) * dt = q * dt + 3 * dt := Int.add_mul ..
      have b1 : (dt + 1) * (q + 1) = q * dt + dt + q + 1 := by rw [Int.add_mul, Int.mul_add, Int.mul_comm dt q]; omega
      omega
    · have c1 : g * dt * R + p0 < (dt * R + d0) * (q + 1) := by
        have a4 : (dt * R + d0) * q + (dt * R + d0) = (dt * R + d0) * (q + 1) := by rw [Int.mul_add, Int.mul_one]
        omega
      have c2 : (q + 3) * dt ≤ g * dt := Int.mul_le_mul_of_nonneg_right hc (Int.le_of_lt hd)
      have c3 : (q + 3) * dt * R ≤ g * dt * R := Int.mul_le_mul_of_nonneg_right c2 (Int.le_of_lt hR)
      have c4 : (dt * R + d0) * (q + 1) ≤ dt * R * (q + 1) := by
        rw [Int.add_mul]
        have : d0 * (q + 1) ≤ 0 := Int.mul_nonpos_of_nonneg_of_nonpos h0 (by omega)
        omega
      have c5 : (q + 3) * dt * R = dt * R * (q + 1) + 2 * (dt * R) := by
        rw [Int.mul_assoc, Int.mul_comm (q + 3), show q + 3 = (q + 1) + 2 from by omega, Int.mul_add, Int.mul_comm (dt * R) 2]
      have c6 := Int.mul_pos hd hR
      omega
end Go.Wd

/-
  bits.Div64, of a divisor whose highest bit is set, as a call, I: piece by piece.
-/
namespace Go.Proofs.Ytbcpnpchioncbaa
open Go.KRun Go.Wd
set_option maxRecDepth 100000

def lz0 (y : Int) : Bool × Bool := (decide (9223372036854775808 ≤ y ∧ y < 18446744073709551616), true)
theorem lz_fits (y : Int) : Fits (reckon (tabOf Try.prog extY conL true) 3000 87 [u_ y] []) (.int .i64 (IntKind.i64.wrap (64 - (bitLen y.toNat : Nat)))) [wd y] := ⟨by kernel_rfl, by kernel_rfl, by kernel_rfl, by kernel_rfl⟩
theorem lz_calls (y : Int) (h0 : 9223372036854775808 ≤ y) (h1 : y < 18446744073709551616) (w : World) : Calls Try.prog 87 #[u_ y] w fun e w' => e = .returned (.int .i64 0) ∧ Tidy w w' := by
  have h := fits_calls (tabY_ok conL_ok) (lz_fits y) (okL1 (wd_ok ⟨by omega, h1⟩)) (by rfl) (by rfl) w
  have e : bitLen y.toNat = 64 := by
    have e1 : y.toNat / 2 ^ 63 = 1 := by omega
    rw [bitLen_shift y.toNat 63 (by omega), e1]
    rfl
  rw [e] at h
  exact h
def gLZ : Ans := fun vals s =>
  match vals with
  | [.int .u64 y] => some (.int .i64 0, s, [lz0 y])
  | _ => none
theorem gLZ_ok : AnsOk 87 gLZ := by
  intro vals s v s' lg h hl w
  unfold gLZ at h
  split at h
  · cases h
    have h1 := hl _ (List.mem_singleton.2 rfl)
    simp only [lz0, decide_eq_true_eq] at h1
    exact lz_calls _ h1.1 h1.2 w
  · cases h
def conZ : Con := alt 87 gLZ conN
theorem conZ_ok : ConOk conZ := alt_ok Try.func87 rfl gLZ_ok conN_ok

def dN (F : Func) : Nat → Code
  | 0 => cBody F
  | n + 1 => cSnd (dN F n)
def dPre (F : Func) : List Code := (List.range 14).map fun i => cFst (dN F i)
def dL1 (F : Func) : Code := cIn (cIn (cFst (dN F 14)))
def dMid (F : Func) : List Code := [cFst (dN F 15), cFst (dN F 16), cFst (dN F 17)]
def dL2 (F : Func) : Code := cIn (cIn (cFst (dN F 18)))
def dEnd (F : Func) : Code := dN F 19
theorem div_body : Try.f85.body = some (seqs (dPre Try.f85) (.seq (.block 0 (.loop (dL1 Try.f85))) (seqs (dMid Try.f85) (.seq (.block 2 (.loop (dL2 Try.f85))) (dEnd Try.f85))))) := by kernel_rfl
def s0 (z : Int) : Int := IntKind.u64.wrap (z * 2 ^ min ((IntKind.u64.wrap 0).toNat) 64)
def s64 (z : Int) : Int := z.fdiv (2 ^ min ((IntKind.u64.wrap (64 - IntKind.u64.wrap 0)).toNat) 64)
def orq (x y : Int) : Int := IntKind.u64.wrap ((BitVec.ofInt 64 x ||| BitVec.ofInt 64 y).toNat : Nat)
/-- the first nineteen temporaries -/
def dFr (hi lo y v3 v4 v5 v6 v7 : Value) (s yn1 yn0 un32 un10 un1 un0 q1 rh : Value) (v17 v18 : Value) : List Value := [hi, lo, y, v3, v4, v5, v6, v7, s, yn1, yn0, un32, un10, un1, un0, q1, rh, v17, v18]
def zf0 : Bool × Bool := (decide ((0 : Int) < 0), false)
def oE (hi lo : Int) : Int := orq (s0 hi) (s64 lo)
def rEW (n q d : Int) : Int := IntKind.u64.wrap (n - IntKind.u64.wrap (q * d))
theorem div_pre (hi lo y q : Int) : GoesE (evL (tabOf Try.prog extY conZ true) 500 (dPre Try.f85) ([u_ hi, u_ lo, u_ y] ++ List.replicate 132 undef, ⟨0, []⟩, [cmp false, cmp false, cmp false, num q]) ⟨[], [], []⟩) 19 116 none
    (dFr (u_ hi) (u_ lo) (u_ (s0 y)) undef undef undef (u_ 0) (u_ 0) (u_ 0) (u_ (hi32 (s0 y))) (u_ (lo32 (s0 y))) (u_ (oE hi lo)) (u_ (s0 lo)) (u_ (hi32 (s0 lo))) (u_ (lo32 (s0 lo))) (u_ q) (u_ (rEW (oE hi lo) q (hi32 (s0 y)))) undef undef) ⟨0, []⟩
    [(decide (hi32 (s0 y) = 0), false), (decide (IntKind.u64.wrap ((oE hi lo).tdiv (hi32 (s0 y))) = q), true), l32, l32, l32, l32, l32, l32, lz0 y, (hi == 0, false), (decide (y ≤ hi), false), (y == 0, false)] := by unfold GoesE; kernel_rfl
def tooG (q n0 rh u : Int) (d : Bool) : Bool × Bool := (decide (IntKind.u64.wrap (q * n0) > IntKind.u64.wrap (IntKind.u64.wrap (4294967296 * rh) + u)), d)
def gM (q : Int) (d : Bool) : Bool × Bool := (decide (q ≥ 4294967296), d)
def exO (d : Bool) (id : Nat) : Ex := match d with | true => some (some id) | false => none
theorem d1_big (d : Bool) (a0 a1 a2 a3 a4 a5 a6 a7 a8 a11 a12 a14 a17 a18 : Value) (n1 n0 u q rh : Int) (g : Nat → Value) : GoesE (evC (tabOf Try.prog extY conZ true) 300 false (dL1 Try.f85) (dFr a0 a1 a2 a3 a4 a5 a6 a7 a8 (u_ n1) (u_ n0) a11 a12 (u_ u) a14 (u_ q) (u_ rh) a17 a18 ++ tl 116 g, ⟨0, []⟩, [cmp true, cmp d]) ⟨[], [], []⟩) 19 116 (exO d 0)
    (dFr a0 a1 a2 a3 a4 a5 a6 a7 a8 (u_ n1) (u_ n0) a11 a12 (u_ u) a14 (u_ (IntKind.u64.wrap (q - 1))) (u_ (IntKind.u64.wrap (rh + n1))) a17 a18) ⟨0, []⟩ [gM (IntKind.u64.wrap (rh + n1)) d, gM q true] := by cases d <;> (unfold GoesE; kernel_rfl)
theorem d1_more (d : Bool) (a0 a1 a2 a3 a4 a5 a6 a7 a8 a11 a12 a14 a17 a18 : Value) (n1 n0 u q rh : Int) (g : Nat → Value) : GoesE (evC (tabOf Try.prog extY conZ true) 300 false (dL1 Try.f85) (dFr a0 a1 a2 a3 a4 a5 a6 a7 a8 (u_ n1) (u_ n0) a11 a12 (u_ u) a14 (u_ q) (u_ rh) a17 a18 ++ tl 116 g, ⟨0, []⟩, [cmp false, cmp true, cmp d]) ⟨[], [], []⟩) 19 116 (exO d 0)
    (dFr a0 a1 a2 a3 a4 a5 a6 a7 a8 (u_ n1) (u_ n0) a11 a12 (u_ u) a14 (u_ (IntKind.u64.wrap (q - 1))) (u_ (IntKind.u64.wrap (rh + n1))) a17 a18) ⟨0, []⟩ [gM (IntKind.u64.wrap (rh + n1)) d, tooG q n0 rh u true, gM q false] := by cases d <;> (unfold GoesE; kernel_rfl)
theorem d1_out (a0 a1 a2 a3 a4 a5 a6 a7 a8 a11 a12 a14 a17 a18 : Value) (n1 n0 u q rh : Int) (g : Nat → Value) : GoesE (evC (tabOf Try.prog extY conZ true) 300 false (dL1 Try.f85) (dFr a0 a1 a2 a3 a4 a5 a6 a7 a8 (u_ n1) (u_ n0) a11 a12 (u_ u) a14 (u_ q) (u_ rh) a17 a18 ++ tl 116 g, ⟨0, []⟩, [cmp false, cmp false]) ⟨[], [], []⟩) 19 116 (some (some 0))
    (dFr a0 a1 a2 a3 a4 a5 a6 a7 a8 (u_ n1) (u_ n0) a11 a12 (u_ u) a14 (u_ q) (u_ rh) a17 a18) ⟨0, []⟩ [tooG q n0 rh u false, gM q false] := by unfold GoesE; kernel_rfl
theorem d2_big (d : Bool) (a0 a1 a2 a3 a4 a5 a6 a7 a8 a11 a12 a14 a17 a18 : Value) (n1 n0 u q rh : Int) (g : Nat → Value) : GoesE (evC (tabOf Try.prog extY conZ true) 300 false (dL2 Try.f85) (dFr a0 a1 a2 a3 a4 a5 a6 a7 a8 (u_ n1) (u_ n0) a11 a12 a14 (u_ u) a17 (u_ rh) a18 (u_ q) ++ tl 116 g, ⟨0, []⟩, [cmp true, cmp d]) ⟨[], [], []⟩) 19 116 (exO d 2)
    (dFr a0 a1 a2 a3 a4 a5 a6 a7 a8 (u_ n1) (u_ n0) a11 a12 a14 (u_ u) a17 (u_ (IntKind.u64.wrap (rh + n1))) a18 (u_ (IntKind.u64.wrap (q - 1)))) ⟨0, []⟩ [gM (IntKind.u64.wrap (rh + n1)) d, gM q true] := by cases d <;> (unfold GoesE; kernel_rfl)
theorem d2_more (d : Bool) (a0 a1 a2 a3 a4 a5 a6 a7 a8 a11 a12 a14 a17 a18 : Value) (n1 n0 u q rh : Int) (g : Nat → Value) : GoesE (evC (tabOf Try.prog extY conZ true) 300 false (dL2 Try.f85) (dFr a0 a1 a2 a3 a4 a5 a6 a7 a8 (u_ n1) (u_ n0) a11 a12 a14 (u_ u) a17 (u_ rh) a18 (u_ q) ++ tl 116 g, ⟨0, []⟩, [cmp false, cmp true, cmp d]) ⟨[], [], []⟩) 19 116 (exO d 2)
    (dFr a0 a1 a2 a3 a4 a5 a6 a7 a8 (u_ n1) (u_ n0) a11 a12 a14 (u_ u) a17 (u_ (IntKind.u64.wrap (rh + n1))) a18 (u_ (IntKind.u64.wrap (q - 1)))) ⟨0, []⟩ [gM (IntKind.u64.wrap (rh + n1)) d, tooG q n0 rh u true, gM q false] := by cases d <;> (unfold GoesE; kernel_rfl)
theorem d2_out (a0 a1 a2 a3 a4 a5 a6 a7 a8 a11 a12 a14 a17 a18 : Value) (n1 n0 u q rh : Int) (g : Nat → Value) : GoesE (evC (tabOf Try.prog extY conZ true) 300 false (dL2 Try.f85) (dFr a0 a1 a2 a3 a4 a5 a6 a7 a8 (u_ n1) (u_ n0) a11 a12 a14 (u_ u) a17 (u_ rh) a18 (u_ q) ++ tl 116 g, ⟨0, []⟩, [cmp false, cmp false]) ⟨[], [], []⟩) 19 116 (some (some 2))
    (dFr a0 a1 a2 a3 a4 a5 a6 a7 a8 (u_ n1) (u_ n0) a11 a12 a14 (u_ u) a17 (u_ rh) a18 (u_ q)) ⟨0, []⟩ [tooG q n0 rh u false, gM q false] := by unfold GoesE; kernel_rfl
def mE (n u q y : Int) : Int := IntKind.u64.wrap (IntKind.u64.wrap (IntKind.u64.wrap (n * 4294967296) + u) - IntKind.u64.wrap (q * y))
theorem div_mid (a0 a1 a3 a4 a5 a6 a7 a8 a10 a12 a14 a16 a17 a18 : Value) (y n1 n u q p : Int) (g : Nat → Value) : GoesE (evL (tabOf Try.prog extY conZ true) 300 (dMid Try.f85) (dFr a0 a1 (u_ y) a3 a4 a5 a6 a7 a8 (u_ n1) a10 (u_ n) a12 (u_ u) a14 (u_ q) a16 a17 a18 ++ tl 116 g, ⟨0, []⟩, [num p]) ⟨[], [], []⟩) 19 116 none
    (dFr a0 a1 (u_ y) a3 a4 a5 a6 a7 a8 (u_ n1) a10 (u_ n) a12 (u_ u) a14 (u_ q) (u_ (rEW (mE n u q y) p n1)) (u_ (mE n u q y)) (u_ p)) ⟨0, []⟩ [(decide (n1 = 0), false), (decide (IntKind.u64.wrap ((mE n u q y).tdiv n1) = p), true)] := by unfold GoesE; kernel_rfl
theorem div_end (a0 a1 a3 a4 a5 a6 a7 a9 a10 a11 a12 a13 a16 : Value) (y u q m p : Int) (g : Nat → Value) : GoesE (evC (tabOf Try.prog extY conZ true) 300 false (dEnd Try.f85) (dFr a0 a1 (u_ y) a3 a4 a5 a6 a7 (u_ 0) a9 a10 a11 a12 a13 (u_ u) (u_ q) a16 (u_ m) (u_ p) ++ tl 116 g, ⟨0, []⟩, []) ⟨[], [], []⟩) 19 116 (some none)
    (dFr a0 a1 (u_ y) a3 a4 a5 (u_ (IntKind.u64.wrap (IntKind.u64.wrap (q * 4294967296) + p))) (u_ ((mE m u p y).fdiv (2 ^ min ((0 : Int).toNat) 64))) (u_ 0) a9 a10 a11 a12 a13 (u_ u) (u_ q) a16 (u_ m) (u_ p)) ⟨0, []⟩ [zf0] := by unfold GoesE; kernel_rfl
theorem div_zero (lo y : Int) : Fits (reckon (tabOf Try.prog extY conZ true) 500 85 [u_ 0, u_ lo, u_ y] [cmp false, cmp false, cmp true, num (lo / y), cmp true]) (.tuple #[u_ (lo / y), u_ (lo.tmod y)])
    [(decide (y = 0), false), (decide (y = 0), false), (decide (IntKind.u64.wrap (lo.tdiv y) = lo / y), true), ((0 : Int) == 0, true), (decide (y ≤ 0), false), (y == 0, false)] := ⟨by kernel_rfl, by kernel_rfl, by kernel_rfl, by kernel_rfl⟩
end Go.Proofs.Ytbcpnpchioncbaa
