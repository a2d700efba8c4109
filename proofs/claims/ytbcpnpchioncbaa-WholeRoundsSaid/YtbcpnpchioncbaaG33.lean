/-
  What is known of calls, for the document's rests and whole numbers.
-/
import Derived.Test.YtbcpnpchioncbaaG30
import Derived.Test.YtbcpnpchioncbaaG32
import Derived.Test.YtbcpnpchioncbaaG20
import Derived.Test.YtbcpnpchioncbaaG14
namespace Go.Proofs.Ytbcpnpchioncbaa
open Go.KRun Go.Nt Go.Wd Go.Pt Go.Rn
set_option maxRecDepth 100000

def gUsubT : AnsH := fun vals h s =>
  match vals, s with
  | [.slice p n c, .slice q n' c'], .inr (.inl V) :: s' => mk16 V.toNat h s' [(decide (vO h p n - vO h q n' = V.toNat), true), (two16 h p q n c n' c' && Nat.ble (vO h q n') (vO h p n), true), (decide (0 < n), true)]
  | _, _ => none
theorem gUsubT_ok : AnsHOk 27 gUsubT := by
  intro vals h s v h' s' lg hg hl
  unfold gUsubT at hg
  split at hg
  · rename_i p n c q n' c' V s3
    unfold mk16 at hg
    cases hg
    obtain ⟨l1, l2⟩ := log_tlT hl
    have l1 := of_decide_eq_true l1
    refine gUsub_ok _ h [cmp true] _ _ [] _ ?_ l2
    simp only [gUsub, mk16, l1]
  · cases hg
def conR8 : Con := alt 20 (gU vT) conN
theorem conR8_ok : ConOk conR8 := alt_ok Try.func20 rfl ref_ok conN_ok
def hcT8 : Hc := altH 27 gUsubT hcT
theorem hcT8_ok : HcOk hcT8 := altH_ok Try.func27 rfl gUsubT_ok hcT_ok
end Go.Proofs.Ytbcpnpchioncbaa

/-
  Products of the seat's program, I: bits.Mul64 and wide.mulAdd, as calls: what they answer of any words, in every world.
-/
namespace Go.Proofs.Ytbcpnpchioncbaa
open Go.KRun Go.Wd

def lo32 (z : Int) : Int := IntKind.u64.wrap ((BitVec.ofInt 64 z &&& BitVec.ofInt 64 4294967295).toNat : Nat)
def hi32 (z : Int) : Int := z.fdiv (2 ^ min ((32 : Int).toNat) 64)
def l32 : Bool × Bool := (decide ((32 : Int) < 0), false)
theorem hi32_eq (z : Int) : hi32 z = z / 4294967296 := by
  unfold hi32
  rw [show (2 : Int) ^ min ((32 : Int).toNat) 64 = 4294967296 from rfl, Int.fdiv_eq_ediv_of_nonneg _ (by omega)]
theorem lo32_eq {z : Int} (h0 : 0 ≤ z) (h1 : z < 18446744073709551616) : lo32 z = z % 4294967296 := by
  unfold lo32
  have e1 : (BitVec.ofInt 64 z).toNat = z.toNat := by
    rw [BitVec.toNat_ofInt]
    omega
  have e2 : (BitVec.ofInt 64 4294967295).toNat = 2 ^ 32 - 1 := by rfl
  rw [BitVec.toNat_and, e1, e2, Nat.and_two_pow_sub_one_eq_mod, wrap_u64]
  omega
def mT (x y : Int) : Int := IntKind.u64.wrap (IntKind.u64.wrap (hi32 x * lo32 y) + hi32 (IntKind.u64.wrap (lo32 x * lo32 y)))
def mW (x y : Int) : Int := IntKind.u64.wrap (lo32 (mT x y) + IntKind.u64.wrap (lo32 x * hi32 y))
def mH (x y : Int) : Int := IntKind.u64.wrap (IntKind.u64.wrap (IntKind.u64.wrap (hi32 x * hi32 y) + hi32 (mT x y)) + hi32 (mW x y))
def mL (x y : Int) : Int := IntKind.u64.wrap (x * y)
abbrev u_ (n : Int) : Value := .int .u64 n
theorem mul64_fits (x y : Int) : Fits (reckon (tabOf Try.prog extY conN true) 3000 88 [u_ x, u_ y] []) (.tuple #[u_ (mH x y), u_ (mL x y)]) [l32, l32, l32, l32, l32] := ⟨by kernel_rfl, by kernel_rfl, by kernel_rfl, by kernel_rfl⟩
theorem mul_split (x y : Int) (hx : 0 ≤ x ∧ x < 18446744073709551616) (hy : 0 ≤ y ∧ y < 18446744073709551616) : mH x y = x * y / 18446744073709551616 ∧ mL x y = x * y % 18446744073709551616 := by
  refine ⟨?_, by unfold mL; rw [wrap_u64]⟩
  have x0 : 0 ≤ x % 4294967296 ∧ x % 4294967296 < 4294967296 := by omega
  have y0 : 0 ≤ y % 4294967296 ∧ y % 4294967296 < 4294967296 := by omega
  have x1 : 0 ≤ x / 4294967296 ∧ x / 4294967296 < 4294967296 := by omega
  have y1 : 0 ≤ y / 4294967296 ∧ y / 4294967296 < 4294967296 := by omega
  have bd : ∀ p q : Int, (0 ≤ p ∧ p < 4294967296) → (0 ≤ q ∧ q < 4294967296) → 0 ≤ p * q ∧ p * q ≤ 18446744065119617025 := fun p q hp hq => by
    refine ⟨Int.mul_nonneg hp.1 hq.1, ?_⟩
    have := Int.mul_le_mul (show p ≤ 4294967295 by omega) (show q ≤ 4294967295 by omega) hq.1 (by omega)
    omega
  have ex : x * y = 18446744073709551616 * (x / 4294967296 * (y / 4294967296)) + 4294967296 * (x / 4294967296 * (y % 4294967296)) + 4294967296 * (x % 4294967296 * (y / 4294967296)) + x % 4294967296 * (y % 4294967296) := by
    have h1 := Int.mul_ediv_add_emod x 4294967296
    have h2 := Int.mul_ediv_add_emod y 4294967296
    generalize x / 4294967296 = p at *
    generalize x % 4294967296 = q at *
    generalize y / 4294967296 = r at *
    generalize y % 4294967296 = s at *
    rw [← h1, ← h2, Int.add_mul, Int.mul_add, Int.mul_add, Int.mul_assoc, Int.mul_left_comm p, Int.mul_left_comm q, Int.mul_assoc]
    omega
  have a1 := bd _ _ x0 y0
  have a2 := bd _ _ x1 y0
  have a3 := bd _ _ x0 y1
  have a4 := bd _ _ x1 y1
  unfold mH mW mT
  simp only [hi32_eq, lo32_eq hx.1 hx.2, lo32_eq hy.1 hy.2]
  generalize x / 4294967296 * (y / 4294967296) = d at *
  generalize x / 4294967296 * (y % 4294967296) = b at *
  generalize x % 4294967296 * (y / 4294967296) = c at *
  generalize x % 4294967296 * (y % 4294967296) = a at *
  rw [ex]
  have w1 : IntKind.u64.wrap a = a := wrap_u64' (by omega) (by omega)
  have w2 : IntKind.u64.wrap b = b := wrap_u64' (by omega) (by omega)
  have w3 : IntKind.u64.wrap c = c := wrap_u64' (by omega) (by omega)
  have w4 : IntKind.u64.wrap d = d := wrap_u64' (by omega) (by omega)
  have w5 : IntKind.u64.wrap (b + a / 4294967296) = b + a / 4294967296 := wrap_u64' (by omega) (by omega)
  rw [w1, w2, w3, w4, w5, lo32_eq (z := b + a / 4294967296) (by omega) (by omega)]
  rw [wrap_u64' (n := (b + a / 4294967296) % 4294967296 + c) (by omega) (by omega), wrap_u64' (n := d + (b + a / 4294967296) / 4294967296) (by omega) (by omega), wrap_u64' (by omega) (by omega)]
  omega
theorem l32_ok : l32.1 = l32.2 := rfl
abbrev word (x : Int) : Prop := 0 ≤ x ∧ x < 18446744073709551616
theorem mul64_calls (x y : Int) (hx : word x) (hy : word y) (w : World) : Calls Try.prog 88 #[u_ x, u_ y] w fun e w' => e = .returned (.tuple #[u_ (x * y / 18446744073709551616), u_ (x * y % 18446744073709551616)]) ∧ Tidy w w' := by
  have h := fits_calls (tabY_ok conN_ok) (mul64_fits x y) (okCons l32_ok (okCons l32_ok (okCons l32_ok (okCons l32_ok (okL1 l32_ok))))) (by rfl) (by rfl) w
  obtain ⟨e1, e2⟩ := mul_split x y hx hy
  rw [e1, e2] at h
  exact h
end Go.Proofs.Ytbcpnpchioncbaa

/-
  PLAIN ARITHMETIC: a digit of a quotient, guessed by the highest words alone, is never too small, and too great by 2 at most. No program is named here.
-/
namespace Go.Wd

/-- B: the base; D = dt R + d0 the divisor, dt its highest word; P = N R + p0 what is divided, N its two highest words -/
theorem guess_low {B R dt d0 N p0 : Int} (hR : 0 < R) (hd : 0 < dt) (h0 : 0 ≤ d0) (hp : p0 < R) (hq0 : 0 ≤ (N * R + p0) / (dt * R + d0)) (hP : N * R + p0 < B * (dt * R + d0)) :
    (N * R + p0) / (dt * R + d0) ≤ N / dt ∧ (N * R + p0) / (dt * R + d0) ≤ B - 1 := by
  have hD : 0 < dt * R + d0 := by have := Int.mul_pos hd hR; omega
  have e := Int.mul_ediv_add_emod (N * R + p0) (dt * R + d0)
  have m := Int.emod_nonneg (N * R + p0) (show dt * R + d0 ≠ 0 by omega)
  generalize hq : (N * R + p0) / (dt * R + d0) = q at *
  refine ⟨?_, ?_⟩
  · refine Int.le_ediv_of_mul_le hd ?_
    have h1 : q * dt * R ≤ N * R + p0 := by
      have : (dt * R + d0) * q = q * dt * R + d0 * q := by rw [Int.add_mul, Int.mul_right_comm, Int.mul_comm dt q]
      have h2 : 0 ≤ d0 * q := Int.mul_nonneg h0 hq0
      omega
    have h3 : q * dt * R < (N + 1) * R := by rw [Int.add_mul]; omega
    have := Int.lt_of_mul_lt_mul_right h3 (Int.le_of_lt hR)
    omega
  · have h1 : q * (dt * R + d0) < B * (dt * R + d0) := by rw [Int.mul_comm q]; omega
    have := Int.lt_of_mul_lt_mul_right h1 (Int.le_of_lt hD)
    omega
theorem guess_high {B R dt d0 N p0 g : Int} (hR : 0 < R) (hd : 0 < dt) (hB : B ≤ 2 * dt) (h1 : d0 < R) (hp0 : 0 ≤ p0) (hP : N * R + p0 < B * (dt * R + d0)) (h0 : 0 ≤ d0) (hg : g ≤ N / dt) :
    g ≤ (N * R + p0) / (dt * R + d0) + 2 := by
  have hD : 0 < dt * R + d0 := by have := Int.mul_pos hd hR; omega
  have e := Int.lt_mul_ediv_self_add hD (x := N * R + p0)
  have hqB : (N * R + p0) / (dt * R + d0) < B := Int.ediv_lt_of_lt_mul hD hP
  generalize (N * R + p0) / (dt * R + d0) = q at *
  have a1 : g * dt ≤ N := Int.le_trans (Int.mul_le_mul_of_nonneg_right hg (Int.le_of_lt hd)) (Int.ediv_mul_le N (by omega))
  have a2 : g * dt * R ≤ N * R := Int.mul_le_mul_of_nonneg_right a1 (Int.le_of_lt hR)
  rcases Int.lt_or_le g (q + 3) with hc | hc
  · omega
  · exfalso
    by_cases hq : 0 ≤ q + 1
    · have a3 : (dt * R + d0) * (q + 1) ≤ (dt * R + R) * (q + 1) := Int.mul_le_mul_of_nonneg_right (by omega) hq
      have a4 : (dt * R + d0) * q + (dt * R + d0) = (dt * R + d0) * (q + 1) := by rw [Int.mul_add, Int.mul_one]
      have a5 : (dt * R + R) * (q + 1) = (dt + 1) * (q + 1) * R := by rw [show dt * R + R = (dt + 1) * R from by rw [Int.add_mul, Int.one_mul], Int.mul_right_comm]
      have a6 : g * dt * R < (dt + 1) * (q + 1) * R := by omega
      have a7 := Int.lt_of_mul_lt_mul_right a6 (Int.le_of_lt hR)
      have a8 : (q + 3) * dt ≤ g * dt := Int.mul_le_mul_of_nonneg_right hc (Int.le_of_lt hd)
      have a9 : (q + 3) * dt = q * dt + 3 * dt := Int.add_mul ..
      have b1 : (dt + 1) * (q + 1) = q * dt + dt + q + 1 := by rw [Int.add_mul, Int.mul_add, Int.mul_comm dt q]; omega
      omega
    · have c1 : g * dt * R + p0 < (dt * R + d0) * (q + 1) := by
        have a4 : (dt * R + d0) * q + (dt * R + d0) = (dt * R + d0) * (q + 1) := by rw [Int.mul_add, Int.mul_one]
        omega
      have c2 : (q + 3) * dt ≤ g * dt := Int.mul_le_mul_of_nonneg_right hc (Int.le_of_lt hd)
      have c3 : (q + 3) * dt * R ≤ g * dt * R := Int.mul_le_mul_of_nonneg_right c2 (Int.le_of_lt hR)
      have c4 : (dt * R + d0) * (q + 1) ≤ dt * R * (q + 1) := by
        rw [Int.add_mul]
        have : d0 * (q + 1) ≤ 0 := Int.mul_nonpos_of_nonneg_of_nonpos h0 (by omega)
        omega
      have c5 : (q + 3) * dt * R = dt * R * (q + 1) + 2 * (dt * R) := by
        rw [Int.mul_assoc, Int.mul_comm (q + 3), show q + 3 = (q + 1) + 2 from by omega, Int.mul_add, Int.mul_comm (dt * R) 2]
      have c6 := Int.mul_pos hd hR
      omega
end Go.Wd
