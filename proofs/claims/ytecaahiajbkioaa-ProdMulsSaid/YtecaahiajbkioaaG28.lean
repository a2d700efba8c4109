/-
  The document's Round of nothing, as a call in every world.
-/
import Derived.Test.YtecaahiajbkioaaG26
import Derived.Test.YtecaahiajbkioaaG21
import Derived.Test.YtecaahiajbkioaaG27
import Derived.Test.YtecaahiajbkioaaG20
namespace Go.Proofs.Ytecaahiajbkioaa
open Go.KRun Go.Nt Go.Wd Go.Rn Go.Pt
set_option maxRecDepth 100000
set_option linter.unusedVariables false

/-! ### Round of nothing -/
def r0V (neg : Bool) : Value := .tuple #[.int .u64 (sS neg 0), .int .i64 0]
theorem r0a (neg : Bool) (E M : Int) : Fits (reckon (tabOf Try.prog extY conN true) 200 27 [vRN neg E nilS, .int .i64 M] [cmp true, cmp true]) (r0V neg) [(((0 : Nat) : Int) == 0, true), (decide (M < 0), true)] := by
  cases neg <;> exact ⟨by kernel_rfl, by kernel_rfl, by kernel_rfl, by kernel_rfl⟩
theorem r0b (neg : Bool) (E M : Int) : Fits (reckon (tabOf Try.prog extY conN true) 200 27 [vRN neg E nilS, .int .i64 M] [cmp false, cmp true, cmp true]) (r0V neg) [(((0 : Nat) : Int) == 0, true), (decide (M > 4), true), (decide (M < 0), false)] := by
  cases neg <;> exact ⟨by kernel_rfl, by kernel_rfl, by kernel_rfl, by kernel_rfl⟩
theorem r0c (neg : Bool) (E M : Int) : Fits (reckon (tabOf Try.prog extY conN true) 200 27 [vRN neg E nilS, .int .i64 M] [cmp false, cmp false, cmp true]) (r0V neg) [(((0 : Nat) : Int) == 0, true), (decide (M > 4), false), (decide (M < 0), false)] := by
  cases neg <;> exact ⟨by kernel_rfl, by kernel_rfl, by kernel_rfl, by kernel_rfl⟩
def gR0 : Ans := fun vals s =>
  match vals with
  | [.agg cs, .int .i64 M] =>
    match cs.toList with
    | [.bool neg, .int .i64 E, .slice none 0 0] => some (r0V neg, s, [])
    | _ => none
  | _ => none
theorem gR0_ok : AnsOk 27 gR0 := by
  intro vals s v s' lg h hl w
  unfold gR0 at h
  split at h
  · rename_i cs M
    split at h
    · rename_i neg E hcs
      have ecs : cs = #[.bool neg, .int .i64 E, nilS] := by
        have := congrArg List.toArray hcs
        simpa [nilS] using this
      cases h
      rw [ecs]
      by_cases h0 : M < 0
      · exact fits_calls (tabY_ok conN_ok) (r0a neg E M) (okCons rfl (okL1 (decide_eq_true h0))) (by rfl) (by rfl) w
      · by_cases h4 : M > 4
        · exact fits_calls (tabY_ok conN_ok) (r0b neg E M) (okCons rfl (okCons (decide_eq_true h4) (okL1 (decide_eq_false h0)))) (by rfl) (by rfl) w
        · exact fits_calls (tabY_ok conN_ok) (r0c neg E M) (okCons rfl (okCons (decide_eq_false h4) (okL1 (decide_eq_false h0)))) (by rfl) (by rfl) w
    · cases h
  · cases h

end Go.Proofs.Ytecaahiajbkioaa

/-
  The document's Round of nothing, and Abs, as calls in every world.
-/
namespace Go.Proofs.Ytecaahiajbkioaa
open Go.KRun Go.Nt Go.Wd Go.Rn Go.Pt
set_option maxRecDepth 100000
set_option linter.unusedVariables false
def raT (p f : Int) : Value := .tuple #[.int .u64 p, .int .i64 f]

/-! ### Abs -/
theorem rabs_fits (p : Int) : Fits (reckon (tabOf Try.prog extY conN true) 200 25 [.int .u64 p] [cmp true]) (.int .u64 (p.tmod 9223372036854775808)) [(decide ((9223372036854775808 : Int) = 0), false)] := ⟨by kernel_rfl, by kernel_rfl, by kernel_rfl, by kernel_rfl⟩
theorem rabs_ok : AnsOk 25 (gU fun p => .int .u64 (mag p)) := gU_ok fun p hp w => by
  have e : p.tmod 9223372036854775808 = mag p := by
    unfold mag
    exact Int.tmod_eq_emod_of_nonneg hp.1
  have := rabs_fits p
  rw [e] at this
  exact fits_calls (tabY_ok conN_ok) this (okL1 rfl) (by rfl) (by rfl) w
def conRA : Con := alt 27 gR0 (alt 25 (gU fun p => .int .u64 (mag p)) conPt)
theorem conRA_ok : ConOk conRA := alt_ok Try.func27 rfl gR0_ok (alt_ok Try.func25 rfl rabs_ok conPt_ok)
end Go.Proofs.Ytecaahiajbkioaa

/-
  Products of the seat's program, I: bits.Mul64 and wide.mulAdd, as calls: what they answer of any words, in every world.
-/
namespace Go.Proofs.Ytecaahiajbkioaa
open Go.KRun Go.Wd

def lo32 (z : Int) : Int := IntKind.u64.wrap ((BitVec.ofInt 64 z &&& BitVec.ofInt 64 4294967295).toNat : Nat)
def hi32 (z : Int) : Int := z.fdiv (2 ^ min ((32 : Int).toNat) 64)
def l32 : Bool × Bool := (decide ((32 : Int) < 0), false)
theorem hi32_eq (z : Int) : hi32 z = z / 4294967296 := by
  unfold hi32
  rw [show (2 : Int) ^ min ((32 : Int).toNat) 64 = 4294967296 from rfl, Int.fdiv_eq_ediv_of_nonneg _ (by omega)]
theorem lo32_eq {z : Int} (h0 : 0 ≤ z) (h1 : z < 18446744073709551616) : lo32 z = z % 4294967296 := by
  unfold lo32
  have e1 : (BitVec.ofInt 64 z).toNat = z.toNat := by
    rw [BitVec.toNat_ofInt]
    omega
  have e2 : (BitVec.ofInt 64 4294967295).toNat = 2 ^ 32 - 1 := by rfl
  rw [BitVec.toNat_and, e1, e2, Nat.and_two_pow_sub_one_eq_mod, wrap_u64]
  omega
def mT (x y : Int) : Int := IntKind.u64.wrap (IntKind.u64.wrap (hi32 x * lo32 y) + hi32 (IntKind.u64.wrap (lo32 x * lo32 y)))
def mW (x y : Int) : Int := IntKind.u64.wrap (lo32 (mT x y) + IntKind.u64.wrap (lo32 x * hi32 y))
def mH (x y : Int) : Int := IntKind.u64.wrap (IntKind.u64.wrap (IntKind.u64.wrap (hi32 x * hi32 y) + hi32 (mT x y)) + hi32 (mW x y))
def mL (x y : Int) : Int := IntKind.u64.wrap (x * y)
abbrev u_ (n : Int) : Value := .int .u64 n
theorem mul64_fits (x y : Int) : Fits (reckon (tabOf Try.prog extY conN true) 3000 90 [u_ x, u_ y] []) (.tuple #[u_ (mH x y), u_ (mL x y)]) [l32, l32, l32, l32, l32] := ⟨by kernel_rfl, by kernel_rfl, by kernel_rfl, by kernel_rfl⟩
theorem mul_split (x y : Int) (hx : 0 ≤ x ∧ x < 18446744073709551616) (hy : 0 ≤ y ∧ y < 18446744073709551616) : mH x y = x * y / 18446744073709551616 ∧ mL x y = x * y % 18446744073709551616 := by
  refine ⟨?_, by unfold mL; rw [wrap_u64]⟩
  have x0 : 0 ≤ x % 4294967296 ∧ x % 4294967296 < 4294967296 := by omega
  have y0 : 0 ≤ y % 4294967296 ∧ y % 4294967296 < 4294967296 := by omega
  have x1 : 0 ≤ x / 4294967296 ∧ x / 4294967296 < 4294967296 := by omega
  have y1 : 0 ≤ y / 4294967296 ∧ y / 4294967296 < 4294967296 := by omega
  have bd : ∀ p q : Int, (0 ≤ p ∧ p < 4294967296) → (0 ≤ q ∧ q < 4294967296) → 0 ≤ p * q ∧ p * q ≤ 18446744065119617025 := fun p q hp hq => by
    refine ⟨Int.mul_nonneg hp.1 hq.1, ?_⟩
    have := Int.mul_le_mul (show p ≤ 4294967295 by omega) (show q ≤ 4294967295 by omega) hq.1 (by omega)
    omega
  have ex : x * y = 18446744073709551616 * (x / 4294967296 * (y / 4294967296)) + 4294967296 * (x / 4294967296 * (y % 4294967296)) + 4294967296 * (x % 4294967296 * (y / 4294967296)) + x % 4294967296 * (y % 4294967296) := by
    have h1 := Int.mul_ediv_add_emod x 4294967296
    have h2 := Int.mul_ediv_add_emod y 4294967296
    generalize x / 4294967296 = p at *
    generalize x % 4294967296 = q at *
    generalize y / 4294967296 = r at *
    generalize y % 4294967296 = s at *
    rw [← h1, ← h2, Int.add_mul, Int.mul_add, Int.mul_add, Int.mul_assoc, Int.mul_left_comm p, Int.mul_left_comm q, Int.mul_assoc]
    omega
  have a1 := bd _ _ x0 y0
  have a2 := bd _ _ x1 y0
  have a3 := bd _ _ x0 y1
  have a4 := bd _ _ x1 y1
  unfold mH mW mT
  simp only [hi32_eq, lo32_eq hx.1 hx.2, lo32_eq hy.1 hy.2]
  generalize x / 4294967296 * (y / 4294967296) = d at *
  generalize x / 4294967296 * (y % 4294967296) = b at *
  generalize x % 4294967296 * (y / 4294967296) = c at *
  generalize x % 4294967296 * (y % 4294967296) = a at *
  rw [ex]
  have w1 : IntKind.u64.wrap a = a := wrap_u64' (by omega) (by omega)
  have w2 : IntKind.u64.wrap b = b := wrap_u64' (by omega) (by omega)
  have w3 : IntKind.u64.wrap c = c := wrap_u64' (by omega) (by omega)
  have w4 : IntKind.u64.wrap d = d := wrap_u64' (by omega) (by omega)
  have w5 : IntKind.u64.wrap (b + a / 4294967296) = b + a / 4294967296 := wrap_u64' (by omega) (by omega)
  rw [w1, w2, w3, w4, w5, lo32_eq (z := b + a / 4294967296) (by omega) (by omega)]
  rw [wrap_u64' (n := (b + a / 4294967296) % 4294967296 + c) (by omega) (by omega), wrap_u64' (n := d + (b + a / 4294967296) / 4294967296) (by omega) (by omega), wrap_u64' (by omega) (by omega)]
  omega
theorem l32_ok : l32.1 = l32.2 := rfl
abbrev word (x : Int) : Prop := 0 ≤ x ∧ x < 18446744073709551616
theorem mul64_calls (x y : Int) (hx : word x) (hy : word y) (w : World) : Calls Try.prog 90 #[u_ x, u_ y] w fun e w' => e = .returned (.tuple #[u_ (x * y / 18446744073709551616), u_ (x * y % 18446744073709551616)]) ∧ Tidy w w' := by
  have h := fits_calls (tabY_ok conN_ok) (mul64_fits x y) (okCons l32_ok (okCons l32_ok (okCons l32_ok (okCons l32_ok (okL1 l32_ok))))) (by rfl) (by rfl) w
  obtain ⟨e1, e2⟩ := mul_split x y hx hy
  rw [e1, e2] at h
  exact h
end Go.Proofs.Ytecaahiajbkioaa
