/-
  Contracts of words; a pattern's significand, moved up, and whether it is nothing.
-/
import Derived.Test.YtbcpnpchioncbaaG19
import Derived.Test.YtbcpnpchioncbaaG08
namespace Go.Proofs.Ytbcpnpchioncbaa
open Go.KRun Go.Wd Go.Pt Go.Rn
set_option maxRecDepth 100000

/-- a truth of two words, told ahead -/
def gUUb (k : Int → Int → Bool) : Ans := fun vals s =>
  match vals, s with
  | [.int .u64 a, .int .u64 b], .inr (.inr (.inr (.inl d))) :: s' => some (.bool d, s', [(k a b, d), (decide (U a ∧ U b), true)])
  | _, _ => none
theorem gUUb_ok {f : Nat} {k : Int → Int → Bool} (hk : ∀ a b : Int, U a → U b → ∀ w, Calls Try.prog f #[.int .u64 a, .int .u64 b] w fun e w' => e = .returned (.bool (k a b)) ∧ Tidy w w') : AnsOk f (gUUb k) := by
  intro vals s v s' lg h hl w
  unfold gUUb at h
  split at h
  · cases h
    have e := hl _ (List.mem_cons_self)
    obtain ⟨h1, h2⟩ := of_decide_eq_true (hl _ (List.mem_cons_of_mem _ (List.mem_singleton.2 rfl)))
    simp only at e
    rw [← e]
    exact hk _ _ h1 h2 w
  · cases h
/-- a value of two words -/
def gUU (k : Int → Int → Value) (c : Int → Int → Bool) : Ans := fun vals s =>
  match vals with
  | [.int .u64 a, .int .u64 b] => some (k a b, s, [(c a b, true), (decide (U a ∧ U b), true)])
  | _ => none
theorem gUU_ok {f : Nat} {k : Int → Int → Value} {c : Int → Int → Bool} (hk : ∀ a b : Int, U a → U b → c a b = true → ∀ w, Calls Try.prog f #[.int .u64 a, .int .u64 b] w fun e w' => e = .returned (k a b) ∧ Tidy w w') : AnsOk f (gUU k c) := by
  intro vals s v s' lg h hl w
  unfold gUU at h
  split at h
  · cases h
    have e := hl _ (List.mem_cons_self)
    obtain ⟨h1, h2⟩ := of_decide_eq_true (hl _ (List.mem_cons_of_mem _ (List.mem_singleton.2 rfl)))
    exact hk _ _ h1 h2 e w
  · cases h
def nzW (x : W4) : Bool := !(x.a == 0 && (x.b == 0 && (x.c == 0 && (x.d == 0 && true))))
theorem nzW_of {n : Int} (h0 : 0 ≤ n) (h1 : n < 115792089237316195423570985008687907853269984665640564039457584007913129639936) : nzW (W4.of n) = decide (n ≠ 0) := by
  have ev : (W4.of n).val = n := by rw [W4.val_of, Int.emod_eq_of_lt h0 h1]
  have ok := W4.ok_of n
  by_cases hz : n = 0
  · subst hz; rfl
  · rw [decide_eq_true hz]
    unfold nzW
    cases hc : ((W4.of n).a == 0 && ((W4.of n).b == 0 && ((W4.of n).c == 0 && ((W4.of n).d == 0 && true))))
    · rfl
    · exfalso
      simp only [Bool.and_eq_true, beq_iff_eq] at hc
      obtain ⟨e1, e2, e3, e4, _⟩ := hc
      apply hz
      rw [← ev]
      unfold W4.val
      rw [e1, e2, e3, e4]
      rfl
theorem wSg_val (p : Int) : (wSg p).val = sg p := by
  have h := sg_lt p
  rw [W4.nat_val (wSg_ok p), wSg_nat]
  omega
theorem pow_lim {u : Nat} (h : u ≤ 199) : (2 : Int) ^ u ≤ 803469022129495137770981046170581301261101496891396417650688 := by
  have h1 : (2 : Nat) ^ u ≤ 2 ^ 199 := Nat.pow_le_pow_right (by omega) h
  have h2 : (2 : Nat) ^ 199 = 803469022129495137770981046170581301261101496891396417650688 := rfl
  rw [h2] at h1
  have := cast_pow u
  omega
theorem shl_sg (p : Int) {u : Nat} (h0 : 1 ≤ u) (h : u ≤ 199) : (shlW (wSg p) (u : Int)).ok ∧ (shlW (wSg p) (u : Int)).val = (((sg p).toNat * 2 ^ u : Nat) : Int) := by
  have hs := sg_lt p
  have hp := pow_lim h
  have hq : (0 : Int) < 2 ^ u := by rw [cast_pow]; exact_mod_cast Nat.pow_pos (by omega)
  have e : (wSg p).val * 2 ^ u = (((sg p).toNat * 2 ^ u : Nat) : Int) := by
    rw [wSg_val, Int.natCast_mul, ← cast_pow, Int.toNat_of_nonneg hs.1]
  have hb : (((sg p).toNat * 2 ^ u : Nat) : Int) < 115792089237316195423570985008687907853269984665640564039457584007913129639936 := by
    rw [← e, wSg_val]
    have := Int.mul_le_mul (show sg p ≤ 9007199254740991 by omega) hp (by omega) (by omega)
    omega
  unfold shlW
  rw [if_neg (by omega), if_neg (by omega), Int.toNat_natCast, e]
  exact ⟨W4.ok_of _, by rw [W4.val_of, Int.emod_eq_of_lt (by omega) hb]⟩
theorem sg_zero {p : Int} (h : cl p ≤ 2) : sg p = 0 ↔ cl p = 0 := by
  have h3 := fr_lt p
  unfold sg cl at *
  split at h
  · rename_i h1
    rw [if_pos h1]
    split <;> omega
  · rename_i h1
    split at h
    · split at h
      · omega
      · split at h <;> omega
    · rename_i h2
      rw [if_neg h1, if_neg h2]
      omega
/-- a value of one word, with a condition -/
def gU1 (k : Int → Value) (c : Int → Bool) : Ans := fun vals s =>
  match vals with
  | [.int .u64 a] => some (k a, s, [(c a, true), (decide (U a), true)])
  | _ => none
theorem gU1_ok {f : Nat} {k : Int → Value} {c : Int → Bool} (hk : ∀ a : Int, U a → c a = true → ∀ w, Calls Try.prog f #[.int .u64 a] w fun e w' => e = .returned (k a) ∧ Tidy w w') : AnsOk f (gU1 k c) := by
  intro vals s v s' lg h hl w
  unfold gU1 at h
  split at h
  · cases h
    have e := hl _ (List.mem_cons_self)
    have h1 := of_decide_eq_true (hl _ (List.mem_cons_of_mem _ (List.mem_singleton.2 rfl)))
    exact hk _ h1 e w
  · cases h
end Go.Proofs.Ytbcpnpchioncbaa

/-
  Products of the seat's program, I: bits.Mul64 and wide.mulAdd, as calls: what they answer of any words, in every world.
-/
namespace Go.Proofs.Ytbcpnpchioncbaa
open Go.KRun Go.Wd

def lo32 (z : Int) : Int := IntKind.u64.wrap ((BitVec.ofInt 64 z &&& BitVec.ofInt 64 4294967295).toNat : Nat)
def hi32 (z : Int) : Int := z.fdiv (2 ^ min ((32 : Int).toNat) 64)
def l32 : Bool × Bool := (decide ((32 : Int) < 0), false)
theorem hi32_eq (z : Int) : hi32 z = z / 4294967296 := by
  unfold hi32
  rw [show (2 : Int) ^ min ((32 : Int).toNat) 64 = 4294967296 from rfl, Int.fdiv_eq_ediv_of_nonneg _ (by omega)]
theorem lo32_eq {z : Int} (h0 : 0 ≤ z) (h1 : z < 18446744073709551616) : lo32 z = z % 4294967296 := by
  unfold lo32
  have e1 : (BitVec.ofInt 64 z).toNat = z.toNat := by
    rw [BitVec.toNat_ofInt]
    omega
  have e2 : (BitVec.ofInt 64 4294967295).toNat = 2 ^ 32 - 1 := by rfl
  rw [BitVec.toNat_and, e1, e2, Nat.and_two_pow_sub_one_eq_mod, wrap_u64]
  omega
def mT (x y : Int) : Int := IntKind.u64.wrap (IntKind.u64.wrap (hi32 x * lo32 y) + hi32 (IntKind.u64.wrap (lo32 x * lo32 y)))
def mW (x y : Int) : Int := IntKind.u64.wrap (lo32 (mT x y) + IntKind.u64.wrap (lo32 x * hi32 y))
def mH (x y : Int) : Int := IntKind.u64.wrap (IntKind.u64.wrap (IntKind.u64.wrap (hi32 x * hi32 y) + hi32 (mT x y)) + hi32 (mW x y))
def mL (x y : Int) : Int := IntKind.u64.wrap (x * y)
abbrev u_ (n : Int) : Value := .int .u64 n
theorem mul64_fits (x y : Int) : Fits (reckon (tabOf Try.prog extY conN true) 3000 88 [u_ x, u_ y] []) (.tuple #[u_ (mH x y), u_ (mL x y)]) [l32, l32, l32, l32, l32] := ⟨by kernel_rfl, by kernel_rfl, by kernel_rfl, by kernel_rfl⟩
theorem mul_split (x y : Int) (hx : 0 ≤ x ∧ x < 18446744073709551616) (hy : 0 ≤ y ∧ y < 18446744073709551616) : mH x y = x * y / 18446744073709551616 ∧ mL x y = x * y % 18446744073709551616 := by
  refine ⟨?_, by unfold mL; rw [wrap_u64]⟩
  have x0 : 0 ≤ x % 4294967296 ∧ x % 4294967296 < 4294967296 := by omega
  have y0 : 0 ≤ y % 4294967296 ∧ y % 4294967296 < 4294967296 := by omega
  have x1 : 0 ≤ x / 4294967296 ∧ x / 4294967296 < 4294967296 := by omega
  have y1 : 0 ≤ y / 4294967296 ∧ y / 4294967296 < 4294967296 := by omega
  have bd : ∀ p q : Int, (0 ≤ p ∧ p < 4294967296) → (0 ≤ q ∧ q < 4294967296) → 0 ≤ p * q ∧ p * q ≤ 18446744065119617025 := fun p q hp hq => by
    refine ⟨Int.mul_nonneg hp.1 hq.1, ?_⟩
    have := Int.mul_le_mul (show p ≤ 4294967295 by omega) (show q ≤ 4294967295 by omega) hq.1 (by omega)
    omega
  have ex : x * y = 18446744073709551616 * (x / 4294967296 * (y / 4294967296)) + 4294967296 * (x / 4294967296 * (y % 4294967296)) + 4294967296 * (x % 4294967296 * (y / 4294967296)) + x % 4294967296 * (y % 4294967296) := by
    have h1 := Int.mul_ediv_add_emod x 4294967296
    have h2 := Int.mul_ediv_add_emod y 4294967296
    generalize x / 4294967296 = p at *
    generalize x % 4294967296 = q at *
    generalize y / 4294967296 = r at *
    generalize y % 4294967296 = s at *
    rw [← h1, ← h2, Int.add_mul, Int.mul_add, Int.mul_add, Int.mul_assoc, Int.mul_left_comm p, Int.mul_left_comm q, Int.mul_assoc]
    omega
  have a1 := bd _ _ x0 y0
  have a2 := bd _ _ x1 y0
  have a3 := bd _ _ x0 y1
  have a4 := bd _ _ x1 y1
  unfold mH mW mT
  simp only [hi32_eq, lo32_eq hx.1 hx.2, lo32_eq hy.1 hy.2]
  generalize x / 4294967296 * (y / 4294967296) = d at *
  generalize x / 4294967296 * (y % 4294967296) = b at *
  generalize x % 4294967296 * (y / 4294967296) = c at *
  generalize x % 4294967296 * (y % 4294967296) = a at *
  rw [ex]
  have w1 : IntKind.u64.wrap a = a := wrap_u64' (by omega) (by omega)
  have w2 : IntKind.u64.wrap b = b := wrap_u64' (by omega) (by omega)
  have w3 : IntKind.u64.wrap c = c := wrap_u64' (by omega) (by omega)
  have w4 : IntKind.u64.wrap d = d := wrap_u64' (by omega) (by omega)
  have w5 : IntKind.u64.wrap (b + a / 4294967296) = b + a / 4294967296 := wrap_u64' (by omega) (by omega)
  rw [w1, w2, w3, w4, w5, lo32_eq (z := b + a / 4294967296) (by omega) (by omega)]
  rw [wrap_u64' (n := (b + a / 4294967296) % 4294967296 + c) (by omega) (by omega), wrap_u64' (n := d + (b + a / 4294967296) / 4294967296) (by omega) (by omega), wrap_u64' (by omega) (by omega)]
  omega
theorem l32_ok : l32.1 = l32.2 := rfl
abbrev word (x : Int) : Prop := 0 ≤ x ∧ x < 18446744073709551616
theorem mul64_calls (x y : Int) (hx : word x) (hy : word y) (w : World) : Calls Try.prog 88 #[u_ x, u_ y] w fun e w' => e = .returned (.tuple #[u_ (x * y / 18446744073709551616), u_ (x * y % 18446744073709551616)]) ∧ Tidy w w' := by
  have h := fits_calls (tabY_ok conN_ok) (mul64_fits x y) (okCons l32_ok (okCons l32_ok (okCons l32_ok (okCons l32_ok (okL1 l32_ok))))) (by rfl) (by rfl) w
  obtain ⟨e1, e2⟩ := mul_split x y hx hy
  rw [e1, e2] at h
  exact h
end Go.Proofs.Ytbcpnpchioncbaa
