/-
  The letters of Hex: both are the same, they are digits, and stand for the pattern.
-/
import Derived.Test.YtnmabjhnjdeekaaDoorPhE
namespace Go.Proofs.YtnmabjhnjdeekaaDoor
open Go.KRun Go.Pt
set_option maxRecDepth 100000
set_option linter.unusedVariables false

theorem nib_cases (q : Int) : q % 16 = 0 ∨ q % 16 = 1 ∨ q % 16 = 2 ∨ q % 16 = 3 ∨ q % 16 = 4 ∨ q % 16 = 5 ∨ q % 16 = 6 ∨ q % 16 = 7 ∨ q % 16 = 8 ∨ q % 16 = 9 ∨ q % 16 = 10 ∨ q % 16 = 11 ∨ q % 16 = 12 ∨ q % 16 = 13 ∨ q % 16 = 14 ∨ q % 16 = 15 := by omega
theorem tmod16 {q : Int} (h : 0 ≤ q) : q.tmod 16 = q % 16 := Int.tmod_eq_emod_of_nonneg h
theorem hS_eq {q : Int} (h : 0 ≤ q) : hS q = q / 16 := by
  have e : ((2 : Int) ^ min (Int.toNat 4) 64) = 16 := rfl
  unfold hS
  rw [e, Int.fdiv_eq_ediv_of_nonneg _ (by omega)]
theorem rT_eq {q : Int} (h : U q) : rT q = q / 16 := by
  have h0 := h.1
  have h1 := h.2
  unfold rT
  rw [Int.tdiv_eq_ediv_of_nonneg h0]
  simp [IntKind.wrap, IntKind.bits, IntKind.signed]
  omega
theorem U_div {q : Int} (h : U q) : U (q / 16) := by
  have h0 := h.1
  have h1 := h.2
  exact ⟨by omega, by omega⟩
theorem hSn_U {p : Int} (h : U p) : ∀ n, U (hSn p n)
  | 0 => h
  | n + 1 => by
    show U (hS (hSn p n))
    rw [hS_eq (hSn_U h n).1]
    exact U_div (hSn_U h n)
theorem hSn_succ {p : Int} (h : U p) (n : Nat) : hSn p (n + 1) = hSn p n / 16 := hS_eq (hSn_U h n).1
theorem rTn_eq {p : Int} (h : U p) : ∀ n, rTn p n = hSn p n
  | 0 => rfl
  | n + 1 => by
    show rT (rTn p n) = hS (hSn p n)
    rw [rTn_eq h n, rT_eq (hSn_U h n), hS_eq (hSn_U h n).1]
theorem hB_is {q : Int} (h : U q) : inX q = true ∧ rP q = [hB q] ∧ hxV (((hB q).toNat : Nat) : Int) = q % 16 ∧ hxOk (((hB q).toNat : Nat) : Int) = true ∧ decide (0 ≤ q.tmod 16 ∧ q.tmod 16 ≤ IntKind.u64.wrap (q.tmod 16 + 1) ∧ IntKind.u64.wrap (q.tmod 16 + 1) ≤ (hxT.length : Int)) = true := by
  unfold inX rP hB hC
  rw [tmod16 h.1, bAnd_nib h]
  rcases nib_cases q with e | e | e | e | e | e | e | e | e | e | e | e | e | e | e | e <;> rw [e] <;> exact ⟨by rfl, by rfl, by rfl, by rfl, by rfl⟩
theorem hxL_ok {p : Int} (h : U p) : ∀ n, okLog (hxL p n)
  | 0 => fun x hx => by cases hx
  | n + 1 => okCons rfl (okCons (hB_is (hSn_U h n)).1 (hxL_ok h n))
theorem rL_len {p : Int} (h : U p) : ∀ n, (rL p n).length = n
  | 0 => rfl
  | n + 1 => by
    show (rP (rTn p n) ++ rL p n).length = n + 1
    rw [rTn_eq h, (hB_is (hSn_U h n)).2.1, List.length_append, rL_len h n]
    simp only [List.length_singleton]
    omega
theorem rG_ok {p : Int} (h : U p) : ∀ n, n ≤ 16 → okLog (rG p n)
  | 0, _ => fun x hx => by cases hx
  | n + 1, hn => by
    refine okCons (decide_eq_true ?_) (okCons ?_ (rG_ok h n (by omega)))
    · rw [rL_len h n, rTn_eq h, (hB_is (hSn_U h n)).2.1]
      simp only [List.length_singleton]
      omega
    · rw [rTn_eq h]
      exact (hB_is (hSn_U h n)).2.2.2.2
theorem rL_is {p : Int} (h : U p) (n : Nat) : rL p (n + 1) = hB (hSn p n) :: rL p n := by
  show rP (rTn p n) ++ rL p n = _
  rw [rTn_eq h, (hB_is (hSn_U h n)).2.1]
  rfl
theorem hex_same {p : Int} (h : U p) : (⟨(rL p 16).toArray⟩ : ByteArray) = hxW p := by
  rw [rL_is h, rL_is h, rL_is h, rL_is h, rL_is h, rL_is h, rL_is h, rL_is h, rL_is h, rL_is h, rL_is h, rL_is h, rL_is h, rL_is h, rL_is h, rL_is h]
  rfl
theorem hex_calls (p : Int) (hp : U p) (w : World) : Calls Tryd.prog 6 #[.int .u64 p] w fun e w' => e = .returned (.string (hxW p)) ∧ Tidy w w' :=
  fits_calls tabPh_ok (hex_fits p) (hxL_ok hp 16) (by rfl) (by rfl) w
theorem refHex_calls (p : Int) (hp : U p) (w : World) : Calls Tryd.prog 7 #[.int .u64 p] w fun e w' => e = .returned (.string (hxW p)) ∧ Tidy w w' := by
  have := fits_calls tabPh_ok (refHex_fits p) (rG_ok hp 16 (Nat.le_refl _)) (by rfl) (by rfl) w
  rw [hex_same hp] at this
  exact this
theorem hx_step {p : Int} (h : U p) (n : Nat) : 16 * hSn p (n + 1) + hSn p n % 16 = hSn p n := by
  rw [hSn_succ h]
  omega
theorem hx_digit {p : Int} (h : U p) (n : Nat) : hxV (((hB (hSn p n)).toNat : Nat) : Int) = hSn p n % 16 := (hB_is (hSn_U h n)).2.2.1
theorem hx_top {p : Int} (h : U p) : hSn p 16 = 0 := by
  have h0 := h.1
  have h1 := h.2
  rw [hSn_succ h, hSn_succ h, hSn_succ h, hSn_succ h, hSn_succ h, hSn_succ h, hSn_succ h, hSn_succ h, hSn_succ h, hSn_succ h, hSn_succ h, hSn_succ h, hSn_succ h, hSn_succ h, hSn_succ h, hSn_succ h]
  show p / 16 / 16 / 16 / 16 / 16 / 16 / 16 / 16 / 16 / 16 / 16 / 16 / 16 / 16 / 16 / 16 = 0
  omega
theorem hex_num {p : Int} (h : U p) : phN (hxW p) 16 = p := by
  have a0 : phN (hxW p) 0 = hSn p 16 := (hx_top h).symm
  have a1 : phN (hxW p) 1 = hSn p 15 := by
    show 16 * phN (hxW p) 0 + hxV (((hB (hSn p 15)).toNat : Nat) : Int) = hSn p 15
    rw [a0, hx_digit h, hx_step h]
  have a2 : phN (hxW p) 2 = hSn p 14 := by
    show 16 * phN (hxW p) 1 + hxV (((hB (hSn p 14)).toNat : Nat) : Int) = hSn p 14
    rw [a1, hx_digit h, hx_step h]
  have a3 : phN (hxW p) 3 = hSn p 13 := by
    show 16 * phN (hxW p) 2 + hxV (((hB (hSn p 13)).toNat : Nat) : Int) = hSn p 13
    rw [a2, hx_digit h, hx_step h]
  have a4 : phN (hxW p) 4 = hSn p 12 := by
    show 16 * phN (hxW p) 3 + hxV (((hB (hSn p 12)).toNat : Nat) : Int) = hSn p 12
    rw [a3, hx_digit h, hx_step h]
  have a5 : phN (hxW p) 5 = hSn p 11 := by
    show 16 * phN (hxW p) 4 + hxV (((hB (hSn p 11)).toNat : Nat) : Int) = hSn p 11
    rw [a4, hx_digit h, hx_step h]
  have a6 : phN (hxW p) 6 = hSn p 10 := by
    show 16 * phN (hxW p) 5 + hxV (((hB (hSn p 10)).toNat : Nat) : Int) = hSn p 10
    rw [a5, hx_digit h, hx_step h]
  have a7 : phN (hxW p) 7 = hSn p 9 := by
    show 16 * phN (hxW p) 6 + hxV (((hB (hSn p 9)).toNat : Nat) : Int) = hSn p 9
    rw [a6, hx_digit h, hx_step h]
  have a8 : phN (hxW p) 8 = hSn p 8 := by
    show 16 * phN (hxW p) 7 + hxV (((hB (hSn p 8)).toNat : Nat) : Int) = hSn p 8
    rw [a7, hx_digit h, hx_step h]
  have a9 : phN (hxW p) 9 = hSn p 7 := by
    show 16 * phN (hxW p) 8 + hxV (((hB (hSn p 7)).toNat : Nat) : Int) = hSn p 7
    rw [a8, hx_digit h, hx_step h]
  have a10 : phN (hxW p) 10 = hSn p 6 := by
    show 16 * phN (hxW p) 9 + hxV (((hB (hSn p 6)).toNat : Nat) : Int) = hSn p 6
    rw [a9, hx_digit h, hx_step h]
  have a11 : phN (hxW p) 11 = hSn p 5 := by
    show 16 * phN (hxW p) 10 + hxV (((hB (hSn p 5)).toNat : Nat) : Int) = hSn p 5
    rw [a10, hx_digit h, hx_step h]
  have a12 : phN (hxW p) 12 = hSn p 4 := by
    show 16 * phN (hxW p) 11 + hxV (((hB (hSn p 4)).toNat : Nat) : Int) = hSn p 4
    rw [a11, hx_digit h, hx_step h]
  have a13 : phN (hxW p) 13 = hSn p 3 := by
    show 16 * phN (hxW p) 12 + hxV (((hB (hSn p 3)).toNat : Nat) : Int) = hSn p 3
    rw [a12, hx_digit h, hx_step h]
  have a14 : phN (hxW p) 14 = hSn p 2 := by
    show 16 * phN (hxW p) 13 + hxV (((hB (hSn p 2)).toNat : Nat) : Int) = hSn p 2
    rw [a13, hx_digit h, hx_step h]
  have a15 : phN (hxW p) 15 = hSn p 1 := by
    show 16 * phN (hxW p) 14 + hxV (((hB (hSn p 1)).toNat : Nat) : Int) = hSn p 1
    rw [a14, hx_digit h, hx_step h]
  have a16 : phN (hxW p) 16 = hSn p 0 := by
    show 16 * phN (hxW p) 15 + hxV (((hB (hSn p 0)).toNat : Nat) : Int) = hSn p 0
    rw [a15, hx_digit h, hx_step h]
  exact a16
theorem hex_ok {p : Int} (h : U p) : phOk (hxW p) := by
  have hd : ∀ n, hxOk (((hB (hSn p n)).toNat : Nat) : Int) = true := fun n => (hB_is (hSn_U h n)).2.2.2.1
  refine ⟨⟨show 1 ≤ 16 by omega, show 16 ≤ 16 by omega⟩, fun j hj => ?_⟩
  have hs : (hxW p).size = 16 := rfl
  rw [hs] at hj
  match j, hj with
  | 0, _ => exact hd 15
  | 1, _ => exact hd 14
  | 2, _ => exact hd 13
  | 3, _ => exact hd 12
  | 4, _ => exact hd 11
  | 5, _ => exact hd 10
  | 6, _ => exact hd 9
  | 7, _ => exact hd 8
  | 8, _ => exact hd 7
  | 9, _ => exact hd 6
  | 10, _ => exact hd 5
  | 11, _ => exact hd 4
  | 12, _ => exact hd 3
  | 13, _ => exact hd 2
  | 14, _ => exact hd 1
  | 15, _ => exact hd 0
  | n + 16, hn => exact absurd hn (by omega)
end Go.Proofs.YtnmabjhnjdeekaaDoor
