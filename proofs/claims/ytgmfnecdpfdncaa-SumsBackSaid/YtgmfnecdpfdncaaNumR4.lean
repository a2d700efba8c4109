/-
  PLAIN ARITHMETIC: far below, and by modes that are none; the size told by the document.
-/
import Derived.Test.YtgmfnecdpfdncaaNumT
import Derived.Test.YtgmfnecdpfdncaaNumX4
namespace Go.Rn
open Go.Nt Go.Wd

theorem far_pow {k : Nat} (hk : 300 ≤ k) : 4 * 2 ^ 256 ≤ 2 ^ k := by
  obtain ⟨j, rfl⟩ : ∃ j, k = 256 + (2 + j) := ⟨k - 258, by omega⟩
  have hj : 0 < 2 ^ j := Nat.pow_pos (by omega)
  rw [Nat.pow_add, Nat.pow_add, Nat.mul_comm 4]
  refine Nat.mul_le_mul_left _ ?_
  show 4 ≤ 4 * 2 ^ j
  omega
theorem far_rq {m : Int} {neg : Bool} {T k : Nat} (hT : T < 2 * 2 ^ 256) (hk : 300 ≤ k) : rq m neg T k = (if upR m neg false (if T = 0 then 0 else 1) = true then 1 else 0) := by
  have hp := far_pow hk
  generalize (2 : Nat) ^ 256 = P at hT hp
  have hd : T / 2 ^ k = 0 := Nat.div_eq_of_lt (by omega)
  have hm : T % 2 ^ k = T := Nat.mod_eq_of_lt (by omega)
  unfold rq
  rw [hd, hm]
  have ho : odd 0 = false := rfl
  have hr : restC T (2 ^ k) = if T = 0 then 0 else 1 := by
    unfold restC
    split
    · rfl
    · rw [if_pos (by omega)]
  rw [ho, hr]
  simp
theorem far_toQ {m : Int} {neg : Bool} {T : Nat} (hT : T < 2 * 2 ^ 256) {E F : Int} (hE : E ≤ -300) (hF : F ≤ -300) : toQ m neg T E 0 = toQ m neg T F 0 := by
  unfold toQ
  rw [if_neg (by omega), if_neg (by omega), far_rq hT (by omega), far_rq hT (by omega)]
theorem far_toL {T : Nat} (hT : T < 2 * 2 ^ 256) {E F : Int} (hE : E ≤ -300) (hF : F ≤ -300) : toL T E 0 = toL T F 0 := by
  have key : ∀ k, 300 ≤ k → T % 2 ^ k = T := fun k hk => by
    have hp := far_pow hk
    exact Nat.mod_eq_of_lt (by omega)
  unfold toL
  rw [if_neg (by omega), if_neg (by omega), key _ (by omega), key _ (by omega)]
/-- a mode, or Even -/
def mN (m : Int) : Int := if m < 0 then 0 else if m > 4 then 0 else m
theorem upR_mN (m : Int) (neg o : Bool) (c : Int) : upR (mN m) neg o c = upR m neg o c := by
  unfold mN
  by_cases h0 : m < 0
  · rw [if_pos h0]
    unfold upR
    rw [if_neg (show ¬ m = 2 by omega), if_neg (show ¬ m = 3 by omega), if_neg (show ¬ m = 4 by omega), if_neg (show ¬ m = 1 by omega)]
    simp
  · rw [if_neg h0]
    by_cases h4 : m > 4
    · rw [if_pos h4]
      unfold upR
      rw [if_neg (show ¬ m = 2 by omega), if_neg (show ¬ m = 3 by omega), if_neg (show ¬ m = 4 by omega), if_neg (show ¬ m = 1 by omega)]
      simp
    · rw [if_neg h4]
theorem toQ_mN (m : Int) (neg : Bool) (T : Nat) (E e : Int) : toQ (mN m) neg T E e = toQ m neg T E e := by
  unfold toQ rq
  simp only [upR_mN]
/-- the document's size -/
def rT (x : W4) (b : Bool) : Nat := match b with | true => 2 * x.nat + 1 | false => x.nat
def jB (b : Bool) : Int := match b with | true => 1 | false => 0
theorem rT_lt {x : W4} (hx : x.ok) (b : Bool) : rT x b < 2 * 2 ^ 256 := by
  have := W4.nat_lt hx
  unfold rT
  cases b <;> simp only <;> omega
theorem tw_toQ (m : Int) (neg : Bool) (x : W4) (b : Bool) (E e : Int) : toQ m neg (tw x b) (E - 1) e = toQ m neg (rT x b) (E - jB b) e := by
  cases b with
  | true => rfl
  | false =>
    have h := toQ_scale m neg x.nat 1 E e
    have e1 : tw x false = x.nat * 2 ^ 1 := by unfold tw; simp [Nat.mul_comm]
    rw [e1]
    simp only [rT, jB, Int.sub_zero]
    exact h
theorem tw_toL (x : W4) (b : Bool) (E e : Int) : toL (tw x b) (E - 1) e = toL (rT x b) (E - jB b) e := by
  cases b with
  | true => rfl
  | false =>
    have h := toL_scale x.nat 1 E e
    have e1 : tw x false = x.nat * 2 ^ 1 := by unfold tw; simp [Nat.mul_comm]
    rw [e1]
    simp only [rT, jB, Int.sub_zero]
    exact h
/-- a whole number of so few bits -/
theorem whole_le {m : Int} {neg : Bool} {x : W4} {b : Bool} (hx : x.ok) {E : Int} (hE : E ≤ 0) : toQ m neg (tw x b) (E - 1) 0 ≤ 2 ^ 256 := by
  have h1 := W4.nat_lt hx
  obtain ⟨d, hd⟩ : ∃ d : Nat, (0 - (E - 1)).toNat = d + 1 := ⟨(0 - (E - 1)).toNat - 1, by omega⟩
  unfold toQ
  rw [if_neg (by omega), hd]
  have h2 := (rq_bd m neg (tw x b) (d + 1)).2
  rw [tw_div] at h2
  have h3 : x.nat / 2 ^ d ≤ x.nat := Nat.div_le_self _ _
  omega
end Go.Rn
