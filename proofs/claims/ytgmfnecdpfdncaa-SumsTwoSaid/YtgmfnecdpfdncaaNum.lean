/-
  PLAIN ARITHMETIC: four words of 64 bits and the number that they are. No program is named here.
-/
namespace Go.Wd

structure W4 where
  a : Int
  b : Int
  c : Int
  d : Int

def W4.val (x : W4) : Int := x.a + 18446744073709551616 * x.b + 340282366920938463463374607431768211456 * x.c + 6277101735386680763835789423207666416102355444464034512896 * x.d
abbrev W4.ok (x : W4) : Prop := (0 ≤ x.a ∧ x.a < 18446744073709551616) ∧ (0 ≤ x.b ∧ x.b < 18446744073709551616) ∧ (0 ≤ x.c ∧ x.c < 18446744073709551616) ∧ (0 ≤ x.d ∧ x.d < 18446744073709551616)
/-- the lowest 256 bits of a number -/
def W4.of (n : Int) : W4 :=
  ⟨n % 18446744073709551616, n / 18446744073709551616 % 18446744073709551616, n / 340282366920938463463374607431768211456 % 18446744073709551616, n / 6277101735386680763835789423207666416102355444464034512896 % 18446744073709551616⟩

def eqW (x y : W4) : Bool := x.a == y.a && (x.b == y.b && (x.c == y.c && (x.d == y.d && true)))
theorem eqW_iff {x y : W4} : eqW x y = true ↔ x = y := by
  cases x; cases y; simp [eqW]
theorem W4.ext' {x y : W4} (h1 : x.a = y.a) (h2 : x.b = y.b) (h3 : x.c = y.c) (h4 : x.d = y.d) : x = y := by
  cases x; cases y; simp_all

theorem W4.ok_of (n : Int) : (W4.of n).ok := by
  unfold W4.of W4.ok
  refine ⟨⟨?_, ?_⟩, ⟨?_, ?_⟩, ⟨?_, ?_⟩, ⟨?_, ?_⟩⟩ <;> dsimp only <;> omega
theorem W4.of_val {x : W4} (h : x.ok) : W4.of x.val = x := by
  obtain ⟨a, b, c, d⟩ := x
  unfold W4.ok at h
  unfold W4.val W4.of
  dsimp only at *
  refine W4.ext' ?_ ?_ ?_ ?_ <;> dsimp only <;> omega
theorem W4.val_of (n : Int) : (W4.of n).val = n % 115792089237316195423570985008687907853269984665640564039457584007913129639936 := by
  unfold W4.val W4.of
  dsimp only
  omega
theorem W4.val_bd {x : W4} (h : x.ok) : 0 ≤ x.val ∧ x.val < 115792089237316195423570985008687907853269984665640564039457584007913129639936 := by
  obtain ⟨a, b, c, d⟩ := x
  unfold W4.ok at h
  unfold W4.val
  dsimp only at *
  omega
theorem W4.val_inj {x y : W4} (hx : x.ok) (hy : y.ok) (h : x.val = y.val) : x = y := by
  rw [← W4.of_val hx, ← W4.of_val hy, h]

/-! ### a sum -/
def ad (x y c : Int) : Int := (x + y + c) % 18446744073709551616
def ca (x y c : Int) : Int := (x + y + c) / 18446744073709551616
def addR (x y : W4) : W4 := ⟨ad x.a y.a 0, ad x.b y.b (ca x.a y.a 0), ad x.c y.c (ca x.b y.b (ca x.a y.a 0)), ad x.d y.d (ca x.c y.c (ca x.b y.b (ca x.a y.a 0)))⟩
def addC (x y : W4) : Int := ca x.d y.d (ca x.c y.c (ca x.b y.b (ca x.a y.a 0)))
theorem addR_eq {x y : W4} (hx : x.ok) (hy : y.ok) : addR x y = W4.of (x.val + y.val) := by
  obtain ⟨a, b, c, d⟩ := x
  obtain ⟨a', b', c', d'⟩ := y
  unfold W4.ok at hx hy
  unfold W4.val W4.of addR ad ca
  dsimp only at *
  refine W4.ext' ?_ ?_ ?_ ?_ <;> dsimp only <;> omega
theorem addC_eq {x y : W4} (hx : x.ok) (hy : y.ok) : (addC x y != 0) = decide (115792089237316195423570985008687907853269984665640564039457584007913129639936 ≤ x.val + y.val) := by
  obtain ⟨a, b, c, d⟩ := x
  obtain ⟨a', b', c', d'⟩ := y
  unfold W4.ok at hx hy
  unfold W4.val addC ca
  dsimp only at *
  rw [Bool.eq_iff_iff]
  simp only [bne_iff_ne, ne_eq, decide_eq_true_eq]
  omega

/-! ### a difference -/
def sb (x y c : Int) : Int := (x + 18446744073709551616 - y - c) % 18446744073709551616
def bo (x y c : Int) : Int := if x < y + c then 1 else 0
def subR (x y : W4) : W4 := ⟨sb x.a y.a 0, sb x.b y.b (bo x.a y.a 0), sb x.c y.c (bo x.b y.b (bo x.a y.a 0)), sb x.d y.d (bo x.c y.c (bo x.b y.b (bo x.a y.a 0)))⟩
def subC (x y : W4) : Int := bo x.d y.d (bo x.c y.c (bo x.b y.b (bo x.a y.a 0)))
theorem bo_01 (x y c : Int) : bo x y c = 0 ∨ bo x y c = 1 := by unfold bo; split <;> simp
theorem bo_spec (x y c : Int) : (bo x y c = 1 ∧ x < y + c) ∨ (bo x y c = 0 ∧ y + c ≤ x) := by unfold bo; split <;> omega
theorem subR_eq {x y : W4} (hx : x.ok) (hy : y.ok) : subR x y = W4.of (x.val - y.val) := by
  obtain ⟨a, b, c, d⟩ := x
  obtain ⟨a', b', c', d'⟩ := y
  unfold W4.ok at hx hy
  unfold W4.val W4.of subR sb
  dsimp only at *
  have h1 := bo_spec a a' 0
  have h2 := bo_spec b b' (bo a a' 0)
  have h3 := bo_spec c c' (bo b b' (bo a a' 0))
  generalize bo c c' (bo b b' (bo a a' 0)) = k3 at *
  generalize bo b b' (bo a a' 0) = k2 at *
  generalize bo a a' 0 = k1 at *
  refine W4.ext' ?_ ?_ ?_ ?_ <;> dsimp only <;> omega
theorem subC_eq {x y : W4} (hx : x.ok) (hy : y.ok) : (subC x y != 0) = decide (x.val < y.val) := by
  obtain ⟨a, b, c, d⟩ := x
  obtain ⟨a', b', c', d'⟩ := y
  unfold W4.ok at hx hy
  unfold W4.val subC
  dsimp only at *
  have h1 := bo_spec a a' 0
  have h2 := bo_spec b b' (bo a a' 0)
  have h3 := bo_spec c c' (bo b b' (bo a a' 0))
  have h4 := bo_spec d d' (bo c c' (bo b b' (bo a a' 0)))
  generalize bo d d' (bo c c' (bo b b' (bo a a' 0))) = k4 at *
  generalize bo c c' (bo b b' (bo a a' 0)) = k3 at *
  generalize bo b b' (bo a a' 0) = k2 at *
  generalize bo a a' 0 = k1 at *
  rw [Bool.eq_iff_iff]
  simp only [bne_iff_ne, ne_eq, decide_eq_true_eq]
  omega
end Go.Wd
