/-
  PLAIN ARITHMETIC: words moved, told by one number; what is beyond a multiple, bit by bit.
-/
import Derived.Test.YtnolcojnodoecaaG18
import Derived.Test.YtnolcojnodoecaaG19
import Derived.Test.YtnolcojnodoecaaG05
namespace Go.Wd
open Go.Rn

/-- a number of four words, as a whole number -/
def W4.nat (x : W4) : Nat := x.val.toNat
theorem W4.nat_val {x : W4} (h : x.ok) : x.val = (x.nat : Int) := by
  have := (W4.val_bd h).1
  unfold W4.nat
  omega
theorem W4.nat_lt {x : W4} (h : x.ok) : x.nat < 2 ^ 256 := by
  have := W4.val_bd h
  have e : (2 : Nat) ^ 256 = 115792089237316195423570985008687907853269984665640564039457584007913129639936 := rfl
  unfold W4.nat
  omega
def ofN (n : Nat) : W4 := W4.of (n : Int)
theorem ofN_ok (n : Nat) : (ofN n).ok := W4.ok_of _
theorem ofN_nat {n : Nat} (h : n < 2 ^ 256) : (ofN n).nat = n := by
  have e : (2 : Nat) ^ 256 = 115792089237316195423570985008687907853269984665640564039457584007913129639936 := rfl
  unfold W4.nat ofN
  rw [W4.val_of]
  omega
theorem ofN_self {x : W4} (h : x.ok) : ofN x.nat = x := by
  unfold ofN
  rw [← W4.nat_val h, W4.of_val h]
theorem of_mod (n : Int) : W4.of (n % 115792089237316195423570985008687907853269984665640564039457584007913129639936) = W4.of n := by
  unfold W4.of
  refine W4.ext' ?_ ?_ ?_ ?_ <;> dsimp only <;> omega
theorem ofN_mod (n : Nat) : ofN (n % 2 ^ 256) = ofN n := by
  have e : (2 : Nat) ^ 256 = 115792089237316195423570985008687907853269984665640564039457584007913129639936 := rfl
  unfold ofN
  rw [← of_mod (n : Int), e]
  congr 1
theorem ofN_zero : ofN 0 = ⟨0, 0, 0, 0⟩ := by rfl
theorem ofN_big {n k : Nat} (h : 256 ≤ k) : ofN (n * 2 ^ k) = ⟨0, 0, 0, 0⟩ := by
  rw [← ofN_mod]
  have : n * 2 ^ k % 2 ^ 256 = 0 := by
    obtain ⟨j, rfl⟩ : ∃ j, k = j + 256 := ⟨k - 256, by omega⟩
    rw [Nat.pow_add, ← Nat.mul_assoc, Nat.mul_mod_left]
  rw [this, ofN_zero]
theorem ofN_mul_mod (n k : Nat) : ofN (n % 2 ^ 256 * k) = ofN (n * k) := by
  rw [← ofN_mod (n % 2 ^ 256 * k), ← ofN_mod (n * k), Nat.mod_mul_mod]
theorem small_div {n k : Nat} (h : n < 2 ^ 256) (hk : 256 ≤ k) : n / 2 ^ k = 0 := by
  have := Nat.pow_le_pow_right (show 0 < 2 by omega) hk
  exact Nat.div_eq_of_lt (by omega)
theorem small_mod {n k : Nat} (h : n < 2 ^ 256) (hk : 256 ≤ k) : n % 2 ^ k = n := by
  have := Nat.pow_le_pow_right (show 0 < 2 by omega) hk
  exact Nat.mod_eq_of_lt (by omega)
theorem cast_pow (k : Nat) : ((2 : Int) ^ k) = ((2 ^ k : Nat) : Int) := by simp
/-- the size: a half more, if so -/
def tw (x : W4) (b : Bool) : Nat := 2 * x.nat + (match b with | true => 1 | false => 0)
theorem tw_div (x : W4) (b : Bool) (d : Nat) : tw x b / 2 ^ (d + 1) = x.nat / 2 ^ d := by
  unfold tw
  rw [Nat.pow_succ, Nat.mul_comm (2 ^ d) 2, ← Nat.div_div_eq_div_mul]
  congr 1
  cases b <;> simp only <;> omega
theorem tw_mod (x : W4) (b : Bool) (d : Nat) : tw x b % 2 ^ (d + 1) = 2 * (x.nat % 2 ^ d) + (match b with | true => 1 | false => 0) := by
  unfold tw
  rw [Nat.pow_succ, Nat.mul_comm (2 ^ d) 2, Nat.mod_mul]
  have e : (2 * x.nat + (match b with | true => 1 | false => 0)) / 2 = x.nat := by cases b <;> simp only <;> omega
  rw [e]
  cases b <;> simp only <;> omega
theorem tw_zero {x : W4} {b : Bool} (h : x.ok) : tw x b = 0 ↔ (eqW x ⟨0, 0, 0, 0⟩ && !b) = true := by
  have e : x.nat = 0 ↔ x = ⟨0, 0, 0, 0⟩ := by
    constructor
    · intro h0
      rw [← ofN_self h, h0, ofN_zero]
    · intro h0; rw [h0]; rfl
  rw [Bool.and_eq_true, eqW_iff, ← e]
  unfold tw
  cases b <;> simp <;> omega
/-- what is beyond, by bits: d: one bit fewer than the multiple has -/
theorem rc_none {x : W4} {d : Nat} (h : x.nat % 2 ^ d = 0) : restC (tw x false % 2 ^ (d + 1)) (2 ^ (d + 1)) = 0 := by
  rw [tw_mod, h]
  simp [restC]
theorem rc_zero {x : W4} : restC (tw x true % 2 ^ (0 + 1)) (2 ^ (0 + 1)) = 2 := by
  rw [tw_mod]
  simp [restC, Nat.mod_one]
theorem mod_bit (V j : Nat) : V % 2 ^ (j + 1) = V % 2 ^ j + 2 ^ j * (V / 2 ^ j % 2) := by rw [Nat.pow_succ, Nat.mod_mul]
theorem rc_below {x : W4} {b : Bool} {j : Nat} (h : x.nat / 2 ^ j % 2 = 0) (h0 : x.nat % 2 ^ (j + 1) ≠ 0 ∨ b = true) : restC (tw x b % 2 ^ (j + 1 + 1)) (2 ^ (j + 1 + 1)) = 1 := by
  have hp : 0 < 2 ^ j := Nat.pow_pos (by omega)
  have hm := mod_bit x.nat j
  rw [h, Nat.mul_zero, Nat.add_zero] at hm
  have hl := Nat.mod_lt x.nat hp
  rw [hm] at h0
  rw [tw_mod, hm, Nat.pow_succ, Nat.pow_succ]
  unfold restC
  cases b
  · simp only [Bool.false_eq_true, or_false] at *
    rw [if_neg (by omega), if_pos (by omega)]
  · simp only
    rw [if_neg (by omega), if_pos (by omega)]
theorem rc_above {x : W4} {b : Bool} {j : Nat} (h : x.nat / 2 ^ j % 2 = 1) (h0 : x.nat % 2 ^ j ≠ 0 ∨ b = true) : restC (tw x b % 2 ^ (j + 1 + 1)) (2 ^ (j + 1 + 1)) = 3 := by
  have hp : 0 < 2 ^ j := Nat.pow_pos (by omega)
  have hm := mod_bit x.nat j
  rw [h, Nat.mul_one] at hm
  rw [tw_mod, hm, Nat.pow_succ, Nat.pow_succ]
  unfold restC
  cases b
  · simp only [Bool.false_eq_true, or_false] at *
    rw [if_neg (by omega), if_neg (by omega), if_neg (by omega)]
  · simp only
    rw [if_neg (by omega), if_neg (by omega), if_neg (by omega)]
theorem rc_half {x : W4} {j : Nat} (h : x.nat / 2 ^ j % 2 = 1) (h0 : x.nat % 2 ^ j = 0) : restC (tw x false % 2 ^ (j + 1 + 1)) (2 ^ (j + 1 + 1)) = 2 := by
  have hp : 0 < 2 ^ j := Nat.pow_pos (by omega)
  have hm := mod_bit x.nat j
  rw [h, h0, Nat.mul_one] at hm
  rw [tw_mod, hm, Nat.pow_succ, Nat.pow_succ]
  unfold restC
  simp only
  rw [if_neg (by omega), if_neg (by omega), if_pos (by omega)]
/-- all below the first bit is nothing: then the number is told by what is above it -/
theorem back_iff {x : W4} (hx : x.ok) {j : Nat} (h : x.nat / 2 ^ j % 2 = 1) : eqW x (ofN ((2 * (x.nat / 2 ^ (j + 1)) + 1) * 2 ^ j)) = decide (x.nat % 2 ^ j = 0) := by
  have hl := W4.nat_lt hx
  have hm := mod_bit x.nat j
  rw [h, Nat.mul_one] at hm
  have hd := Nat.div_add_mod x.nat (2 ^ (j + 1))
  have e : (2 * (x.nat / 2 ^ (j + 1)) + 1) * 2 ^ j = x.nat - x.nat % 2 ^ j := by
    rw [Nat.pow_succ] at hd hm ⊢
    rw [Nat.add_mul, Nat.one_mul, Nat.mul_comm 2, Nat.mul_assoc, Nat.mul_comm 2, Nat.mul_comm]
    omega
  rw [e, Bool.eq_iff_iff, eqW_iff, decide_eq_true_eq]
  have hle : x.nat % 2 ^ j ≤ x.nat := Nat.mod_le _ _
  constructor
  · intro hh
    have := congrArg W4.nat hh
    rw [ofN_nat (by omega)] at this
    omega
  · intro hh
    rw [hh, Nat.sub_zero, ofN_self hx]
end Go.Wd

/-
  The document's Of (tillerref04): a number of four words as a number of any size, as a call.
-/
namespace Go.Proofs.Ytnolcojnodoecaa
open Go.KRun Go.Nt Go.Wd
set_option maxRecDepth 100000

def w8 (x : W4) : List Int := [IntKind.u32.wrap (x.a.tmod 4294967296), IntKind.u32.wrap (IntKind.u64.wrap (x.a.tdiv 4294967296)), IntKind.u32.wrap (x.b.tmod 4294967296), IntKind.u32.wrap (IntKind.u64.wrap (x.b.tdiv 4294967296)), IntKind.u32.wrap (x.c.tmod 4294967296), IntKind.u32.wrap (IntKind.u64.wrap (x.c.tdiv 4294967296)), IntKind.u32.wrap (x.d.tmod 4294967296), IntKind.u32.wrap (IntKind.u64.wrap (x.d.tdiv 4294967296))]
def cl5 (e : Int) : Int := if 200000 < (if -200000 > e then -200000 else e) then 200000 else (if -200000 > e then -200000 else e)
theorem cl5_bd (e : Int) : -200000 ≤ cl5 e ∧ cl5 e ≤ 200000 := by unfold cl5; split <;> split <;> omega
def vA4 (x : W4) : Value := .agg #[.int .u64 x.a, .int .u64 x.b, .int .u64 x.c, .int .u64 x.d]
def V8 (x : W4) : Nat := v32 (wU (w8 x)) 0 8
def oS1 (F : Func) : List Code := [cFst (cBody F), cFst (cSnd (cBody F)), cFst (cSnd (cSnd (cBody F))), cFst (cSnd (cSnd (cSnd (cBody F)))), cFst (cSnd (cSnd (cSnd (cSnd (cBody F)))))]
def oS2 (F : Func) : Code := cSnd (cSnd (cSnd (cSnd (cSnd (cBody F)))))
def bNum : List Value × TypeId := ([.bool false, .int .i64 0, nilS], 56)
def pr2 (x y : Int) : List Value × TypeId := (wU [IntKind.u32.wrap (x.tmod 4294967296), IntKind.u32.wrap (IntKind.u64.wrap (y.tdiv 4294967296))], tU)
def tmb : List Value × TypeId := ([], 2 * dead)
def lOf (x : W4) : Log := [(rowC tU (wU (w8 x)) 0 8 grown && (wU (w8 x)).all still && Nat.ble (2 * 8) 1073741824, true), (decide (0 < 8), true), (false, false), (decide ((4294967296 : Int) = 0), false), (true, true), (decide ((4294967296 : Int) = 0), false), (true, true), (decide ((4294967296 : Int) = 0), false), (true, true), (decide ((4294967296 : Int) = 0), false), (true, true)]
def hZ (R Z9 Z8 Z7 Z6 Z5 Z4 Z3 Z2 B Z0 : List Value × TypeId) : Hp := ⟨11, [R, Z9, Z8, Z7, Z6, Z5, Z4, Z3, Z2, B, Z0]⟩
def bOf (m : Bool) (e : Int) (v : Value) : List Value × TypeId := ([.bool m, .int .i64 e, v], 56)
def e1 (e : Int) : Int := IntKind.i64.wrap (e - 1)
def nxt (h : Hp) (V : Nat) : Hp := h.push (wU (d16 V)) tU
def sOf (b V : Nat) : Value := sl b 0 (d16 V).length (d16 V).length
/-- twice, and one more: the sum's number, from the memory that holds its two -/
def sm2 (h : Hp) (A : Nat) : Nat := vO (nxt (nxt h A) 1) (some ⟨11, 0, none⟩) (d16 A).length + vO (nxt (nxt h A) 1) (some ⟨12, 0, none⟩) (d16 1).length
def sm1 (h : Hp) : Nat := vO (nxt h 1) none 0 + vO (nxt h 1) (some ⟨11, 0, none⟩) (d16 1).length
def okOne1 : Bool × Bool := (decide (0 ≤ (1 : Int) ∧ (1 : Int) < 18446744073709551616), true)
def lT1 (h : Hp) (n c A : Nat) : Log := [(two16 (nxt (nxt h A) 1) (some ⟨11, 0, none⟩) (some ⟨12, 0, none⟩) (d16 A).length (d16 A).length (d16 1).length (d16 1).length, true), (decide (0 < (d16 A).length ∨ 0 < (d16 1).length), true), okOne1, (rowP h (some ⟨10, 0, none⟩) n c && dgB (rowOf h (some ⟨10, 0, none⟩) n) && Nat.blt ((1 : Int).toNat / 16 + n + 3) 1073741824 && decide (0 ≤ (1 : Int)), true), (decide (0 < n), true)]
def lT0 (h : Hp) (n c : Nat) : Log := [(two16 (nxt h 1) none (some ⟨11, 0, none⟩) 0 0 (d16 1).length (d16 1).length, true), (decide (0 < 0 ∨ 0 < (d16 1).length), true), okOne1, (rowP h (some ⟨10, 0, none⟩) n c, true), (decide (0 < n), false)]
def dbl (h : Hp) (n : Nat) : Nat := vO h (some ⟨10, 0, none⟩) n * 2 ^ (1 : Int).toNat
end Go.Proofs.Ytnolcojnodoecaa

/-
  Sums, differences and the order of the seat's program, as calls: what wide.Add, wide.Sub and wide.Cmp answer of any two numbers, in every world.
-/
namespace Go.Proofs.Ytnolcojnodoecaa
open Go.KRun Go.Wd

def vW (x : W4) : Value := .agg #[.int .u64 x.a, .int .u64 x.b, .int .u64 x.c, .int .u64 x.d]
def w4 : Value → Option W4
  | .agg cs =>
    match cs.toList with
    | [.int .u64 a, .int .u64 b, .int .u64 c, .int .u64 d] => some ⟨a, b, c, d⟩
    | _ => none
  | _ => none
theorem w4_spec {v : Value} {x : W4} (h : w4 v = some x) : v = vW x := by
  unfold w4 at h
  split at h
  · rename_i cs
    split at h
    · rename_i a b c d hc
      cases h
      obtain ⟨l⟩ := cs
      simp only at hc
      subst hc
      rfl
    · cases h
  · cases h

/-- of two numbers -/
def g2 (k : W4 → W4 → List Dec → Option (Value × List Dec × Log)) : Ans := fun vals s =>
  match vals with
  | [x, y] =>
    match w4 x, w4 y with
    | some a, some b =>
      match k a b s with
      | some r => some (r.1, r.2.1, (decide (a.ok ∧ b.ok), true) :: r.2.2)
      | none => none
    | _, _ => none
  | _ => none
theorem g2_ok {f : Nat} {k : W4 → W4 → List Dec → Option (Value × List Dec × Log)}
    (hk : ∀ x y : W4, x.ok → y.ok → ∀ s v s' lg, k x y s = some (v, s', lg) → okLog lg → ∀ w, Calls Try.prog f #[vW x, vW y] w fun e w' => e = .returned v ∧ Tidy w w') : AnsOk f (g2 k) := by
  intro vals s v s' lg h hl w
  unfold g2 at h
  split at h
  · split at h
    · rename_i a b ha hb
      split at h
      · rename_i r hr
        cases h
        have h1 := hl _ (List.mem_cons_self)
        simp only [decide_eq_true_eq] at h1
        rw [w4_spec ha, w4_spec hb]
        exact hk a b h1.1 h1.2 s r.1 r.2.1 r.2.2 hr (fun p hp => hl p (List.mem_cons_of_mem _ hp)) w
      · cases h
    · cases h
  · cases h
/-- an answer that is told outright -/
def plain2 (k : W4 → W4 → Value) : W4 → W4 → List Dec → Option (Value × List Dec × Log) := fun x y s => some (k x y, s, [])
theorem plain2_ok {f : Nat} {k : W4 → W4 → Value} (hk : ∀ x y : W4, x.ok → y.ok → ∀ w, Calls Try.prog f #[vW x, vW y] w fun e w' => e = .returned (k x y) ∧ Tidy w w') : AnsOk f (g2 (plain2 k)) :=
  g2_ok fun x y hx hy s v s' lg h _ w => by
    unfold plain2 at h
    cases h
    exact hk x y hx hy w
/-- a number that is decided ahead -/
def pickN (n : Int) : List Dec → Int × List Dec × Log
  | .inr (.inl k) :: s => (k, s, [(decide (n = k), true)])
  | s => (n, s, [])
theorem pickN_ok {n : Int} {s : List Dec} (h : okLog (pickN n s).2.2) : (pickN n s).1 = n := by
  unfold pickN at *
  split at h
  · rename_i d s
    have := h _ (List.mem_singleton.2 rfl)
    simp only [decide_eq_true_eq] at this
    exact this.symm
  · rfl

theorem okNil : okLog [] := fun _ h => by cases h

/-! ### Add -/
def okA (x y c : Int) : Bool × Bool := (decide (0 ≤ x ∧ 0 ≤ y ∧ 0 ≤ c ∧ c ≤ 1), true)
theorem add_fits (x y : W4) : Fits (reckon (tabOf Try.prog extY conN true) 3000 86 [vW x, vW y] []) (.tuple #[vW (addR x y), .bool (addC x y != 0)])
    [okA x.d y.d (ca x.c y.c (ca x.b y.b (ca x.a y.a 0))), okA x.c y.c (ca x.b y.b (ca x.a y.a 0)), okA x.b y.b (ca x.a y.a 0), okA x.a y.a 0] := ⟨by kernel_rfl, by kernel_rfl, by kernel_rfl, by kernel_rfl⟩
def addV4 (x y : W4) : Value := .tuple #[vW (W4.of (x.val + y.val)), .bool (decide (115792089237316195423570985008687907853269984665640564039457584007913129639936 ≤ x.val + y.val))]
theorem add_calls (x y : W4) (hx : x.ok) (hy : y.ok) (w : World) : Calls Try.prog 86 #[vW x, vW y] w fun e w' => e = .returned (addV4 x y) ∧ Tidy w w' := by
  have h := fits_calls (tabY_ok conN_ok) (add_fits x y) (by
    obtain ⟨h1, h2, h3, h4⟩ := hx
    obtain ⟨k1, k2, k3, k4⟩ := hy
    have b1 : 0 ≤ ca x.a y.a 0 ∧ ca x.a y.a 0 ≤ 1 := by unfold ca; omega
    have b2 : 0 ≤ ca x.b y.b (ca x.a y.a 0) ∧ ca x.b y.b (ca x.a y.a 0) ≤ 1 := by generalize ca x.a y.a 0 = k at *; unfold ca; omega
    have b3 : 0 ≤ ca x.c y.c (ca x.b y.b (ca x.a y.a 0)) ∧ ca x.c y.c (ca x.b y.b (ca x.a y.a 0)) ≤ 1 := by generalize ca x.b y.b (ca x.a y.a 0) = k at *; unfold ca; omega
    intro p hp
    simp only [List.mem_cons, List.not_mem_nil, or_false] at hp
    rcases hp with rfl | rfl | rfl | rfl <;> simp only [okA, decide_eq_true_eq] <;> omega) (by rfl) (by rfl) w
  rw [addR_eq hx hy, addC_eq hx hy] at h
  exact h

/-! ### Sub -/
def okS (x y c : Int) : Bool × Bool := (decide (0 ≤ x ∧ 0 ≤ y ∧ y < 18446744073709551616 ∧ 0 ≤ c ∧ c ≤ 1), true)
theorem sub_fits (x y : W4) : Fits (reckon (tabOf Try.prog extY conN true) 3000 83 [vW x, vW y] []) (.tuple #[vW (subR x y), .bool (subC x y != 0)])
    [okS x.d y.d (bo x.c y.c (bo x.b y.b (bo x.a y.a 0))), okS x.c y.c (bo x.b y.b (bo x.a y.a 0)), okS x.b y.b (bo x.a y.a 0), okS x.a y.a 0] := ⟨by kernel_rfl, by kernel_rfl, by kernel_rfl, by kernel_rfl⟩
def subV4 (x y : W4) : Value := .tuple #[vW (W4.of (x.val - y.val)), .bool (decide (x.val < y.val))]
theorem sub_calls (x y : W4) (hx : x.ok) (hy : y.ok) (w : World) : Calls Try.prog 83 #[vW x, vW y] w fun e w' => e = .returned (subV4 x y) ∧ Tidy w w' := by
  have h := fits_calls (tabY_ok conN_ok) (sub_fits x y) (by
    obtain ⟨h1, h2, h3, h4⟩ := hx
    obtain ⟨k1, k2, k3, k4⟩ := hy
    have b1 := bo_01 x.a y.a 0
    have b2 := bo_01 x.b y.b (bo x.a y.a 0)
    have b3 := bo_01 x.c y.c (bo x.b y.b (bo x.a y.a 0))
    intro p hp
    simp only [List.mem_cons, List.not_mem_nil, or_false] at hp
    rcases hp with rfl | rfl | rfl | rfl <;> simp only [okS, decide_eq_true_eq] <;> omega) (by rfl) (by rfl) w
  rw [subR_eq hx hy, subC_eq hx hy] at h
  exact h

/-! ### Cmp -/
def conS : Con := alt 83 (g2 (plain2 subV4)) conN
theorem conS_ok : ConOk conS := alt_ok Try.func83 rfl (plain2_ok sub_calls) conN_ok
/-- whether it is below 0 is decided ahead -/
def subB : W4 → W4 → List Dec → Option (Value × List Dec × Log) := fun x y s => some (.tuple #[vW (W4.of (x.val - y.val)), .bool (pickB (decide (x.val < y.val)) s).1], (pickB (decide (x.val < y.val)) s).2.1, (pickB (decide (x.val < y.val)) s).2.2)
theorem subB_ok : AnsOk 83 (g2 subB) := g2_ok fun x y hx hy s v s' lg h hl w => by
  unfold subB at h
  cases h
  rw [pickB_ok hl]
  exact sub_calls x y hx hy w
theorem cmp_same (x y : W4) : Fits (reckon (tabOf Try.prog extY conS true) 3000 82 [vW x, vW y] [tst true]) (.int .i64 0) [(eqW x y, true)] := ⟨by kernel_rfl, by kernel_rfl, by kernel_rfl, by kernel_rfl⟩
theorem cmp_less (x y : W4) : Fits (reckon (tabOf Try.prog extY conS true) 3000 82 [vW x, vW y] [tst false, tst true]) (.int .i64 (-1)) [(decide (x.val < y.val), true), (decide (x.ok ∧ y.ok), true), (eqW x y, false)] := ⟨by kernel_rfl, by kernel_rfl, by kernel_rfl, by kernel_rfl⟩
theorem cmp_more (x y : W4) : Fits (reckon (tabOf Try.prog extY conS true) 3000 82 [vW x, vW y] [tst false, tst false]) (.int .i64 1) [(decide (x.val < y.val), false), (decide (x.ok ∧ y.ok), true), (eqW x y, false)] := ⟨by kernel_rfl, by kernel_rfl, by kernel_rfl, by kernel_rfl⟩
def cmpI (x y : W4) : Int := if x.val < y.val then -1 else if x.val = y.val then 0 else 1
def cmpV4 (x y : W4) : Value := .int .i64 (cmpI x y)
theorem cmp_calls (x y : W4) (hx : x.ok) (hy : y.ok) (w : World) : Calls Try.prog 82 #[vW x, vW y] w fun e w' => e = .returned (cmpV4 x y) ∧ Tidy w w' := by
  by_cases he : x = y
  · subst he
    have h := fits_calls (tabY_ok conS_ok) (cmp_same x x) (by
      intro p hp
      simp only [List.mem_cons, List.not_mem_nil, or_false] at hp
      subst hp
      exact eqW_iff.2 rfl) (by rfl) (by rfl) w
    have e : cmpI x x = 0 := by unfold cmpI; rw [if_neg (by omega), if_pos rfl]
    unfold cmpV4
    rw [e]
    exact h
  · have hne : eqW x y = false := by
      cases h : eqW x y
      · rfl
      · exact absurd (eqW_iff.1 h) he
    by_cases hl : x.val < y.val
    · have h := fits_calls (tabY_ok conS_ok) (cmp_less x y) (by
        intro p hp
        simp only [List.mem_cons, List.not_mem_nil, or_false] at hp
        rcases hp with rfl | rfl | rfl
        · simpa using hl
        · simpa using ⟨hx, hy⟩
        · exact hne) (by rfl) (by rfl) w
      have e : cmpI x y = -1 := by unfold cmpI; rw [if_pos hl]
      unfold cmpV4
      rw [e]
      exact h
    · have h := fits_calls (tabY_ok conS_ok) (cmp_more x y) (by
        intro p hp
        simp only [List.mem_cons, List.not_mem_nil, or_false] at hp
        rcases hp with rfl | rfl | rfl
        · simpa using hl
        · simpa using ⟨hx, hy⟩
        · exact hne) (by rfl) (by rfl) w
      have hne' : x.val ≠ y.val := fun h => he (W4.val_inj hx hy h)
      have e : cmpI x y = 1 := by unfold cmpI; rw [if_neg hl, if_neg hne']
      unfold cmpV4
      rw [e]
      exact h
def cmpN : W4 → W4 → List Dec → Option (Value × List Dec × Log) := fun x y s => some (.int .i64 (pickN (cmpI x y) s).1, (pickN (cmpI x y) s).2.1, (pickN (cmpI x y) s).2.2)
theorem cmpN_ok : AnsOk 82 (g2 cmpN) := g2_ok fun x y hx hy s v s' lg h hl w => by
  unfold cmpN at h
  cases h
  rw [pickN_ok hl]
  exact cmp_calls x y hx hy w
end Go.Proofs.Ytnolcojnodoecaa
