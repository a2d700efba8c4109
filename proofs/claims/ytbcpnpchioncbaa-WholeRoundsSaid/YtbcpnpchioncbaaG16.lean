/-
  PLAIN ARITHMETIC: words moved, told by one number; what is beyond a multiple, bit by bit.
-/
import Derived.Test.YtbcpnpchioncbaaG14
import Derived.Test.YtbcpnpchioncbaaG15
import Derived.Test.YtbcpnpchioncbaaG09
import Derived.Test.YtbcpnpchioncbaaG10
namespace Go.Wd
open Go.Rn

/-- a number of four words, as a whole number -/
def W4.nat (x : W4) : Nat := x.val.toNat
theorem W4.nat_val {x : W4} (h : x.ok) : x.val = (x.nat : Int) := by
  have := (W4.val_bd h).1
  unfold W4.nat
  omega
theorem W4.nat_lt {x : W4} (h : x.ok) : x.nat < 2 ^ 256 := by
  have := W4.val_bd h
  have e : (2 : Nat) ^ 256 = 115792089237316195423570985008687907853269984665640564039457584007913129639936 := rfl
  unfold W4.nat
  omega
def ofN (n : Nat) : W4 := W4.of (n : Int)
theorem ofN_ok (n : Nat) : (ofN n).ok := W4.ok_of _
theorem ofN_nat {n : Nat} (h : n < 2 ^ 256) : (ofN n).nat = n := by
  have e : (2 : Nat) ^ 256 = 115792089237316195423570985008687907853269984665640564039457584007913129639936 := rfl
  unfold W4.nat ofN
  rw [W4.val_of]
  omega
theorem ofN_self {x : W4} (h : x.ok) : ofN x.nat = x := by
  unfold ofN
  rw [← W4.nat_val h, W4.of_val h]
theorem of_mod (n : Int) : W4.of (n % 115792089237316195423570985008687907853269984665640564039457584007913129639936) = W4.of n := by
  unfold W4.of
  refine W4.ext' ?_ ?_ ?_ ?_ <;> dsimp only <;> omega
theorem ofN_mod (n : Nat) : ofN (n % 2 ^ 256) = ofN n := by
  have e : (2 : Nat) ^ 256 = 115792089237316195423570985008687907853269984665640564039457584007913129639936 := rfl
  unfold ofN
  rw [← of_mod (n : Int), e]
  congr 1
theorem ofN_zero : ofN 0 = ⟨0, 0, 0, 0⟩ := by rfl
theorem ofN_big {n k : Nat} (h : 256 ≤ k) : ofN (n * 2 ^ k) = ⟨0, 0, 0, 0⟩ := by
  rw [← ofN_mod]
  have : n * 2 ^ k % 2 ^ 256 = 0 := by
    obtain ⟨j, rfl⟩ : ∃ j, k = j + 256 := ⟨k - 256, by omega⟩
    rw [Nat.pow_add, ← Nat.mul_assoc, Nat.mul_mod_left]
  rw [this, ofN_zero]
theorem ofN_mul_mod (n k : Nat) : ofN (n % 2 ^ 256 * k) = ofN (n * k) := by
  rw [← ofN_mod (n % 2 ^ 256 * k), ← ofN_mod (n * k), Nat.mod_mul_mod]
theorem small_div {n k : Nat} (h : n < 2 ^ 256) (hk : 256 ≤ k) : n / 2 ^ k = 0 := by
  have := Nat.pow_le_pow_right (show 0 < 2 by omega) hk
  exact Nat.div_eq_of_lt (by omega)
theorem small_mod {n k : Nat} (h : n < 2 ^ 256) (hk : 256 ≤ k) : n % 2 ^ k = n := by
  have := Nat.pow_le_pow_right (show 0 < 2 by omega) hk
  exact Nat.mod_eq_of_lt (by omega)
theorem cast_pow (k : Nat) : ((2 : Int) ^ k) = ((2 ^ k : Nat) : Int) := by simp
/-- the size: a half more, if so -/
def tw (x : W4) (b : Bool) : Nat := 2 * x.nat + (match b with | true => 1 | false => 0)
theorem tw_div (x : W4) (b : Bool) (d : Nat) : tw x b / 2 ^ (d + 1) = x.nat / 2 ^ d := by
  unfold tw
  rw [Nat.pow_succ, Nat.mul_comm (2 ^ d) 2, ← Nat.div_div_eq_div_mul]
  congr 1
  cases b <;> simp only <;> omega
theorem tw_mod (x : W4) (b : Bool) (d : Nat) : tw x b % 2 ^ (d + 1) = 2 * (x.nat % 2 ^ d) + (match b with | true => 1 | false => 0) := by
  unfold tw
  rw [Nat.pow_succ, Nat.mul_comm (2 ^ d) 2, Nat.mod_mul]
  have e : (2 * x.nat + (match b with | true => 1 | false => 0)) / 2 = x.nat := by cases b <;> simp only <;> omega
  rw [e]
  cases b <;> simp only <;> omega
theorem tw_zero {x : W4} {b : Bool} (h : x.ok) : tw x b = 0 ↔ (eqW x ⟨0, 0, 0, 0⟩ && !b) = true := by
  have e : x.nat = 0 ↔ x = ⟨0, 0, 0, 0⟩ := by
    constructor
    · intro h0
      rw [← ofN_self h, h0, ofN_zero]
    · intro h0; rw [h0]; rfl
  rw [Bool.and_eq_true, eqW_iff, ← e]
  unfold tw
  cases b <;> simp <;> omega
/-- what is beyond, by bits: d: one bit fewer than the multiple has -/
theorem rc_none {x : W4} {d : Nat} (h : x.nat % 2 ^ d = 0) : restC (tw x false % 2 ^ (d + 1)) (2 ^ (d + 1)) = 0 := by
  rw [tw_mod, h]
  simp [restC]
theorem rc_zero {x : W4} : restC (tw x true % 2 ^ (0 + 1)) (2 ^ (0 + 1)) = 2 := by
  rw [tw_mod]
  simp [restC, Nat.mod_one]
theorem mod_bit (V j : Nat) : V % 2 ^ (j + 1) = V % 2 ^ j + 2 ^ j * (V / 2 ^ j % 2) := by rw [Nat.pow_succ, Nat.mod_mul]
theorem rc_below {x : W4} {b : Bool} {j : Nat} (h : x.nat / 2 ^ j % 2 = 0) (h0 : x.nat % 2 ^ (j + 1) ≠ 0 ∨ b = true) : restC (tw x b % 2 ^ (j + 1 + 1)) (2 ^ (j + 1 + 1)) = 1 := by
  have hp : 0 < 2 ^ j := Nat.pow_pos (by omega)
  have hm := mod_bit x.nat j
  rw [h, Nat.mul_zero, Nat.add_zero] at hm
  have hl := Nat.mod_lt x.nat hp
  rw [hm] at h0
  rw [tw_mod, hm, Nat.pow_succ, Nat.pow_succ]
  unfold restC
  cases b
  · simp only [Bool.false_eq_true, or_false] at *
    rw [if_neg (by omega), if_pos (by omega)]
  · simp only
    rw [if_neg (by omega), if_pos (by omega)]
theorem rc_above {x : W4} {b : Bool} {j : Nat} (h : x.nat / 2 ^ j % 2 = 1) (h0 : x.nat % 2 ^ j ≠ 0 ∨ b = true) : restC (tw x b % 2 ^ (j + 1 + 1)) (2 ^ (j + 1 + 1)) = 3 := by
  have hp : 0 < 2 ^ j := Nat.pow_pos (by omega)
  have hm := mod_bit x.nat j
  rw [h, Nat.mul_one] at hm
  rw [tw_mod, hm, Nat.pow_succ, Nat.pow_succ]
  unfold restC
  cases b
  · simp only [Bool.false_eq_true, or_false] at *
    rw [if_neg (by omega), if_neg (by omega), if_neg (by omega)]
  · simp only
    rw [if_neg (by omega), if_neg (by omega), if_neg (by omega)]
theorem rc_half {x : W4} {j : Nat} (h : x.nat / 2 ^ j % 2 = 1) (h0 : x.nat % 2 ^ j = 0) : restC (tw x false % 2 ^ (j + 1 + 1)) (2 ^ (j + 1 + 1)) = 2 := by
  have hp : 0 < 2 ^ j := Nat.pow_pos (by omega)
  have hm := mod_bit x.nat j
  rw [h, h0, Nat.mul_one] at hm
  rw [tw_mod, hm, Nat.pow_succ, Nat.pow_succ]
  unfold restC
  simp only
  rw [if_neg (by omega), if_neg (by omega), if_pos (by omega)]
/-- all below the first bit is nothing: then the number is told by what is above it -/
theorem back_iff {x : W4} (hx : x.ok) {j : Nat} (h : x.nat / 2 ^ j % 2 = 1) : eqW x (ofN ((2 * (x.nat / 2 ^ (j + 1)) + 1) * 2 ^ j)) = decide (x.nat % 2 ^ j = 0) := by
  have hl := W4.nat_lt hx
  have hm := mod_bit x.nat j
  rw [h, Nat.mul_one] at hm
  have hd := Nat.div_add_mod x.nat (2 ^ (j + 1))
  have e : (2 * (x.nat / 2 ^ (j + 1)) + 1) * 2 ^ j = x.nat - x.nat % 2 ^ j := by
    rw [Nat.pow_succ] at hd hm ⊢
    rw [Nat.add_mul, Nat.one_mul, Nat.mul_comm 2, Nat.mul_assoc, Nat.mul_comm 2, Nat.mul_comm]
    omega
  rw [e, Bool.eq_iff_iff, eqW_iff, decide_eq_true_eq]
  have hle : x.nat % 2 ^ j ≤ x.nat := Nat.mod_le _ _
  constructor
  · intro hh
    have := congrArg W4.nat hh
    rw [ofN_nat (by omega)] at this
    omega
  · intro hh
    rw [hh, Nat.sub_zero, ofN_self hx]
end Go.Wd

/-
  The document's Of (tillerref04): a number of four words as a number of any size, as a call.
-/
namespace Go.Proofs.Ytbcpnpchioncbaa
open Go.KRun Go.Nt Go.Wd
set_option maxRecDepth 100000

def w8 (x : W4) : List Int := [IntKind.u32.wrap (x.a.tmod 4294967296), IntKind.u32.wrap (IntKind.u64.wrap (x.a.tdiv 4294967296)), IntKind.u32.wrap (x.b.tmod 4294967296), IntKind.u32.wrap (IntKind.u64.wrap (x.b.tdiv 4294967296)), IntKind.u32.wrap (x.c.tmod 4294967296), IntKind.u32.wrap (IntKind.u64.wrap (x.c.tdiv 4294967296)), IntKind.u32.wrap (x.d.tmod 4294967296), IntKind.u32.wrap (IntKind.u64.wrap (x.d.tdiv 4294967296))]
def cl5 (e : Int) : Int := if 200000 < (if -200000 > e then -200000 else e) then 200000 else (if -200000 > e then -200000 else e)
theorem cl5_bd (e : Int) : -200000 ≤ cl5 e ∧ cl5 e ≤ 200000 := by unfold cl5; split <;> split <;> omega
def vA4 (x : W4) : Value := .agg #[.int .u64 x.a, .int .u64 x.b, .int .u64 x.c, .int .u64 x.d]
def V8 (x : W4) : Nat := v32 (wU (w8 x)) 0 8
def oS1 (F : Func) : List Code := [cFst (cBody F), cFst (cSnd (cBody F)), cFst (cSnd (cSnd (cBody F))), cFst (cSnd (cSnd (cSnd (cBody F)))), cFst (cSnd (cSnd (cSnd (cSnd (cBody F)))))]
def oS2 (F : Func) : Code := cSnd (cSnd (cSnd (cSnd (cSnd (cBody F)))))
def bNum : List Value × TypeId := ([.bool false, .int .i64 0, nilS], 64)
def pr2 (x y : Int) : List Value × TypeId := (wU [IntKind.u32.wrap (x.tmod 4294967296), IntKind.u32.wrap (IntKind.u64.wrap (y.tdiv 4294967296))], tU)
def tmb : List Value × TypeId := ([], 2 * dead)
def lOf (x : W4) : Log := [(rowC tU (wU (w8 x)) 0 8 grown && (wU (w8 x)).all still && Nat.ble (2 * 8) 1073741824, true), (decide (0 < 8), true), (false, false), (decide ((4294967296 : Int) = 0), false), (true, true), (decide ((4294967296 : Int) = 0), false), (true, true), (decide ((4294967296 : Int) = 0), false), (true, true), (decide ((4294967296 : Int) = 0), false), (true, true)]
def hZ (R Z9 Z8 Z7 Z6 Z5 Z4 Z3 Z2 B Z0 : List Value × TypeId) : Hp := ⟨11, [R, Z9, Z8, Z7, Z6, Z5, Z4, Z3, Z2, B, Z0]⟩
def bOf (m : Bool) (e : Int) (v : Value) : List Value × TypeId := ([.bool m, .int .i64 e, v], 64)
def e1 (e : Int) : Int := IntKind.i64.wrap (e - 1)
def nxt (h : Hp) (V : Nat) : Hp := h.push (wU (d16 V)) tU
def sOf (b V : Nat) : Value := sl b 0 (d16 V).length (d16 V).length
/-- twice, and one more: the sum's number, from the memory that holds its two -/
def sm2 (h : Hp) (A : Nat) : Nat := vO (nxt (nxt h A) 1) (some ⟨11, 0, none⟩) (d16 A).length + vO (nxt (nxt h A) 1) (some ⟨12, 0, none⟩) (d16 1).length
def sm1 (h : Hp) : Nat := vO (nxt h 1) none 0 + vO (nxt h 1) (some ⟨11, 0, none⟩) (d16 1).length
def okOne1 : Bool × Bool := (decide (0 ≤ (1 : Int) ∧ (1 : Int) < 18446744073709551616), true)
def lT1 (h : Hp) (n c A : Nat) : Log := [(two16 (nxt (nxt h A) 1) (some ⟨11, 0, none⟩) (some ⟨12, 0, none⟩) (d16 A).length (d16 A).length (d16 1).length (d16 1).length, true), (decide (0 < (d16 A).length ∨ 0 < (d16 1).length), true), okOne1, (rowP h (some ⟨10, 0, none⟩) n c && dgB (rowOf h (some ⟨10, 0, none⟩) n) && Nat.blt ((1 : Int).toNat / 16 + n + 3) 1073741824 && decide (0 ≤ (1 : Int)), true), (decide (0 < n), true)]
def lT0 (h : Hp) (n c : Nat) : Log := [(two16 (nxt h 1) none (some ⟨11, 0, none⟩) 0 0 (d16 1).length (d16 1).length, true), (decide (0 < 0 ∨ 0 < (d16 1).length), true), okOne1, (rowP h (some ⟨10, 0, none⟩) n c, true), (decide (0 < n), false)]
def dbl (h : Hp) (n : Nat) : Nat := vO h (some ⟨10, 0, none⟩) n * 2 ^ (1 : Int).toNat
end Go.Proofs.Ytbcpnpchioncbaa

/-
  Rows of parts of 16 bits that were made: what is asked of them.
-/
namespace Go.Proofs.Ytbcpnpchioncbaa
open Go.KRun Go.Nt
set_option maxRecDepth 100000

/-! ### rows that were made -/
theorem d16_len {A k : Nat} (h : A < 2 ^ (16 * k)) : (d16 A).length ≤ k := db_len (by omega) k A (by rw [pow16]; exact h)
theorem rowOf_d16 {h : Hp} {b A : Nat} {ty : TypeId} (hb : h.blk? b = some (wU (d16 A), ty)) : rowOf h (some ⟨b, 0, none⟩) (d16 A).length = d16 A := by
  simp only [rowOf, hb]
  exact cut_wU _
theorem vO_d16 {h : Hp} {b A : Nat} {ty : TypeId} (hb : h.blk? b = some (wU (d16 A), ty)) : vO h (some ⟨b, 0, none⟩) (d16 A).length = A := by
  unfold vO
  rw [rowOf_d16 hb]
  exact vb_db (by omega) A
theorem vO_nil (h : Hp) : vO h none 0 = 0 := rfl
theorem rowP_d16 {h : Hp} {b A : Nat} (hb : h.blk? b = some (wU (d16 A), tU)) (hl : (d16 A).length < 1073741824) : rowP h (some ⟨b, 0, none⟩) (d16 A).length (d16 A).length = true := by
  simp only [rowP, hb, Bool.and_eq_true]
  refine ⟨rowC_wU (fun x hx => ⟨(d16_dg A x hx).1, by have := (d16_dg A x hx).2; omega⟩) (by omega) ?_, List.all_eq_true.2 (wU_still _)⟩
  unfold capOk
  simp only [Bool.or_eq_true, Bool.and_eq_true]
  exact .inl ⟨blt_iff.2 (by unfold dead; omega), Nat.ble_eq_true_of_le (Nat.le_refl _)⟩
theorem dgB_d16 {h : Hp} {b A : Nat} {ty : TypeId} (hb : h.blk? b = some (wU (d16 A), ty)) : dgB (rowOf h (some ⟨b, 0, none⟩) (d16 A).length) = true := by
  rw [rowOf_d16 hb]
  exact dgB_mk (d16_dg A)
theorem two_d16 {h : Hp} {b b' A A' : Nat} (hb : h.blk? b = some (wU (d16 A), tU)) (hb' : h.blk? b' = some (wU (d16 A'), tU)) (hl : (d16 A).length < 1073741800) (hl' : (d16 A').length < 1073741800) : two16 h (some ⟨b, 0, none⟩) (some ⟨b', 0, none⟩) (d16 A).length (d16 A).length (d16 A').length (d16 A').length = true := by
  unfold two16
  rw [rowP_d16 hb (by omega), rowP_d16 hb' (by omega), dgB_d16 hb, dgB_d16 hb']
  simp only [Bool.true_and]
  exact blt_iff.2 (by omega)
theorem two_nil {h : Hp} {b A : Nat} (hb : h.blk? b = some (wU (d16 A), tU)) (hl : (d16 A).length < 1073741800) : two16 h none (some ⟨b, 0, none⟩) 0 0 (d16 A).length (d16 A).length = true := by
  unfold two16
  rw [rowP_d16 hb (by omega), dgB_d16 hb]
  simp only [Bool.and_true]
  exact Bool.and_eq_true_iff.2 ⟨rfl, blt_iff.2 (by omega)⟩
theorem d16_pos {A : Nat} (h : 0 < (d16 A).length) : A ≠ 0 := by
  rintro rfl
  unfold d16 at h
  rw [db_zero] at h
  simp at h
end Go.Proofs.Ytbcpnpchioncbaa
