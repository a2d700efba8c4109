/-
  What is known of the document's numbers of any size, as one table.
-/
import Derived.Test.YtehfjljnaencjaaG24
import Derived.Test.YtehfjljnaencjaaG07
import Derived.Test.YtehfjljnaencjaaG21
import Derived.Test.YtehfjljnaencjaaG10
namespace Go.Proofs.Ytehfjljnaencjaa
open Go.KRun Go.Nt
set_option maxRecDepth 100000

def hcW : Hc := altH 34 gUof (altH 59 gUlow (altH 77 gUbit (altH 76 gUshr (altH 75 gUshl (altH 80 gUadd (altH 78 gUsub (altH 79 gUcmp (altH 56 gUlen hcV))))))))
theorem hcW_ok : HcOk hcW := altH_ok Try.func34 rfl gUof_ok (altH_ok Try.func59 rfl gUlow_ok (altH_ok Try.func77 rfl gUbit_ok (altH_ok Try.func76 rfl gUshr_ok (altH_ok Try.func75 rfl gUshl_ok (altH_ok Try.func80 rfl gUadd_ok (altH_ok Try.func78 rfl gUsub_ok (altH_ok Try.func79 rfl gUcmp_ok (altH_ok Try.func56 rfl gUlen_ok hcV_ok))))))))
end Go.Proofs.Ytehfjljnaencjaa

/-
  The document's Of (tillerref04): a number of four words as a number of any size, as a call.
-/
namespace Go.Proofs.Ytehfjljnaencjaa
open Go.KRun Go.Nt Go.Wd
set_option maxRecDepth 100000

def w8 (x : W4) : List Int := [IntKind.u32.wrap (x.a.tmod 4294967296), IntKind.u32.wrap (IntKind.u64.wrap (x.a.tdiv 4294967296)), IntKind.u32.wrap (x.b.tmod 4294967296), IntKind.u32.wrap (IntKind.u64.wrap (x.b.tdiv 4294967296)), IntKind.u32.wrap (x.c.tmod 4294967296), IntKind.u32.wrap (IntKind.u64.wrap (x.c.tdiv 4294967296)), IntKind.u32.wrap (x.d.tmod 4294967296), IntKind.u32.wrap (IntKind.u64.wrap (x.d.tdiv 4294967296))]
def cl5 (e : Int) : Int := if 200000 < (if -200000 > e then -200000 else e) then 200000 else (if -200000 > e then -200000 else e)
theorem cl5_bd (e : Int) : -200000 ≤ cl5 e ∧ cl5 e ≤ 200000 := by unfold cl5; split <;> split <;> omega
def vA4 (x : W4) : Value := .agg #[.int .u64 x.a, .int .u64 x.b, .int .u64 x.c, .int .u64 x.d]
def V8 (x : W4) : Nat := v32 (wU (w8 x)) 0 8
def oS1 (F : Func) : List Code := [cFst (cBody F), cFst (cSnd (cBody F)), cFst (cSnd (cSnd (cBody F))), cFst (cSnd (cSnd (cSnd (cBody F)))), cFst (cSnd (cSnd (cSnd (cSnd (cBody F)))))]
def oS2 (F : Func) : Code := cSnd (cSnd (cSnd (cSnd (cSnd (cBody F)))))
def bNum : List Value × TypeId := ([.bool false, .int .i64 0, nilS], 52)
def pr2 (x y : Int) : List Value × TypeId := (wU [IntKind.u32.wrap (x.tmod 4294967296), IntKind.u32.wrap (IntKind.u64.wrap (y.tdiv 4294967296))], tU)
def tmb : List Value × TypeId := ([], 2 * dead)
def lOf (x : W4) : Log := [(rowC tU (wU (w8 x)) 0 8 grown && (wU (w8 x)).all still && Nat.ble (2 * 8) 1073741824, true), (decide (0 < 8), true), (false, false), (decide ((4294967296 : Int) = 0), false), (true, true), (decide ((4294967296 : Int) = 0), false), (true, true), (decide ((4294967296 : Int) = 0), false), (true, true), (decide ((4294967296 : Int) = 0), false), (true, true)]
def hZ (R Z9 Z8 Z7 Z6 Z5 Z4 Z3 Z2 B Z0 : List Value × TypeId) : Hp := ⟨11, [R, Z9, Z8, Z7, Z6, Z5, Z4, Z3, Z2, B, Z0]⟩
def bOf (m : Bool) (e : Int) (v : Value) : List Value × TypeId := ([.bool m, .int .i64 e, v], 52)
def e1 (e : Int) : Int := IntKind.i64.wrap (e - 1)
def nxt (h : Hp) (V : Nat) : Hp := h.push (wU (d16 V)) tU
def sOf (b V : Nat) : Value := sl b 0 (d16 V).length (d16 V).length
/-- twice, and one more: the sum's number, from the memory that holds its two -/
def sm2 (h : Hp) (A : Nat) : Nat := vO (nxt (nxt h A) 1) (some ⟨11, 0, none⟩) (d16 A).length + vO (nxt (nxt h A) 1) (some ⟨12, 0, none⟩) (d16 1).length
def sm1 (h : Hp) : Nat := vO (nxt h 1) none 0 + vO (nxt h 1) (some ⟨11, 0, none⟩) (d16 1).length
def okOne1 : Bool × Bool := (decide (0 ≤ (1 : Int) ∧ (1 : Int) < 18446744073709551616), true)
def lT1 (h : Hp) (n c A : Nat) : Log := [(two16 (nxt (nxt h A) 1) (some ⟨11, 0, none⟩) (some ⟨12, 0, none⟩) (d16 A).length (d16 A).length (d16 1).length (d16 1).length, true), (decide (0 < (d16 A).length ∨ 0 < (d16 1).length), true), okOne1, (rowP h (some ⟨10, 0, none⟩) n c && dgB (rowOf h (some ⟨10, 0, none⟩) n) && Nat.blt ((1 : Int).toNat / 16 + n + 3) 1073741824 && decide (0 ≤ (1 : Int)), true), (decide (0 < n), true)]
def lT0 (h : Hp) (n c : Nat) : Log := [(two16 (nxt h 1) none (some ⟨11, 0, none⟩) 0 0 (d16 1).length (d16 1).length, true), (decide (0 < 0 ∨ 0 < (d16 1).length), true), okOne1, (rowP h (some ⟨10, 0, none⟩) n c, true), (decide (0 < n), false)]
def dbl (h : Hp) (n : Nat) : Nat := vO h (some ⟨10, 0, none⟩) n * 2 ^ (1 : Int).toNat
end Go.Proofs.Ytehfjljnaencjaa

/-
  Rows of parts of 16 bits that were made: what is asked of them.
-/
namespace Go.Proofs.Ytehfjljnaencjaa
open Go.KRun Go.Nt
set_option maxRecDepth 100000

/-! ### rows that were made -/
theorem d16_len {A k : Nat} (h : A < 2 ^ (16 * k)) : (d16 A).length ≤ k := db_len (by omega) k A (by rw [pow16]; exact h)
theorem rowOf_d16 {h : Hp} {b A : Nat} {ty : TypeId} (hb : h.blk? b = some (wU (d16 A), ty)) : rowOf h (some ⟨b, 0, none⟩) (d16 A).length = d16 A := by
  simp only [rowOf, hb]
  exact cut_wU _
theorem vO_d16 {h : Hp} {b A : Nat} {ty : TypeId} (hb : h.blk? b = some (wU (d16 A), ty)) : vO h (some ⟨b, 0, none⟩) (d16 A).length = A := by
  unfold vO
  rw [rowOf_d16 hb]
  exact vb_db (by omega) A
theorem vO_nil (h : Hp) : vO h none 0 = 0 := rfl
theorem rowP_d16 {h : Hp} {b A : Nat} (hb : h.blk? b = some (wU (d16 A), tU)) (hl : (d16 A).length < 1073741824) : rowP h (some ⟨b, 0, none⟩) (d16 A).length (d16 A).length = true := by
  simp only [rowP, hb, Bool.and_eq_true]
  refine ⟨rowC_wU (fun x hx => ⟨(d16_dg A x hx).1, by have := (d16_dg A x hx).2; omega⟩) (by omega) ?_, List.all_eq_true.2 (wU_still _)⟩
  unfold capOk
  simp only [Bool.or_eq_true, Bool.and_eq_true]
  exact .inl ⟨blt_iff.2 (by unfold dead; omega), Nat.ble_eq_true_of_le (Nat.le_refl _)⟩
theorem dgB_d16 {h : Hp} {b A : Nat} {ty : TypeId} (hb : h.blk? b = some (wU (d16 A), ty)) : dgB (rowOf h (some ⟨b, 0, none⟩) (d16 A).length) = true := by
  rw [rowOf_d16 hb]
  exact dgB_mk (d16_dg A)
theorem two_d16 {h : Hp} {b b' A A' : Nat} (hb : h.blk? b = some (wU (d16 A), tU)) (hb' : h.blk? b' = some (wU (d16 A'), tU)) (hl : (d16 A).length < 1073741800) (hl' : (d16 A').length < 1073741800) : two16 h (some ⟨b, 0, none⟩) (some ⟨b', 0, none⟩) (d16 A).length (d16 A).length (d16 A').length (d16 A').length = true := by
  unfold two16
  rw [rowP_d16 hb (by omega), rowP_d16 hb' (by omega), dgB_d16 hb, dgB_d16 hb']
  simp only [Bool.true_and]
  exact blt_iff.2 (by omega)
theorem two_nil {h : Hp} {b A : Nat} (hb : h.blk? b = some (wU (d16 A), tU)) (hl : (d16 A).length < 1073741800) : two16 h none (some ⟨b, 0, none⟩) 0 0 (d16 A).length (d16 A).length = true := by
  unfold two16
  rw [rowP_d16 hb (by omega), dgB_d16 hb]
  simp only [Bool.and_true]
  exact Bool.and_eq_true_iff.2 ⟨rfl, blt_iff.2 (by omega)⟩
theorem d16_pos {A : Nat} (h : 0 < (d16 A).length) : A ≠ 0 := by
  rintro rfl
  unfold d16 at h
  rw [db_zero] at h
  simp at h
end Go.Proofs.Ytehfjljnaencjaa
