/-
  The document's Of (tillerref04): a number of four words as a number of any size, as a call.
-/
import Derived.Test.YteglhjkpcljpmaaG27
import Derived.Test.YteglhjkpcljpmaaG07
import Derived.Test.YteglhjkpcljpmaaG23
import Derived.Test.YteglhjkpcljpmaaG11
import Derived.Test.YteglhjkpcljpmaaG04
namespace Go.Proofs.Yteglhjkpcljpmaa
open Go.KRun Go.Nt Go.Wd
set_option maxRecDepth 100000

def w8 (x : W4) : List Int := [IntKind.u32.wrap (x.a.tmod 4294967296), IntKind.u32.wrap (IntKind.u64.wrap (x.a.tdiv 4294967296)), IntKind.u32.wrap (x.b.tmod 4294967296), IntKind.u32.wrap (IntKind.u64.wrap (x.b.tdiv 4294967296)), IntKind.u32.wrap (x.c.tmod 4294967296), IntKind.u32.wrap (IntKind.u64.wrap (x.c.tdiv 4294967296)), IntKind.u32.wrap (x.d.tmod 4294967296), IntKind.u32.wrap (IntKind.u64.wrap (x.d.tdiv 4294967296))]
def cl5 (e : Int) : Int := if 200000 < (if -200000 > e then -200000 else e) then 200000 else (if -200000 > e then -200000 else e)
theorem cl5_bd (e : Int) : -200000 ≤ cl5 e ∧ cl5 e ≤ 200000 := by unfold cl5; split <;> split <;> omega
def vA4 (x : W4) : Value := .agg #[.int .u64 x.a, .int .u64 x.b, .int .u64 x.c, .int .u64 x.d]
def V8 (x : W4) : Nat := v32 (wU (w8 x)) 0 8
def oS1 (F : Func) : List Code := [cFst (cBody F), cFst (cSnd (cBody F)), cFst (cSnd (cSnd (cBody F))), cFst (cSnd (cSnd (cSnd (cBody F)))), cFst (cSnd (cSnd (cSnd (cSnd (cBody F)))))]
def oS2 (F : Func) : Code := cSnd (cSnd (cSnd (cSnd (cSnd (cBody F)))))
def bNum : List Value × TypeId := ([.bool false, .int .i64 0, nilS], 57)
def pr2 (x y : Int) : List Value × TypeId := (wU [IntKind.u32.wrap (x.tmod 4294967296), IntKind.u32.wrap (IntKind.u64.wrap (y.tdiv 4294967296))], tU)
def tmb : List Value × TypeId := ([], 2 * dead)
def lOf (x : W4) : Log := [(rowC tU (wU (w8 x)) 0 8 grown && (wU (w8 x)).all still && Nat.ble (2 * 8) 1073741824, true), (decide (0 < 8), true), (false, false), (decide ((4294967296 : Int) = 0), false), (true, true), (decide ((4294967296 : Int) = 0), false), (true, true), (decide ((4294967296 : Int) = 0), false), (true, true), (decide ((4294967296 : Int) = 0), false), (true, true)]
def hZ (R Z9 Z8 Z7 Z6 Z5 Z4 Z3 Z2 B Z0 : List Value × TypeId) : Hp := ⟨11, [R, Z9, Z8, Z7, Z6, Z5, Z4, Z3, Z2, B, Z0]⟩
def e1 (e : Int) : Int := IntKind.i64.wrap (e - 1)
def nxt (h : Hp) (V : Nat) : Hp := h.push (wU (d16 V)) tU
/-- twice, and one more: the sum's number, from the memory that holds its two -/
def sm2 (h : Hp) (A : Nat) : Nat := vO (nxt (nxt h A) 1) (some ⟨11, 0, none⟩) (d16 A).length + vO (nxt (nxt h A) 1) (some ⟨12, 0, none⟩) (d16 1).length
def sm1 (h : Hp) : Nat := vO (nxt h 1) none 0 + vO (nxt h 1) (some ⟨11, 0, none⟩) (d16 1).length
def okOne1 : Bool × Bool := (decide (0 ≤ (1 : Int) ∧ (1 : Int) < 18446744073709551616), true)
def lT1 (h : Hp) (n c A : Nat) : Log := [(two16 (nxt (nxt h A) 1) (some ⟨11, 0, none⟩) (some ⟨12, 0, none⟩) (d16 A).length (d16 A).length (d16 1).length (d16 1).length, true), (decide (0 < (d16 A).length ∨ 0 < (d16 1).length), true), okOne1, (rowP h (some ⟨10, 0, none⟩) n c && dgB (rowOf h (some ⟨10, 0, none⟩) n) && Nat.blt ((1 : Int).toNat / 16 + n + 3) 1073741824 && decide (0 ≤ (1 : Int)), true), (decide (0 < n), true)]
def lT0 (h : Hp) (n c : Nat) : Log := [(two16 (nxt h 1) none (some ⟨11, 0, none⟩) 0 0 (d16 1).length (d16 1).length, true), (decide (0 < 0 ∨ 0 < (d16 1).length), true), okOne1, (rowP h (some ⟨10, 0, none⟩) n c, true), (decide (0 < n), false)]
def dbl (h : Hp) (n : Nat) : Nat := vO h (some ⟨10, 0, none⟩) n * 2 ^ (1 : Int).toNat
end Go.Proofs.Yteglhjkpcljpmaa

/-
  Rows of parts of 16 bits that were made: what is asked of them.
-/
namespace Go.Proofs.Yteglhjkpcljpmaa
open Go.KRun Go.Nt
set_option maxRecDepth 100000

/-! ### rows that were made -/
theorem d16_len {A k : Nat} (h : A < 2 ^ (16 * k)) : (d16 A).length ≤ k := db_len (by omega) k A (by rw [pow16]; exact h)
theorem rowOf_d16 {h : Hp} {b A : Nat} {ty : TypeId} (hb : h.blk? b = some (wU (d16 A), ty)) : rowOf h (some ⟨b, 0, none⟩) (d16 A).length = d16 A := by
  simp only [rowOf, hb]
  exact cut_wU _
theorem vO_d16 {h : Hp} {b A : Nat} {ty : TypeId} (hb : h.blk? b = some (wU (d16 A), ty)) : vO h (some ⟨b, 0, none⟩) (d16 A).length = A := by
  unfold vO
  rw [rowOf_d16 hb]
  exact vb_db (by omega) A
theorem vO_nil (h : Hp) : vO h none 0 = 0 := rfl
theorem rowP_d16 {h : Hp} {b A : Nat} (hb : h.blk? b = some (wU (d16 A), tU)) (hl : (d16 A).length < 1073741824) : rowP h (some ⟨b, 0, none⟩) (d16 A).length (d16 A).length = true := by
  simp only [rowP, hb, Bool.and_eq_true]
  refine ⟨rowC_wU (fun x hx => ⟨(d16_dg A x hx).1, by have := (d16_dg A x hx).2; omega⟩) (by omega) ?_, List.all_eq_true.2 (wU_still _)⟩
  unfold capOk
  simp only [Bool.or_eq_true, Bool.and_eq_true]
  exact .inl ⟨blt_iff.2 (by unfold dead; omega), Nat.ble_eq_true_of_le (Nat.le_refl _)⟩
theorem dgB_d16 {h : Hp} {b A : Nat} {ty : TypeId} (hb : h.blk? b = some (wU (d16 A), ty)) : dgB (rowOf h (some ⟨b, 0, none⟩) (d16 A).length) = true := by
  rw [rowOf_d16 hb]
  exact dgB_mk (d16_dg A)
theorem two_d16 {h : Hp} {b b' A A' : Nat} (hb : h.blk? b = some (wU (d16 A), tU)) (hb' : h.blk? b' = some (wU (d16 A'), tU)) (hl : (d16 A).length < 1073741800) (hl' : (d16 A').length < 1073741800) : two16 h (some ⟨b, 0, none⟩) (some ⟨b', 0, none⟩) (d16 A).length (d16 A).length (d16 A').length (d16 A').length = true := by
  unfold two16
  rw [rowP_d16 hb (by omega), rowP_d16 hb' (by omega), dgB_d16 hb, dgB_d16 hb']
  simp only [Bool.true_and]
  exact blt_iff.2 (by omega)
theorem two_nil {h : Hp} {b A : Nat} (hb : h.blk? b = some (wU (d16 A), tU)) (hl : (d16 A).length < 1073741800) : two16 h none (some ⟨b, 0, none⟩) 0 0 (d16 A).length (d16 A).length = true := by
  unfold two16
  rw [rowP_d16 hb (by omega), dgB_d16 hb]
  simp only [Bool.and_true]
  exact Bool.and_eq_true_iff.2 ⟨rfl, blt_iff.2 (by omega)⟩
theorem d16_pos {A : Nat} (h : 0 < (d16 A).length) : A ≠ 0 := by
  rintro rfl
  unfold d16 at h
  rw [db_zero] at h
  simp at h
end Go.Proofs.Yteglhjkpcljpmaa

/-
  The document's Of (tillerref04), as a call; rows of numbers that were made.
-/
namespace Go.Proofs.Yteglhjkpcljpmaa
open Go.KRun Go.Nt Go.Wd
set_option maxRecDepth 100000

theorem d16_one : (d16 1).length = 1 := by
  unfold d16
  rw [db_pos (by omega) (by omega), show 1 / 65536 = 0 from rfl, db_zero]
  rfl
theorem d16_zero {A : Nat} (h : ¬ 0 < (d16 A).length) : A = 0 := by
  have : d16 A = [] := List.length_eq_zero_iff.1 (by omega)
  exact (db_nil (by omega)).1 this

/-! ### its words -/
theorem w8_eq {x : W4} (hx : x.ok) : w8 x = [x.a % 4294967296, x.a / 4294967296, x.b % 4294967296, x.b / 4294967296, x.c % 4294967296, x.c / 4294967296, x.d % 4294967296, x.d / 4294967296] := by
  obtain ⟨h1, h2, h3, h4⟩ := hx
  have key : ∀ y : Int, 0 ≤ y ∧ y < 18446744073709551616 → IntKind.u32.wrap (y.tmod 4294967296) = y % 4294967296 ∧ IntKind.u32.wrap (IntKind.u64.wrap (y.tdiv 4294967296)) = y / 4294967296 := fun y hy => by
    rw [Int.tmod_eq_emod_of_nonneg hy.1, Int.tdiv_eq_ediv_of_nonneg hy.1, wrap32 (n := y % 4294967296) (by omega) (by omega), wrap64 (by omega) (by omega), wrap32 (by omega) (by omega)]
    exact ⟨rfl, rfl⟩
  unfold w8
  rw [(key _ h1).1, (key _ h1).2, (key _ h2).1, (key _ h2).2, (key _ h3).1, (key _ h3).2, (key _ h4).1, (key _ h4).2]
theorem w8_rng {x : W4} (hx : x.ok) : ∀ y ∈ w8 x, 0 ≤ y ∧ y < 4294967296 := by
  rw [w8_eq hx]
  obtain ⟨h1, h2, h3, h4⟩ := hx
  intro y hy
  simp only [List.mem_cons, List.not_mem_nil, or_false] at hy
  rcases hy with rfl | rfl | rfl | rfl | rfl | rfl | rfl | rfl <;> omega
theorem vb_pair {u : Int} (h : 0 ≤ u) (L : List Int) : vb 4294967296 (u % 4294967296 :: u / 4294967296 :: L) = u.toNat + 18446744073709551616 * vb 4294967296 L := by
  simp only [vb]
  generalize vb 4294967296 L = t
  omega
theorem V8_eq {x : W4} (hx : x.ok) : V8 x = x.nat := by
  have hl : (w8 x).length = 8 := rfl
  have e := cut_wU (w8 x)
  rw [hl] at e
  have hv := W4.nat_val hx
  unfold V8 v32
  rw [e, w8_eq hx]
  obtain ⟨h1, h2, h3, h4⟩ := hx
  rw [vb_pair h1.1, vb_pair h2.1, vb_pair h3.1, vb_pair h4.1]
  unfold W4.val at hv
  simp only [vb]
  omega
theorem lOf_ok {x : W4} (hx : x.ok) : okLog (lOf x) := by
  have hl : (w8 x).length = 8 := rfl
  have hrow := rowC_wU (L := w8 x) (c := grown) (w8_rng hx) (by rw [hl]; omega) (capG _)
  rw [hl] at hrow
  have hst : (wU (w8 x)).all still = true := List.all_eq_true.2 (wU_still _)
  unfold lOf
  exact okTwo (by rw [hrow, hst]; rfl) (okTwo rfl (okTwo rfl (okTwo rfl (okTwo rfl (okTwo rfl (okTwo rfl (okTwo rfl (okTwo rfl (okTwo rfl (okOne rfl))))))))))

/-! ### the call -/
def refT (x : W4) (b : Bool) : Nat := match b with | true => 2 * x.nat + 1 | false => x.nat
def refE (e : Int) (b : Bool) : Int := match b with | true => cl5 e - 1 | false => cl5 e
theorem nat_len {x : W4} (hx : x.ok) : (d16 x.nat).length ≤ 16 := d16_len (k := 16) (W4.nat_lt hx)
theorem d16_dbl {x : W4} (hx : x.ok) : (d16 (2 * x.nat)).length ≤ 17 := by
  have h1 : x.nat < 65536 ^ 16 := by rw [pow16]; exact W4.nat_lt hx
  generalize hP : (65536 : Nat) ^ 16 = P at h1
  refine db_len (by omega) 17 (2 * x.nat) ?_
  rw [Nat.pow_succ, hP]
  omega
end Go.Proofs.Yteglhjkpcljpmaa
