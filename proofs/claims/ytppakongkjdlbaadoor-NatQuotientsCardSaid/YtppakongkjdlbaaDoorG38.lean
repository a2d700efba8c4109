/-
  Law NatQuotients: every way.
-/
import Derived.Test.YtppakongkjdlbaaDoorG37
import Derived.Test.YtppakongkjdlbaaDoorG20
import Derived.SizedLaws
namespace Go.Proofs.YtppakongkjdlbaaDoor
open Go.KRun Go.Nt
set_option maxRecDepth 100000
set_option linter.unusedVariables false

theorem quots_calls {w : World} {va vb' : Value} {xa xb : List Value × TypeId} {ka kb : Nat × Nat} {pa pb : Option Addr} {na ca nb cb : Nat} {LA LB : List Int} (Ha : Arg w 1 va xa ka pa na ca LA) (Hb : Arg w 2 vb' xb kb pb nb cb LB) :
    Calls Tryd.prog 6 #[va, vb'] w fun e w' => e = .returned (.bool true) ∧ Tidy w w' := by
  by_cases h1 : 20 < na
  · exact rows_calls0 tabN5 Ha Hb (nqF_l1 xa xb pa pb na ca nb cb 0 0) (nqO_l1 Ha Hb h1) rfl
  by_cases h2 : 20 < nb
  · exact rows_calls0 tabN5 Ha Hb (nqF_l2 xa xb pa pb na ca nb cb 0 0) (nqO_l2 Ha Hb h1 h2) rfl
  cases ba : badL LA with
  | true => exact rows_calls0 tabN5 Ha Hb (nqF_b1 xa xb pa pb na ca nb cb 0 0) (nqO_b1 Ha Hb h1 h2 ba) rfl
  | false =>
  cases bb : badL LB with
  | true => exact rows_calls0 tabN5 Ha Hb (nqF_b2 xa xb pa pb na ca nb cb 0 0) (nqO_b2 Ha Hb h1 h2 ba bb) rfl
  | false =>
  have ra := Ha.row (H := hS0 xa xb) rfl
  have rb := Hb.row (H := hS0 xa xb) rfl
  have la := ra.2.2.1
  have lb := rb.2.2.1
  have qa := badL_canon ra.2.2.2 ba
  have qb := badL_canon rb.2.2.2 bb
  obtain ⟨A, hA⟩ : ∃ A, vb 4294967296 LA = A := ⟨_, rfl⟩
  obtain ⟨B, hB⟩ : ∃ B, vb 4294967296 LB = B := ⟨_, rfl⟩
  by_cases hz : nb = 0
  · exact rows_calls0 tabN5 Ha Hb (nqF_z xa xb pa pb na ca nb cb A B) (nqO_z Ha Hb h1 h2 ba bb hA hB hz) rfl
  have pB : 0 < nb := by omega
  have lA0 : A < 4294967296 ^ na := hA ▸ vb_lt32 qa.1 (by omega)
  have lA : A < 4294967296 ^ 20 := hA ▸ vb_lt32 (m := 20) qa.1 (by omega)
  have lB : B < 4294967296 ^ 20 := hB ▸ vb_lt32 (m := 20) qb.1 (by omega)
  have lB1 : 4294967296 ^ (nb - 1) ≤ B := by
    have := low_vb qb (by omega)
    rw [hB, lb] at this
    exact this
  have hBp : 0 < B := Nat.lt_of_lt_of_le (Nat.pow_pos (by omega)) lB1
  have lA1 : A < 4294967296 ^ (na + 1) := Nat.lt_of_lt_of_le lA0 (Nat.pow_le_pow_right (by omega) (by omega))
  have lQ0 : A / B < 4294967296 ^ 20 := Nat.lt_of_le_of_lt (Nat.div_le_self _ _) lA
  have lR0 : A % B < 4294967296 ^ 20 := Nat.lt_of_le_of_lt (Nat.mod_le _ _) lA
  have pa' := vb_pos qa
  rw [hA, la] at pa'
  by_cases hp : 0 < na
  · have qA : 0 < A := pa'.2 hp
    by_cases hlt : A < B
    · exact rows_calls0 tabN5 Ha Hb (nqF_s xa xb pa pb na ca nb cb A B) (nqO_s Ha Hb h1 h2 ba bb hA hB lA lB lA1 lQ0 lR0 pB hBp hp qA hlt (Nat.mod_eq_of_lt hlt) (len0 (Nat.div_eq_of_lt hlt))) rfl
    · have hle : B ≤ A := by omega
      have hnn : nb ≤ na := by
        refine Decidable.byContradiction fun hc => ?_
        have : 4294967296 ^ na ≤ 4294967296 ^ (nb - 1) := Nat.pow_le_pow_right (by omega) (by omega)
        omega
      have lQ : A / B < 4294967296 ^ (na - nb + 1) := by
        refine (Nat.div_lt_iff_lt_mul hBp).2 ?_
        have e1 : 4294967296 ^ na = 4294967296 ^ (na - nb + 1) * 4294967296 ^ (nb - 1) := by
          rw [← Nat.pow_add, show na - nb + 1 + (nb - 1) = na by omega]
        exact Nat.lt_of_lt_of_le lA0 (e1 ▸ Nat.mul_le_mul_left _ lB1)
      have lR : A % B < 4294967296 ^ (na + 1) := Nat.lt_of_le_of_lt (Nat.mod_le _ _) lA1
      have hq : 0 < A / B := Nat.div_pos hle hBp
      by_cases hr : 0 < A % B
      · exact rows_calls0 tabN5 Ha Hb (nqF_gT xa xb pa pb na ca nb cb A B) (nqO_gT Ha Hb h1 h2 ba bb hA hB lA lB lA1 lQ0 lR0 pB hBp hp qA hle hq lQ lR hr) rfl
      · have hr0 : A % B = 0 := by omega
        exact rows_calls0 tabN5 Ha Hb (nqF_gF xa xb pa pb na ca nb cb A B) (nqO_gF Ha Hb h1 h2 ba bb hA hB lA lB lA1 lQ0 lR0 pB hBp hp qA hle hq lQ lR hr0 (len0 hr0)) rfl
  · have qA : A = 0 := by omega
    exact rows_calls0 tabN5 Ha Hb (nqF_n xa xb pa pb na ca nb cb A B) (nqO_n Ha Hb h1 h2 ba bb hA hB lA lB lA1 lQ0 lR0 pB hBp hp qA (by omega)) rfl
end Go.Proofs.YtppakongkjdlbaaDoor

/-
  The row's side of a law whose arguments are rows of words of 32 bits: an argument opened into the small memory's terms, and shut.
-/
namespace Go.Proofs.YtppakongkjdlbaaDoor
open Go.KRun Go.Nt Go.ChangeShapes Go.WideShapes Go.ChangeAt Go.RowKit
set_option maxRecDepth 100000
set_option linter.unusedVariables false

theorem sl_ty : Tryd.prog.underlying 22 = some (.slice 44) := by kernel_rfl
theorem sl_el : Tryd.prog.underlying 44 = some (.int .u32) := by kernel_rfl
theorem sl_ce : Tryd.prog.cellsOf 44 = 1 := by kernel_rfl
theorem sl_by : Tryd.prog.bytesOf 44 = 4 := by kernel_rfl
variable {H : Type} {enc : TypeId × Value → H}
theorem shut_rowS {w w' : World} {b off len : Nat} {cs : Array Value} {zs : List Int} (hL : Lain w b off cs zs) (hle : len ≤ zs.length) (hm : zs.length ≤ maxLen) (hb : w'.heap[b]? = w.heap[b]?) (sp : Nat → Bool) (hsp : ∀ p ∈ MemPlace.row ⟨b, off, none⟩ zs.length, sp p.block = true) :
    DataW.Trod enc Tryd.prog w' 0 sp true 22 (.slice (some ⟨b, off, none⟩) len zs.length) (.slice (lits .u32 (zs.take len)) (lits .u32 (zs.drop len))) (MemPlace.row ⟨b, off, none⟩ zs.length) := by
  refine ⟨2, ?_⟩
  have := shut_ints' (enc := enc) (P := Tryd.prog) (w := w') (base := 0) (spare := sp) (held := true) (b := b) (off := off) (len := len) (cap := zs.length) (zs := zs) 0 sl_ty sl_el sl_ce (Nat.zero_le _) hle hm (by
    rcases Nat.eq_zero_or_pos zs.length with h0 | h0
    · have : len = 0 := by omega
      rw [h0, this]
      simp
    · have := hsp (.cell b (off + 0)) (MemPlace.mem_row.2 ⟨0, h0, rfl⟩)
      have e : sp b = true := this
      rw [e]
      simp) (fun i hi => by
    obtain ⟨ty, z, hh⟩ := hL.heap
    unfold World.cell?
    rw [hb, hh]
    simpa using hL.cell i hi) hL.wf
  simpa [Value.cells] using this
/-- one argument -/
theorem arg_of {w : World} {base : Nat} {r : Go.Reach} {v : Value} {d : DataW H} {p : List MemPlace} (i : Nat) (hval : Value.okWide Tryd.prog w r base 22 v) (h : DataW.Trod enc Tryd.prog w 0 (fun _ => true) true 22 v d p) (hsz : ∀ x y, d = .slice x y → (x.length + y.length) * Tryd.prog.bytesOf 44 ≤ reachBytes) :
    (∃ x k q n c L, Arg w i v x k q n c L) ∧ ∀ w' sp, Tidy w w' → (∀ y ∈ p, sp y.block = true) → DataW.Trod enc Tryd.prog w' 0 sp true 22 v d p := by
  rcases open_row sl_ty sl_el sl_ce hval h with ⟨rfl, rfl, rfl⟩ | ⟨b, off, len, cs, zs, rfl, hle, hL, rfl, rfl, hm⟩
  · refine ⟨⟨_, (0, 0), _, _, _, _, .inl ⟨rfl, rfl, rfl, rfl, rfl, rfl⟩⟩, fun w' sp _ _ => ?_⟩
    exact ⟨2, by simp [Value.cells, DataW.trod]⟩
  · have hs := hsz _ _ rfl
    rw [sl_by] at hs
    simp only [lits, List.length_map, List.length_take, List.length_drop, reachBytes] at hs
    refine ⟨⟨_, _, _, _, _, _, .inr ⟨b, off, cs, zs, rfl, hL, rfl, hle, by omega, rfl, rfl, rfl, rfl⟩⟩, fun w' sp ht hp => ?_⟩
    obtain ⟨ty, z, hh⟩ := hL.heap
    exact shut_rowS hL hle hm (ht.1.block _ (Array.getElem?_eq_some_iff.1 hh).1) sp hp
end Go.Proofs.YtppakongkjdlbaaDoor
