/-
  Law NatParts: every way.
-/
import Derived.Test.YtppakongkjdlbaaDoorG35
import Derived.Test.YtppakongkjdlbaaDoorG20
import Derived.SizedLaws
namespace Go.Proofs.YtppakongkjdlbaaDoor
open Go.KRun Go.Nt
set_option maxRecDepth 100000
set_option linter.unusedVariables false

theorem trim_d32 {m V : Nat} (h : V < 4294967296 ^ m) : trimN (dg m (V : Int)) = (d32 V).length := by
  have e : (4294967296 : Int) ^ m = ((4294967296 ^ m : Nat) : Int) := by rw [Int.natCast_pow]; rfl
  have h1 := take_dg (m := m) (V := V) (by rw [e]; exact Int.ofNat_lt.2 h)
  have h2 := congrArg List.length h1
  have h3 := trimN_le (dg m (V : Int))
  rw [List.length_take, Nat.min_eq_left h3] at h2
  exact h2
theorem lt_d32 (V : Nat) : V < 4294967296 ^ (d32 V).length := by
  have := vb_lt (b := 4294967296) (by omega) (d32 V) (d32_wds V)
  rw [show vb 4294967296 (d32 V) = V from vb_db (by omega) V] at this
  exact this
theorem low_vb {L : List Int} (h : canon L) (h0 : 0 < L.length) : 4294967296 ^ (L.length - 1) ≤ vb 4294967296 L := by
  have h1 := vN_low h.1 h0 (h.2.resolve_left (by omega))
  rw [vN_vb h.1, show (4294967296 : Int) ^ (L.length - 1) = ((4294967296 ^ (L.length - 1) : Nat) : Int) from by rw [Int.natCast_pow]; rfl] at h1
  exact Int.ofNat_le.1 h1
theorem mx_two (na nb : Nat) : na ≤ mxN na nb ∧ nb ≤ mxN na nb := by unfold mxN; split <;> omega
theorem parts_calls {w : World} (hw : known w) {va vb' : Value} {xa xb : List Value × TypeId} {ka kb : Nat × Nat} {pa pb : Option Addr} {na ca nb cb : Nat} {LA LB : List Int} (Ha : Arg w 1 va xa ka pa na ca LA) (Hb : Arg w 2 vb' xb kb pb nb cb LB) :
    Calls Tryd.prog 5 #[va, vb'] w fun e w' => e = .returned (.bool true) ∧ Tidy w w' := by
  by_cases h1 : 60 < na
  · exact rows_calls tabN4 hw Ha Hb (npF_l1 xa xb pa pb na ca nb cb 0 0) (npO_l1 Ha Hb h1) rfl
  by_cases h2 : 60 < nb
  · exact rows_calls tabN4 hw Ha Hb (npF_l2 xa xb pa pb na ca nb cb 0 0) (npO_l2 Ha Hb h1 h2) rfl
  cases ba : badL LA with
  | true => exact rows_calls tabN4 hw Ha Hb (npF_b1 xa xb pa pb na ca nb cb 0 0) (npO_b1 Ha Hb h1 h2 ba (by rw [ba]; rfl)) rfl
  | false =>
  cases bb : badL LB with
  | true => exact rows_calls tabN4 hw Ha Hb (npF_b2 xa xb pa pb na ca nb cb 0 0) (npO_b2 Ha Hb h1 h2 ba bb (by rw [ba, bb]; rfl)) rfl
  | false =>
  have ra := Ha.row (H := hS xa xb) rfl
  have rb := Hb.row (H := hS xa xb) rfl
  have la := ra.2.2.1
  have lb := rb.2.2.1
  have qa := badL_canon ra.2.2.2 ba
  have qb := badL_canon rb.2.2.2 bb
  obtain ⟨A, hA⟩ : ∃ A, vb 4294967296 LA = A := ⟨_, rfl⟩
  obtain ⟨B, hB⟩ : ∃ B, vb 4294967296 LB = B := ⟨_, rfl⟩
  by_cases hz : nb = 0
  · exact rows_calls tabN4 hw Ha Hb (npF_z xa xb pa pb na ca nb cb A B) (npO_z Ha Hb h1 h2 ba bb hA hB hz) rfl
  have pB : 0 < nb := by omega
  have lA0 : A < 4294967296 ^ na := hA ▸ vb_lt32 qa.1 (by omega)
  have lB0 : B < 4294967296 ^ nb := hB ▸ vb_lt32 qb.1 (by omega)
  have lB1 : 4294967296 ^ (nb - 1) ≤ B := by
    have := low_vb qb (by omega)
    rw [hB, lb] at this
    exact this
  have hBp : 0 < B := Nat.lt_of_lt_of_le (Nat.pow_pos (by omega)) lB1
  have lA : A < 4294967296 ^ (na + 1) := Nat.lt_of_lt_of_le lA0 (Nat.pow_le_pow_right (by omega) (by omega))
  by_cases hlt : A < B
  · have e1 := trim_d32 lA
    have t1 := trimN_le (dg (na + 1) ((A : Nat) : Int))
    rw [dg_len] at t1
    have m1 := mx_two 0 (trimN (dg (na + 1) ((A : Nat) : Int)))
    refine rows_calls tabN4 hw Ha Hb (npF_s xa xb pa pb na ca nb cb A B) (npO_s Ha Hb h1 h2 ba bb hA hB pB hlt (by unfold cmpZ; rw [if_pos hlt]) lA ?_ ?_) rfl
    · have h3 := lt_d32 A
      rw [← e1] at h3
      exact Nat.lt_of_lt_of_le h3 (Nat.pow_le_pow_right (by omega) (by omega))
    · unfold mxN
      split <;> omega
  · have hle : B ≤ A := by omega
    have hnn : nb ≤ na := by
      refine Decidable.byContradiction fun hc => ?_
      have : 4294967296 ^ na ≤ 4294967296 ^ (nb - 1) := Nat.pow_le_pow_right (by omega) (by omega)
      omega
    have lQ : A / B < 4294967296 ^ (na - nb + 1) := by
      refine (Nat.div_lt_iff_lt_mul hBp).2 ?_
      have e1 : 4294967296 ^ na = 4294967296 ^ (na - nb + 1) * 4294967296 ^ (nb - 1) := by
        rw [← Nat.pow_add, show na - nb + 1 + (nb - 1) = na by omega]
      exact Nat.lt_of_lt_of_le lA0 (e1 ▸ Nat.mul_le_mul_left _ lB1)
    have lR : A % B < 4294967296 ^ (na + 1) := Nat.lt_of_le_of_lt (Nat.mod_le _ _) lA
    have eq' := trim_d32 lQ
    have er := trim_d32 lR
    have t1 := trimN_le (dg (na - nb + 1) ((A / B : Nat) : Int))
    have t2 := trimN_le (dg (na + 1) ((A % B : Nat) : Int))
    rw [dg_len] at t1 t2
    have hQp : 0 < A / B := Nat.div_pos hle hBp
    have hq0 : 0 < trimN (dg (na - nb + 1) ((A / B : Nat) : Int)) := by rw [eq']; exact (db_pos_len (by omega)).2 hQp
    have lP : A / B * B < 4294967296 ^ (trimN (dg (na - nb + 1) ((A / B : Nat) : Int)) + nb) := by
      refine mul_lt ?_ lB0
      have h3 := lt_d32 (A / B)
      rw [← eq'] at h3
      exact h3
    have ex := trim_d32 lP
    have t3 := trimN_le (dg (trimN (dg (na - nb + 1) ((A / B : Nat) : Int)) + nb) ((A / B * B : Nat) : Int))
    rw [dg_len] at t3
    have heq : A / B * B + A % B = A := by
      have := Nat.div_add_mod A B
      rw [Nat.mul_comm] at this
      exact this
    have x1 : A / B * B < 4294967296 ^ trimN (dg (trimN (dg (na - nb + 1) ((A / B : Nat) : Int)) + nb) ((A / B * B : Nat) : Int)) := by rw [ex]; exact lt_d32 _
    have x2 : A % B < 4294967296 ^ trimN (dg (na + 1) ((A % B : Nat) : Int)) := by rw [er]; exact lt_d32 _
    have hsum : ∀ nx nr : Nat, A / B * B < 4294967296 ^ nx → A % B < 4294967296 ^ nr → A < 4294967296 ^ (mxN nx nr + 1) := fun nx nr y1 y2 => by
      have m1 := mx_two nx nr
      have := sum_lt (m := mxN nx nr) (Nat.lt_of_lt_of_le y1 (Nat.pow_le_pow_right (by omega) m1.1)) (Nat.lt_of_lt_of_le y2 (Nat.pow_le_pow_right (by omega) m1.2))
      rw [heq] at this
      exact this
    have hmm : ∀ nx nr : Nat, nx ≤ 200 → nr ≤ 200 → mxN nx nr + 1 ≤ 1000 := fun nx nr y1 y2 => by unfold mxN; split <;> omega
    exact rows_calls tabN4 hw Ha Hb (npF_g xa xb pa pb na ca nb cb A B) (npO_g Ha Hb h1 h2 ba bb hA hB pB hle (by unfold cmpZ; rw [if_pos (Nat.mod_lt _ hBp)]) heq lQ lR lP (by omega) (by rw [decide_eq_false (by omega), Nat.ble_eq_true_of_le (by omega)]; rfl) (hsum _ _ x1 x2) (hmm _ _ (by omega) (by omega))) rfl
end Go.Proofs.YtppakongkjdlbaaDoor

/-
  The row's side of a law whose arguments are rows of words of 32 bits: an argument opened into the small memory's terms, and shut.
-/
namespace Go.Proofs.YtppakongkjdlbaaDoor
open Go.KRun Go.Nt Go.ChangeShapes Go.WideShapes Go.ChangeAt Go.RowKit
set_option maxRecDepth 100000
set_option linter.unusedVariables false

theorem sl_ty : Tryd.prog.underlying 22 = some (.slice 44) := by kernel_rfl
theorem sl_el : Tryd.prog.underlying 44 = some (.int .u32) := by kernel_rfl
theorem sl_ce : Tryd.prog.cellsOf 44 = 1 := by kernel_rfl
theorem sl_by : Tryd.prog.bytesOf 44 = 4 := by kernel_rfl
variable {H : Type} {enc : TypeId × Value → H}
theorem shut_rowS {w w' : World} {b off len : Nat} {cs : Array Value} {zs : List Int} (hL : Lain w b off cs zs) (hle : len ≤ zs.length) (hm : zs.length ≤ maxLen) (hb : w'.heap[b]? = w.heap[b]?) (sp : Nat → Bool) (hsp : ∀ p ∈ MemPlace.row ⟨b, off, none⟩ zs.length, sp p.block = true) :
    DataW.Trod enc Tryd.prog w' 0 sp true 22 (.slice (some ⟨b, off, none⟩) len zs.length) (.slice (lits .u32 (zs.take len)) (lits .u32 (zs.drop len))) (MemPlace.row ⟨b, off, none⟩ zs.length) := by
  refine ⟨2, ?_⟩
  have := shut_ints' (enc := enc) (P := Tryd.prog) (w := w') (base := 0) (spare := sp) (held := true) (b := b) (off := off) (len := len) (cap := zs.length) (zs := zs) 0 sl_ty sl_el sl_ce (Nat.zero_le _) hle hm (by
    rcases Nat.eq_zero_or_pos zs.length with h0 | h0
    · have : len = 0 := by omega
      rw [h0, this]
      simp
    · have := hsp (.cell b (off + 0)) (MemPlace.mem_row.2 ⟨0, h0, rfl⟩)
      have e : sp b = true := this
      rw [e]
      simp) (fun i hi => by
    obtain ⟨ty, z, hh⟩ := hL.heap
    unfold World.cell?
    rw [hb, hh]
    simpa using hL.cell i hi) hL.wf
  simpa [Value.cells] using this
/-- one argument -/
theorem arg_of {w : World} {base : Nat} {r : Go.Reach} {v : Value} {d : DataW H} {p : List MemPlace} (i : Nat) (hval : Value.okWide Tryd.prog w r base 22 v) (h : DataW.Trod enc Tryd.prog w 0 (fun _ => true) true 22 v d p) (hsz : ∀ x y, d = .slice x y → (x.length + y.length) * Tryd.prog.bytesOf 44 ≤ reachBytes) :
    (∃ x k q n c L, Arg w i v x k q n c L) ∧ ∀ w' sp, Tidy w w' → (∀ y ∈ p, sp y.block = true) → DataW.Trod enc Tryd.prog w' 0 sp true 22 v d p := by
  rcases open_row sl_ty sl_el sl_ce hval h with ⟨rfl, rfl, rfl⟩ | ⟨b, off, len, cs, zs, rfl, hle, hL, rfl, rfl, hm⟩
  · refine ⟨⟨_, (0, 0), _, _, _, _, .inl ⟨rfl, rfl, rfl, rfl, rfl, rfl⟩⟩, fun w' sp _ _ => ?_⟩
    exact ⟨2, by simp [Value.cells, DataW.trod]⟩
  · have hs := hsz _ _ rfl
    rw [sl_by] at hs
    simp only [lits, List.length_map, List.length_take, List.length_drop, reachBytes] at hs
    refine ⟨⟨_, _, _, _, _, _, .inr ⟨b, off, cs, zs, rfl, hL, rfl, hle, by omega, rfl, rfl, rfl, rfl⟩⟩, fun w' sp ht hp => ?_⟩
    obtain ⟨ty, z, hh⟩ := hL.heap
    exact shut_rowS hL hle hm (ht.1.block _ (Array.getElem?_eq_some_iff.1 hh).1) sp hp
end Go.Proofs.YtppakongkjdlbaaDoor
