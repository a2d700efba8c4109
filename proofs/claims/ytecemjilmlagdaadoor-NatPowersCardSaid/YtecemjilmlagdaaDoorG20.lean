/-
  What the second layer's 'sure' answers, in every world: true: one closed run, reckoned by the kernel.
-/
import Derived.Test.YtecemjilmlagdaaDoorG05
import Derived.Test.YtecemjilmlagdaaDoorG03
import Derived.WalkKit
import Derived.ProofKit
import Derived.OpenShut
import Derived.Laws.IdiomArrays
import Derived.Lib.SmallJoins
import Derived.ChangeSlices
namespace Go.Proofs.YtecemjilmlagdaaDoor
open Go.KRun
set_option maxRecDepth 100000

theorem sure_fits : Fits (reckon (tabOf Tryd.prog extC conN false) 600 9 [] []) (.bool true) [] := ⟨by kernel_rfl, by kernel_rfl, by kernel_rfl, by kernel_rfl⟩
theorem sure_calls (w : World) : Calls Tryd.prog 9 #[] w fun e w' => e = .returned (.bool true) ∧ Tidy w w' :=
  fits_calls (tabC_ok conN_ok) sure_fits (fun x hx => by cases hx) (by rfl) (by rfl) w
end Go.Proofs.YtecemjilmlagdaaDoor

/-
  The row's side: an argument that is four words of 64 bits, opened and shut; what a call that only makes memory leaves.
-/
namespace Go.KRun
open Go.ChangeShapes Go.WideShapes Go.ChangeAt Go.RowKit Go.Joins

section
variable {H : Type} {enc : TypeId × Value → H} {P : Program} {w : World} {base : Nat} {spare : Nat → Bool} {held : Bool}

theorem open_w4 {r : Go.Reach} {b0 : Nat} {t e : TypeId} {v : Value} {d : DataW H} {p : List MemPlace} (hu : P.underlying t = some (.array 4 e)) (hue : P.underlying e = some (.int .u64)) (hC : P.cellsOf t = 4) (hce : P.cellsOf e = 1)
    (hv : Value.okWide P w r b0 t v) (h : DataW.Trod enc P w base spare held t v d p) :
    ∃ a0 a1 a2 a3 : Int, v = .agg #[.int .u64 a0, .int .u64 a1, .int .u64 a2, .int .u64 a3] ∧ d = .agg [.lit (.int .u64 a0), .lit (.int .u64 a1), .lit (.int .u64 a2), .lit (.int .u64 a3)] ∧ p = [] ∧
      (Lit.int .u64 a0).wf = true ∧ (Lit.int .u64 a1).wf = true ∧ (Lit.int .u64 a2).wf = true ∧ (Lit.int .u64 a3).wf = true := by
  have hv' := hv
  simp only [Value.okWide, hu] at hv'
  obtain ⟨cs, rfl, hsz, _⟩ := hv'
  obtain ⟨c0, c1, c2, c3, rfl⟩ := array4 (hsz.trans hC)
  obtain ⟨fuel, hf⟩ := h
  have hf' : DataW.trod enc P w base spare held fuel t [c0, c1, c2, c3] = some (d, p) := by simpa [Value.cells] using hf
  obtain ⟨y0, y1, y2, y3, n, hx, h0, h1, h2, h3⟩ := trod_array4 hu hce hf'
  obtain ⟨a0, e0, rfl, w0⟩ := DataW.trod_int hue h0
  obtain ⟨a1, e1, rfl, w1⟩ := DataW.trod_int hue h1
  obtain ⟨a2, e2, rfl, w2⟩ := DataW.trod_int hue h2
  obtain ⟨a3, e3, rfl, w3⟩ := DataW.trod_int hue h3
  simp only [List.cons.injEq, and_true] at e0 e1 e2 e3
  subst e0 e1 e2 e3
  simp only [Prod.mk.injEq] at hx
  exact ⟨a0, a1, a2, a3, rfl, hx.1, by simpa using hx.2, w0, w1, w2, w3⟩

theorem shut_w4 {t e : TypeId} (hu : P.underlying t = some (.array 4 e)) (hue : P.underlying e = some (.int .u64)) (hC : P.cellsOf t = 4) (hce : P.cellsOf e = 1) {a0 a1 a2 a3 : Int}
    (w0 : (Lit.int .u64 a0).wf = true) (w1 : (Lit.int .u64 a1).wf = true) (w2 : (Lit.int .u64 a2).wf = true) (w3 : (Lit.int .u64 a3).wf = true) :
    DataW.Trod enc P w base spare held t (.agg #[.int .u64 a0, .int .u64 a1, .int .u64 a2, .int .u64 a3]) (.agg [.lit (.int .u64 a0), .lit (.int .u64 a1), .lit (.int .u64 a2), .lit (.int .u64 a3)]) [] := by
  refine ⟨2, ?_⟩
  have r4 : List.range 4 = [0, 1, 2, 3] := rfl
  have one : ∀ a : Int, (Lit.int .u64 a).wf = true → DataW.trod enc P w base spare held 1 e [.int .u64 a] = some (.lit (.int .u64 a), []) := fun a ha => by
    simp [DataW.trod, hue, ha]
  simp only [Value.cells]
  unfold DataW.trod
  simp [hu, hC, hce, r4, one a0 w0, one a1 w1, one a2 w2, one a3 w3]
end

theorem tidy_frozen {w w' : World} (h : Tidy w w') (a : Addr) : w'.frozen? a = w.frozen? a := by
  unfold World.frozen?
  by_cases h1 : a.block < w.heap.size
  · rw [h.1.block _ h1]
  · rw [Array.getElem?_eq_none (by omega : w.heap.size ≤ a.block)]
    by_cases h2 : a.block < w'.heap.size
    · obtain ⟨c, e, h3⟩ := h.2 a.block (by omega) h2
      rw [h3]
      simp
    · rw [Array.getElem?_eq_none (by omega : w'.heap.size ≤ a.block)]
theorem u64_bounds {n : Int} (h : (Lit.int .u64 n).wf = true) : 0 ≤ n ∧ n < 18446744073709551616 := by
  simp [Lit.wf, IntKind.min, IntKind.max, IntKind.signed, IntKind.bits] at h
  omega
theorem i64_bounds {n : Int} (h : (Lit.int .i64 n).wf = true) : -9223372036854775808 ≤ n ∧ n ≤ 9223372036854775807 := by
  simp [Lit.wf, IntKind.min, IntKind.max, IntKind.signed, IntKind.bits] at h
  omega
end Go.KRun

/-
  The row's side: an argument that is a row of words of 32 bits, opened and shut.
-/
namespace Go.KRun
open Go.ChangeShapes Go.WideShapes Go.ChangeAt Go.RowKit Go.Joins

theorem rowAt_le {p : Program} {fits : TypeId → Bool} : ∀ (d : Nat) (e : TypeId) (count off n : Nat), rowAt p fits d e count off n = true → off ≤ count * p.cellsOf e
  | 0, _, _, _, _, h => by simp [rowAt] at h
  | d + 1, e, count, off, n, h => by
    unfold rowAt at h
    simp only at h
    split at h
    · cases h
    · rename_i hs
      have hdm := Nat.div_add_mod off (p.cellsOf e)
      have hml := Nat.mod_lt off (show 0 < p.cellsOf e by omega)
      simp only [Bool.or_eq_true, Bool.and_eq_true, decide_eq_true_eq, beq_iff_eq] at h
      rcases h with h | h
      · obtain ⟨⟨h1, h2⟩, _⟩ := h
        have h3 : off / p.cellsOf e ≤ count := by omega
        have := Nat.mul_le_mul_left (p.cellsOf e) h3
        rw [Nat.mul_comm count]
        omega
      · have h3 : off / p.cellsOf e + 1 ≤ count := h.1
        have := Nat.mul_le_mul_left (p.cellsOf e) h3
        rw [Nat.mul_succ] at this
        rw [Nat.mul_comm count]
        omega
theorem liesAt_le {p : Program} : ∀ (d : Nat) (e : TypeId) (count off : Nat) (u : TypeId) (n : Nat), liesAt p d e count off u n = true → off ≤ count * p.cellsOf e
  | 0, _, _, _, _, _, h => by simp [liesAt] at h
  | d + 1, e, count, off, u, n, h => by
    unfold liesAt at h
    simp only [Bool.or_eq_true] at h
    rcases h with h | h
    · exact rowAt_le _ _ _ _ _ h
    · split at h
      · exact liesAt_le d _ _ _ _ _ h
      · cases h
section
variable {H : Type} {enc : TypeId × Value → H} {P : Program} {w : World}
/-- a row that lies in the memory: from 'off' on 'cap' words -/
structure Lain (w : World) (b off : Nat) (cs : Array Value) (zs : List Int) : Prop where
  heap : ∃ ty z, w.heap[b]? = some (.cells cs ty z)
  room : off + zs.length ≤ cs.size
  cell : ∀ i, i < zs.length → cs[off + i]? = some (.int .u32 (zs.getD i 0))
  wf : ∀ n ∈ zs, (Lit.int .u32 n).wf = true
theorem open_row {base : Nat} {r : Go.Reach} {t e : TypeId} {v : Value} {d : DataW H} {p : List MemPlace} (ht : P.underlying t = some (.slice e)) (he : P.underlying e = some (.int .u32)) (hc : P.cellsOf e = 1)
    (hval : Value.okWide P w r base t v) (h : DataW.Trod enc P w 0 (fun _ => true) true t v d p) :
    (v = .slice none 0 0 ∧ d = .nil ∧ p = []) ∨ ∃ b off len cs zs, v = .slice (some ⟨b, off, none⟩) len zs.length ∧ len ≤ zs.length ∧ Lain w b off cs zs ∧ d = .slice (lits .u32 (zs.take len)) (lits .u32 (zs.drop len)) ∧ p = MemPlace.row ⟨b, off, none⟩ zs.length ∧ zs.length ≤ maxLen := by
  obtain ⟨a0, len0, cap0, rfl⟩ := okWide_slice ht hval
  obtain ⟨fuel, hf⟩ := h
  have hf' : DataW.trod enc P w 0 (fun _ => true) true fuel t [.slice a0 len0 cap0] = some (d, p) := by simpa [Value.cells] using hf
  rcases open_ints ht he hc hf' with ⟨h1, h2⟩ | ⟨a, len, cap, zs, h1, _, hl, hm, hz, hx, hcell, hw⟩
  · simp only [List.cons.injEq, and_true, Value.slice.injEq] at h1
    obtain ⟨rfl, rfl, rfl⟩ := h1
    simp only [Prod.mk.injEq] at h2
    exact .inl ⟨rfl, h2.1, h2.2⟩
  · simp only [List.cons.injEq, and_true, Value.slice.injEq] at h1
    obtain ⟨rfl, rfl, rfl⟩ := h1
    simp only [if_true] at hz
    simp only [Prod.mk.injEq] at hx
    have hv : w.has P r base a e cap0 := by
      simp only [Value.okWide, ht, Cell.okWide, Cell.ok] at hval
      exact hval.2.2
    obtain ⟨_, hsp, row, cells, hsh, hli⟩ := hv
    obtain ⟨b, off, spot⟩ := a
    simp only at hsp hsh hli
    subst hsp
    obtain ⟨cs, z, hh, hcs⟩ : ∃ cs z, w.heap[b]? = some (.cells cs row z) ∧ cs.size = cells := by
      unfold World.shape? at hsh
      split at hsh
      · rename_i c el z hh
        simp only [Option.some.injEq, Prod.mk.injEq] at hsh
        exact ⟨c, z, by rw [hh, hsh.1], hsh.2⟩
      · cases hsh
    have cell : ∀ i, i < zs.length → cs[off + i]? = some (.int .u32 (zs.getD i 0)) := fun i hi => by
      have := hcell i hi
      rw [add_plain] at this
      unfold World.cell? at this
      rw [hh] at this
      simpa using this
    have hoff : off ≤ cs.size := by
      have := liesAt_le _ _ _ _ _ _ hli
      have h2 := Nat.div_mul_le_self cells (P.cellsOf row)
      omega
    have room : off + zs.length ≤ cs.size := by
      rcases Nat.eq_zero_or_pos zs.length with h0 | h0
      · omega
      · have := cell (zs.length - 1) (by omega)
        have := (Array.getElem?_eq_some_iff.1 this).1
        omega
    refine .inr ⟨b, off, len0, cs, zs, by rw [hz], by omega, ⟨⟨_, _, hh⟩, room, cell, hw⟩, hx.1, hx.2, by omega⟩
theorem shut_row {w' : World} {t e : TypeId} {b off len : Nat} {cs : Array Value} {zs : List Int} (ht : P.underlying t = some (.slice e)) (he : P.underlying e = some (.int .u32)) (hc : P.cellsOf e = 1) (hL : Lain w b off cs zs) (hle : len ≤ zs.length) (hm : zs.length ≤ maxLen) (hb : w'.heap[b]? = w.heap[b]?) :
    DataW.Trod enc P w' 0 (fun _ => true) true t (.slice (some ⟨b, off, none⟩) len zs.length) (.slice (lits .u32 (zs.take len)) (lits .u32 (zs.drop len))) (MemPlace.row ⟨b, off, none⟩ zs.length) := by
  refine ⟨2, ?_⟩
  have := shut_ints' (enc := enc) (P := P) (w := w') (base := 0) (spare := fun _ => true) (held := true) (b := b) (off := off) (len := len) (cap := zs.length) (zs := zs) 0 ht he hc (Nat.zero_le _) hle hm (by simp) (fun i hi => by
    obtain ⟨ty, z, hh⟩ := hL.heap
    unfold World.cell?
    rw [hb, hh]
    simpa using hL.cell i hi) hL.wf
  simpa [Value.cells] using this
end
/-- a row's cells in a small memory: what is ahead of it is the world's own -/
def rowL (cs : Array Value) (off : Nat) (zs : List Int) : List Value := (cs.toList.take off).map (Value.iface dead) ++ zs.map (Value.int .u32)
theorem rowL_still (cs : Array Value) (off : Nat) (zs : List Int) : ∀ v ∈ rowL cs off zs, still v = true := fun v hv => by
  unfold rowL at hv
  rcases List.mem_append.1 hv with h | h
  · obtain ⟨x, _, rfl⟩ := List.mem_map.1 h; rfl
  · obtain ⟨x, _, rfl⟩ := List.mem_map.1 h; rfl
theorem rowL_lie {w : World} {b off : Nat} {cs : Array Value} {zs : List Int} (h : Lain w b off cs zs) {e : TypeId} (he : ro e = true) (m : Mp) : lie w (b, cs.size) ((rowL cs off zs).map (mv1 m)) e := by
  obtain ⟨ty, z, hh⟩ := h.heap
  have hroom := h.room
  have e1 : (rowL cs off zs).map (mv1 m) = cs.toList.take (off + zs.length) := by
    apply List.ext_getElem?
    intro i
    unfold rowL
    rw [List.map_append, List.map_map, List.map_map, List.getElem?_take]
    have hlen : ((cs.toList.take off).map (mv1 m ∘ Value.iface dead)).length = off := by simp; omega
    by_cases hi : i < off
    · rw [List.getElem?_append_left (by omega), if_pos (by omega), List.getElem?_map, List.getElem?_take, if_pos hi]
      cases hx : cs.toList[i]? with
      | none => rfl
      | some x => simp [mv1]
    · rw [List.getElem?_append_right (by omega), hlen]
      by_cases hj : i < off + zs.length
      · rw [if_pos hj, List.getElem?_map]
        have hc := h.cell (i - off) (by omega)
        rw [show off + (i - off) = i by omega] at hc
        have hz : zs[i - off]? = some (zs.getD (i - off) 0) := by
          rw [List.getElem?_eq_getElem (by omega)]
          simp [List.getD, List.getElem?_eq_getElem (show i - off < zs.length by omega)]
        rw [hz]
        simp only [Option.map_some, Function.comp, mv1]
        rw [← hc]
        simp
      · rw [if_neg hj, List.getElem?_eq_none (by simp; omega)]
  refine ⟨cs.toList.drop (off + zs.length), (ty, z), ?_, ?_, fun h0 => by rw [he] at h0; cases h0⟩
  · rw [e1]; simp; omega
  · rw [e1, List.take_append_drop]; exact hh
end Go.KRun
