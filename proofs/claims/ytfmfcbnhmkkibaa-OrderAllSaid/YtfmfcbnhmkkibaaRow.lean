/-
  The row's side: an argument that is four words of 64 bits, opened and shut; what a call that only makes memory leaves.
-/
import Derived.Test.YtfmfcbnhmkkibaaRunG
import Derived.WalkKit
import Derived.ProofKit
import Derived.OpenShut
import Derived.Laws.IdiomArrays
import Derived.Lib.SmallJoins
namespace Go.KRun
open Go.ChangeShapes Go.WideShapes Go.ChangeAt Go.RowKit Go.Joins

section
variable {H : Type} {enc : TypeId × Value → H} {P : Program} {w : World} {base : Nat} {spare : Nat → Bool} {held : Bool}

theorem open_w4 {r : Go.Reach} {b0 : Nat} {t e : TypeId} {v : Value} {d : DataW H} {p : List MemPlace} (hu : P.underlying t = some (.array 4 e)) (hue : P.underlying e = some (.int .u64)) (hC : P.cellsOf t = 4) (hce : P.cellsOf e = 1)
    (hv : Value.okWide P w r b0 t v) (h : DataW.Trod enc P w base spare held t v d p) :
    ∃ a0 a1 a2 a3 : Int, v = .agg #[.int .u64 a0, .int .u64 a1, .int .u64 a2, .int .u64 a3] ∧ d = .agg [.lit (.int .u64 a0), .lit (.int .u64 a1), .lit (.int .u64 a2), .lit (.int .u64 a3)] ∧ p = [] ∧
      (Lit.int .u64 a0).wf = true ∧ (Lit.int .u64 a1).wf = true ∧ (Lit.int .u64 a2).wf = true ∧ (Lit.int .u64 a3).wf = true := by
  have hv' := hv
  simp only [Value.okWide, hu] at hv'
  obtain ⟨cs, rfl, hsz, _⟩ := hv'
  obtain ⟨c0, c1, c2, c3, rfl⟩ := array4 (hsz.trans hC)
  obtain ⟨fuel, hf⟩ := h
  have hf' : DataW.trod enc P w base spare held fuel t [c0, c1, c2, c3] = some (d, p) := by simpa [Value.cells] using hf
  obtain ⟨y0, y1, y2, y3, n, hx, h0, h1, h2, h3⟩ := trod_array4 hu hce hf'
  obtain ⟨a0, e0, rfl, w0⟩ := DataW.trod_int hue h0
  obtain ⟨a1, e1, rfl, w1⟩ := DataW.trod_int hue h1
  obtain ⟨a2, e2, rfl, w2⟩ := DataW.trod_int hue h2
  obtain ⟨a3, e3, rfl, w3⟩ := DataW.trod_int hue h3
  simp only [List.cons.injEq, and_true] at e0 e1 e2 e3
  subst e0 e1 e2 e3
  simp only [Prod.mk.injEq] at hx
  exact ⟨a0, a1, a2, a3, rfl, hx.1, by simpa using hx.2, w0, w1, w2, w3⟩

theorem shut_w4 {t e : TypeId} (hu : P.underlying t = some (.array 4 e)) (hue : P.underlying e = some (.int .u64)) (hC : P.cellsOf t = 4) (hce : P.cellsOf e = 1) {a0 a1 a2 a3 : Int}
    (w0 : (Lit.int .u64 a0).wf = true) (w1 : (Lit.int .u64 a1).wf = true) (w2 : (Lit.int .u64 a2).wf = true) (w3 : (Lit.int .u64 a3).wf = true) :
    DataW.Trod enc P w base spare held t (.agg #[.int .u64 a0, .int .u64 a1, .int .u64 a2, .int .u64 a3]) (.agg [.lit (.int .u64 a0), .lit (.int .u64 a1), .lit (.int .u64 a2), .lit (.int .u64 a3)]) [] := by
  refine ⟨2, ?_⟩
  have r4 : List.range 4 = [0, 1, 2, 3] := rfl
  have one : ∀ a : Int, (Lit.int .u64 a).wf = true → DataW.trod enc P w base spare held 1 e [.int .u64 a] = some (.lit (.int .u64 a), []) := fun a ha => by
    simp [DataW.trod, hue, ha]
  simp only [Value.cells]
  unfold DataW.trod
  simp [hu, hC, hce, r4, one a0 w0, one a1 w1, one a2 w2, one a3 w3]
end

theorem tidy_frozen {w w' : World} (h : Tidy w w') (a : Addr) : w'.frozen? a = w.frozen? a := by
  unfold World.frozen?
  by_cases h1 : a.block < w.heap.size
  · rw [h.1.block _ h1]
  · rw [Array.getElem?_eq_none (by omega : w.heap.size ≤ a.block)]
    by_cases h2 : a.block < w'.heap.size
    · have h3 := h.2 a.block (by omega) h2
      unfold iced at h3
      split
      · rename_i c e lo hi hc
        have := h3 _ _ _ hc
        cases this
        simp
      · rfl
    · rw [Array.getElem?_eq_none (by omega : w'.heap.size ≤ a.block)]
theorem u64_bounds {n : Int} (h : (Lit.int .u64 n).wf = true) : 0 ≤ n ∧ n < 18446744073709551616 := by
  simp [Lit.wf, IntKind.min, IntKind.max, IntKind.signed, IntKind.bits] at h
  omega
theorem i64_bounds {n : Int} (h : (Lit.int .i64 n).wf = true) : -9223372036854775808 ≤ n ∧ n ≤ 9223372036854775807 := by
  simp [Lit.wf, IntKind.min, IntKind.max, IntKind.signed, IntKind.bits] at h
  omega
end Go.KRun
