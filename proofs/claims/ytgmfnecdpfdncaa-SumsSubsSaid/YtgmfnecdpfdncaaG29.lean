/-
  Layer 5's own 'sure'; what is known of calls, for the laws of sums.
-/
import Derived.Test.YtgmfnecdpfdncaaG27
import Derived.Test.YtgmfnecdpfdncaaG28
import Derived.Test.YtgmfnecdpfdncaaG03
import Derived.WalkKit
import Derived.ProofKit
import Derived.OpenShut
import Derived.Laws.IdiomArrays
import Derived.Lib.SmallJoins
namespace Go.Proofs.Ytgmfnecdpfdncaa
open Go.KRun Go.Wd Go.Pt Go.Rn
set_option maxRecDepth 100000

def conA1 : Con := alt 8 gSA conN
theorem conA1_ok : ConOk conA1 := alt_ok Try.func8 rfl gSA_ok conN_ok
theorem su_e : suP 0 4607182418800017408 4368491638549381120 = 4607182418800017408 ∧ suF 0 4607182418800017408 4368491638549381120 = 16 := ⟨by kernel_rfl, by kernel_rfl⟩
theorem su_u : suP 3 4607182418800017408 4368491638549381120 = 4607182418800017409 ∧ suF 3 4607182418800017408 4368491638549381120 = 16 := ⟨by kernel_rfl, by kernel_rfl⟩
theorem sure5 : Fits (reckon (tabOf Try.prog extY conA1 true) 300 10 [] [cmp true, cmp true, cmp true, cmp true]) (.bool true) [(suF 3 4607182418800017408 4368491638549381120 == 16, true), (suF 0 4607182418800017408 4368491638549381120 == 16, true), (suP 3 4607182418800017408 4368491638549381120 == 4607182418800017409, true), (suP 0 4607182418800017408 4368491638549381120 == 4607182418800017408, true), (decide (U 4607182418800017408 ∧ U 4368491638549381120), true), (decide (U 4607182418800017408 ∧ U 4368491638549381120), true)] := ⟨by kernel_rfl, by kernel_rfl, by kernel_rfl, by kernel_rfl⟩
def gSure5 : Ans := fun vals s => match vals with | [] => some (.bool true, s, []) | _ => none
theorem gSure5_ok : AnsOk 10 gSure5 := by
  intro vals s v s' lg h hl w
  unfold gSure5 at h
  split at h
  · cases h
    have hu : decide (U 4607182418800017408 ∧ U 4368491638549381120) = true := by decide
    exact fits_calls (tabY_ok conA1_ok) sure5 (okCons (beq_t su_u.2) (okCons (beq_t su_e.2) (okCons (beq_t su_u.1) (okCons (beq_t su_e.1) (okCons hu (okL1 hu)))))) (by rfl) (by rfl) w
  · cases h
def conS5 : Con := alt 10 gSure5 conA1
theorem conS5_ok : ConOk conS5 := alt_ok Try.func10 rfl gSure5_ok conA1_ok
end Go.Proofs.Ytgmfnecdpfdncaa

/-
  What is known of calls, for the laws of sums that hold the document's answer against the program's.
-/
namespace Go.Proofs.Ytgmfnecdpfdncaa
open Go.KRun Go.Wd Go.Pt Go.Rn
set_option maxRecDepth 100000

def conA5 : Con := alt 9 gRA (alt 47 (gU vT) conS5)
theorem conA5_ok : ConOk conA5 := alt_ok Try.func9 rfl gRA_ok (alt_ok Try.func47 rfl ref_ok conS5_ok)
theorem rnF_bd5 (m : Int) (n : Bool) (T : Nat) (E : Int) : 0 ≤ rnF m n T E ∧ rnF m n T E ≤ 24 := by
  unfold rnF
  split
  · omega
  · split
    · omega
    · split
      · split <;> omega
      · omega
theorem suF_bd (m a b : Int) : 0 ≤ suF m a b ∧ suF m a b ≤ 24 := by
  have h := rnF_bd5 m (adN m a b) (psI a b).natAbs (-1074)
  have h' : 0 ≤ adF m a b ∧ adF m a b ≤ 24 := h
  unfold suF
  split
  · split <;> omega
  · split
    · split <;> omega
    · split <;> omega
end Go.Proofs.Ytgmfnecdpfdncaa

/-
  The row's side: an argument that is four words of 64 bits, opened and shut; what a call that only makes memory leaves.
-/
namespace Go.KRun
open Go.ChangeShapes Go.WideShapes Go.ChangeAt Go.RowKit Go.Joins

section
variable {H : Type} {enc : TypeId × Value → H} {P : Program} {w : World} {base : Nat} {spare : Nat → Bool} {held : Bool}

theorem open_w4 {r : Go.Reach} {b0 : Nat} {t e : TypeId} {v : Value} {d : DataW H} {p : List MemPlace} (hu : P.underlying t = some (.array 4 e)) (hue : P.underlying e = some (.int .u64)) (hC : P.cellsOf t = 4) (hce : P.cellsOf e = 1)
    (hv : Value.okWide P w r b0 t v) (h : DataW.Trod enc P w base spare held t v d p) :
    ∃ a0 a1 a2 a3 : Int, v = .agg #[.int .u64 a0, .int .u64 a1, .int .u64 a2, .int .u64 a3] ∧ d = .agg [.lit (.int .u64 a0), .lit (.int .u64 a1), .lit (.int .u64 a2), .lit (.int .u64 a3)] ∧ p = [] ∧
      (Lit.int .u64 a0).wf = true ∧ (Lit.int .u64 a1).wf = true ∧ (Lit.int .u64 a2).wf = true ∧ (Lit.int .u64 a3).wf = true := by
  have hv' := hv
  simp only [Value.okWide, hu] at hv'
  obtain ⟨cs, rfl, hsz, _⟩ := hv'
  obtain ⟨c0, c1, c2, c3, rfl⟩ := array4 (hsz.trans hC)
  obtain ⟨fuel, hf⟩ := h
  have hf' : DataW.trod enc P w base spare held fuel t [c0, c1, c2, c3] = some (d, p) := by simpa [Value.cells] using hf
  obtain ⟨y0, y1, y2, y3, n, hx, h0, h1, h2, h3⟩ := trod_array4 hu hce hf'
  obtain ⟨a0, e0, rfl, w0⟩ := DataW.trod_int hue h0
  obtain ⟨a1, e1, rfl, w1⟩ := DataW.trod_int hue h1
  obtain ⟨a2, e2, rfl, w2⟩ := DataW.trod_int hue h2
  obtain ⟨a3, e3, rfl, w3⟩ := DataW.trod_int hue h3
  simp only [List.cons.injEq, and_true] at e0 e1 e2 e3
  subst e0 e1 e2 e3
  simp only [Prod.mk.injEq] at hx
  exact ⟨a0, a1, a2, a3, rfl, hx.1, by simpa using hx.2, w0, w1, w2, w3⟩

theorem shut_w4 {t e : TypeId} (hu : P.underlying t = some (.array 4 e)) (hue : P.underlying e = some (.int .u64)) (hC : P.cellsOf t = 4) (hce : P.cellsOf e = 1) {a0 a1 a2 a3 : Int}
    (w0 : (Lit.int .u64 a0).wf = true) (w1 : (Lit.int .u64 a1).wf = true) (w2 : (Lit.int .u64 a2).wf = true) (w3 : (Lit.int .u64 a3).wf = true) :
    DataW.Trod enc P w base spare held t (.agg #[.int .u64 a0, .int .u64 a1, .int .u64 a2, .int .u64 a3]) (.agg [.lit (.int .u64 a0), .lit (.int .u64 a1), .lit (.int .u64 a2), .lit (.int .u64 a3)]) [] := by
  refine ⟨2, ?_⟩
  have r4 : List.range 4 = [0, 1, 2, 3] := rfl
  have one : ∀ a : Int, (Lit.int .u64 a).wf = true → DataW.trod enc P w base spare held 1 e [.int .u64 a] = some (.lit (.int .u64 a), []) := fun a ha => by
    simp [DataW.trod, hue, ha]
  simp only [Value.cells]
  unfold DataW.trod
  simp [hu, hC, hce, r4, one a0 w0, one a1 w1, one a2 w2, one a3 w3]
end

theorem tidy_frozen {w w' : World} (h : Tidy w w') (a : Addr) : w'.frozen? a = w.frozen? a := by
  unfold World.frozen?
  by_cases h1 : a.block < w.heap.size
  · rw [h.1.block _ h1]
  · rw [Array.getElem?_eq_none (by omega : w.heap.size ≤ a.block)]
    by_cases h2 : a.block < w'.heap.size
    · obtain ⟨c, e, h3⟩ := h.2 a.block (by omega) h2
      rw [h3]
      simp
    · rw [Array.getElem?_eq_none (by omega : w'.heap.size ≤ a.block)]
theorem u64_bounds {n : Int} (h : (Lit.int .u64 n).wf = true) : 0 ≤ n ∧ n < 18446744073709551616 := by
  simp [Lit.wf, IntKind.min, IntKind.max, IntKind.signed, IntKind.bits] at h
  omega
theorem i64_bounds {n : Int} (h : (Lit.int .i64 n).wf = true) : -9223372036854775808 ≤ n ∧ n ≤ 9223372036854775807 := by
  simp [Lit.wf, IntKind.min, IntKind.max, IntKind.signed, IntKind.bits] at h
  omega
end Go.KRun
