/-
  ints.Of, ints.OfPlain, and what the laws of whole numbers of the machine call besides, as calls in every world.
-/
import Derived.Test.YtmfgjfnhonohjaaG18
import Derived.Test.YtmfgjfnhonohjaaG03
import Derived.WalkKit
import Derived.ProofKit
import Derived.OpenShut
import Derived.Laws.IdiomArrays
import Derived.Lib.SmallJoins
namespace Go.Proofs.Ytmfgjfnhonohjaa
open Go.KRun Go.Wd Go.Pt Go.Rn
set_option maxRecDepth 100000

def ofZ (n : Int) : Int := IntKind.u64.wrap (if IntKind.i64.wrap (0 - n) > n then IntKind.i64.wrap (0 - n) else n)
theorem ofZ_eq {n : Int} (h : Go.Pt.I n) : ofZ n = (n.natAbs : Nat) := by
  have h0 := h.1
  have h1 := h.2
  unfold ofZ
  by_cases hm : n = -9223372036854775808
  · rw [hm]
    rfl
  · rw [wrapI' (n := 0 - n) ⟨by omega, by omega⟩, wrapU]
    split <;> omega
/-- what Of and OfPlain answer -/
def oiP (m n : Int) : Int := sS (decide (n < 0)) (rnP m (decide (n < 0)) n.natAbs 0)
def oiF (m n : Int) : Int := rnF m (decide (n < 0)) n.natAbs 0
def opP (m k : Int) : Int := sS false (rnP m false k.toNat 0)
def opF (m k : Int) : Int := rnF m false k.toNat 0
theorem op_1 (k m : Int) : Fits (reckon (tabOf Try.prog extY conI1 true) 300 10 [.int .u64 k, .int .i64 m] []) (rdV m false (tw (wOne k) false) (clp 0 - 1)) [(decide (wOne k).ok, true)] := ⟨by kernel_rfl, by kernel_rfl, by kernel_rfl, by kernel_rfl⟩
theorem of_t (n m : Int) : Fits (reckon (tabOf Try.prog extY conI1 true) 300 8 [.int .i64 n, .int .i64 m] [cmp true]) (rdV m true (tw (wOne (ofZ n)) false) (clp 0 - 1)) [(decide (wOne (ofZ n)).ok, true), (decide (n < 0), true)] := ⟨by kernel_rfl, by kernel_rfl, by kernel_rfl, by kernel_rfl⟩
theorem of_f (n m : Int) : Fits (reckon (tabOf Try.prog extY conI1 true) 300 8 [.int .i64 n, .int .i64 m] [cmp false]) (rdV m false (tw (wOne (ofZ n)) false) (clp 0 - 1)) [(decide (wOne (ofZ n)).ok, true), (decide (n < 0), false)] := ⟨by kernel_rfl, by kernel_rfl, by kernel_rfl, by kernel_rfl⟩
theorem nb_t (y : Int) : Fits (reckon (tabOf Try.prog extY conI1 true) 300 15 [.bool true, .int .u64 y] []) (.int .i64 (IntKind.i64.wrap (IntKind.u64.wrap (0 - y)))) [] := ⟨by kernel_rfl, by kernel_rfl, by kernel_rfl, by kernel_rfl⟩
theorem nb_f (y : Int) : Fits (reckon (tabOf Try.prog extY conI1 true) 300 15 [.bool false, .int .u64 y] []) (.int .i64 (IntKind.i64.wrap y)) [] := ⟨by kernel_rfl, by kernel_rfl, by kernel_rfl, by kernel_rfl⟩
theorem one_ok {k : Int} (h : U k) : (wOne k).ok := (w1_nat h.1 h.2).1
theorem one_rd {k : Int} (h : U k) (m : Int) (n : Bool) : rdV m n (tw (wOne k) false) (clp 0 - 1) = rdT (sS n (rnP m n k.toNat 0)) (rnF m n k.toNat 0) := by
  have e : (wOne k).nat = k.toNat := (w1_nat h.1 h.2).2
  rw [rd_w9 m n (one_ok h) (C := 0) (D := 0) (.inl rfl), e]
theorem op_calls (k m : Int) (hk : U k) (w : World) : Calls Try.prog 10 #[.int .u64 k, .int .i64 m] w fun r w' => r = .returned (rdT (opP m k) (opF m k)) ∧ Tidy w w' := by
  have T := tabY_ok conI1_ok
  have hv : ([.int .u64 k, .int .i64 m].all (lt 0)) = true := rfl
  have o := one_ok hk
  have hf := op_1 k m
  rw [one_rd hk] at hf
  exact fits_calls T hf (okL1 (decide_eq_true o)) hv (by rfl) w
theorem of_calls (n m : Int) (hn : Go.Pt.I n) (w : World) : Calls Try.prog 8 #[.int .i64 n, .int .i64 m] w fun r w' => r = .returned (rdT (oiP m n) (oiF m n)) ∧ Tidy w w' := by
  have T := tabY_ok conI1_ok
  have hv : ([.int .i64 n, .int .i64 m].all (lt 0)) = true := rfl
  have e := ofZ_eq hn
  have h0 := hn.1
  have h1 := hn.2
  have uk : U (ofZ n) := by rw [e]; exact ⟨by omega, by omega⟩
  have o := one_ok uk
  have en : (ofZ n).toNat = n.natAbs := by rw [e]; rfl
  unfold oiP oiF
  cases hd : decide (n < 0) with
  | true =>
    have hf := of_t n m
    rw [one_rd uk, en] at hf
    exact fits_calls T hf (okCons (decide_eq_true o) (okL1 hd)) hv (by rfl) w
  | false =>
    have hf := of_f n m
    rw [one_rd uk, en] at hf
    exact fits_calls T hf (okCons (decide_eq_true o) (okL1 hd)) hv (by rfl) w
def gOi : Ans := fun vals s =>
  match vals with
  | [.int .i64 n, .int .i64 m] => some (rdT (oiP m n) (oiF m n), s, [(decide (Go.Pt.I n), true)])
  | _ => none
theorem gOi_ok : AnsOk 8 gOi := by
  intro vals s v s' lg h hl w
  unfold gOi at h
  split at h
  · cases h
    exact of_calls _ _ (of_decide_eq_true (hl _ (List.mem_singleton.2 rfl))) w
  · cases h
def gOp : Ans := fun vals s =>
  match vals with
  | [.int .u64 k, .int .i64 m] => some (rdT (opP m k) (opF m k), s, [(decide (U k), true)])
  | _ => none
theorem gOp_ok : AnsOk 10 gOp := by
  intro vals s v s' lg h hl w
  unfold gOp at h
  split at h
  · cases h
    exact op_calls _ _ (of_decide_eq_true (hl _ (List.mem_singleton.2 rfl))) w
  · cases h
def nbV (b : Bool) (y : Int) : Int := match b with | true => IntKind.i64.wrap (IntKind.u64.wrap (0 - y)) | false => IntKind.i64.wrap y
def gNb : Ans := fun vals s =>
  match vals with
  | [.bool b, .int .u64 y] => some (.int .i64 (nbV b y), s, [])
  | _ => none
theorem gNb_ok : AnsOk 15 gNb := by
  intro vals s v s' lg h hl w
  unfold gNb at h
  split at h
  · rename_i b y
    cases h
    cases b with
    | true => exact fits_calls (tabY_ok conI1_ok) (nb_t y) okNil (by rfl) (by rfl) w
    | false => exact fits_calls (tabY_ok conI1_ok) (nb_f y) okNil (by rfl) (by rfl) w
  · cases h
def conI2 : Con := alt 8 gOi (alt 10 gOp (alt 12 (gPmt fun p m t => .tuple #[.int .i64 (tiI 9223372036854775808 9223372036854775807 m p), .int .u8 (tiF 9223372036854775808 9223372036854775807 m p t)]) (alt 14 (gPmt fun p m t => .tuple #[.int .u64 (tiI 0 18446744073709551615 m p), .int .u8 (tiF 0 18446744073709551615 m p t)]) (alt 16 (gPmt fun p m t => .tuple #[.int .i32 (tiI 2147483648 2147483647 m p), .int .u8 (tiF 2147483648 2147483647 m p t)]) (alt 17 (gPmt fun p m t => .tuple #[.int .u32 (tiI 0 4294967295 m p), .int .u8 (tiF 0 4294967295 m p t)]) conN)))))
theorem conI2_ok : ConOk conI2 := alt_ok Try.func8 rfl gOi_ok (alt_ok Try.func10 rfl gOp_ok (alt_ok Try.func12 rfl (gPmt_ok ti_calls) (alt_ok Try.func14 rfl (gPmt_ok tp_calls) (alt_ok Try.func16 rfl (gPmt_ok th_calls) (alt_ok Try.func17 rfl (gPmt_ok tq_calls) conN_ok)))))
theorem sure11 : Fits (reckon (tabOf Try.prog extY conI2 true) 300 11 [] [cmp true, cmp true, cmp true, cmp true, cmp true, cmp true]) (.bool true) [(oiF 0 (-2) == 0, true), (oiP 0 (-2) == 13835058055282163712, true), (tiF 9223372036854775808 9223372036854775807 3 4612811918334230528 false == 0, true), (tiI 9223372036854775808 9223372036854775807 3 4612811918334230528 == 3, true), (tiF 0 4294967295 0 13830554455654793216 false == 1, true), (tiI 0 4294967295 0 13830554455654793216 == 0, true), (decide (Go.Pt.I (-2)), true), (decide (U 4612811918334230528), true), (decide (U 13830554455654793216), true)] := ⟨by kernel_rfl, by kernel_rfl, by kernel_rfl, by kernel_rfl⟩
def gSure11 : Ans := fun vals s => match vals with | [] => some (.bool true, s, []) | _ => none
theorem gSure11_ok : AnsOk 11 gSure11 := by
  intro vals s v s' lg h hl w
  unfold gSure11 at h
  split at h
  · cases h
    exact fits_calls (tabY_ok conI2_ok) sure11 (okCons (by decide) (okCons (by decide) (okCons (by decide) (okCons (by decide) (okCons (by decide) (okCons (by decide) (okCons (by decide) (okCons (by decide) (okL1 (by decide)))))))))) (by rfl) (by rfl) w
  · cases h
def conI3 : Con := alt 11 gSure11 conI2
theorem conI3_ok : ConOk conI3 := alt_ok Try.func11 rfl gSure11_ok conI2_ok
end Go.Proofs.Ytmfgjfnhonohjaa

/-
  Whole numbers of the machine, forth and back, in plain terms.
-/
namespace Go.Proofs.Ytmfgjfnhonohjaa
open Go.KRun Go.Wd Go.Pt Go.Rn
set_option maxRecDepth 100000

theorem oi_U (m n : Int) : U (oiP m n) := by
  obtain ⟨h0, h1⟩ := rnP_bd m (decide (n < 0)) n.natAbs 0
  exact (sS_mag h0 (by omega)).2.2.1
theorem oiF_bd (m n : Int) : 0 ≤ oiF m n ∧ oiF m n ≤ 24 := by
  unfold oiF rnF
  split
  · omega
  · split
    · omega
    · split
      · split <;> omega
      · omega
theorem opF_bd (m k : Int) : 0 ≤ opF m k ∧ opF m k ≤ 24 := by
  unfold opF rnF
  split
  · omega
  · split
    · omega
    · split
      · split <;> omega
      · omega
/-- what a pattern below Endless is -/
theorem oi_parts {m n : Int} (h : rnP m (decide (n < 0)) n.natAbs 0 < 9218868437227405312) : cl (oiP m n) ≤ 2 ∧ ex (oiP m n) ≠ 2047 ∧ sgn (oiP m n) = decide (n < 0) ∧ uV (oiP m n) = uV (rnP m (decide (n < 0)) n.natAbs 0) := by
  obtain ⟨h0, _⟩ := rnP_bd m (decide (n < 0)) n.natAbs 0
  obtain ⟨g1, g2, _, g4⟩ := sS_mag (n := decide (n < 0)) h0 (show rnP m (decide (n < 0)) n.natAbs 0 < 9223372036854775808 by omega)
  have c : cl (oiP m n) ≤ 2 := (mag_cl _).2.2.2 (by unfold oiP; rw [g1]; exact h)
  exact ⟨c, fin_ex c, g2, g4⟩
theorem sgI_own (n : Int) : sgI (decide (n < 0)) n.natAbs = n := by
  by_cases h : n < 0
  · rw [decide_eq_true h]; simp only [sgI]; omega
  · rw [decide_eq_false h]; simp only [sgI]; omega
/-- a number of 53 bits is itself again -/
theorem oi_back {n : Int} (h : n.natAbs ≤ 4503599627370496) (m k : Int) (t : Bool) (L M : Nat) : oiF m n = 0 ∧ (-(L : Int) ≤ n ∧ n ≤ (M : Int) → tiI L M k (oiP m n) = n ∧ tiF L M k (oiP m n) t = 0) ∧ (n < -(L : Int) → tiI L M k (oiP m n) = -(L : Int) ∧ tiF L M k (oiP m n) t = 1) := by
  obtain ⟨j, hj⟩ : ∃ j : Nat, (j : Int) = 1074 := ⟨1074, rfl⟩
  obtain ⟨f0, _, _, b1, u⟩ := int_num hj h m (decide (n < 0))
  obtain ⟨c, fx, s, e⟩ := oi_parts (m := m) (n := n) (by omega)
  obtain ⟨t1, t2⟩ := ti_own (L := L) (M := M) hj c fx (e.trans u) k t
  have hb : bdN L M (oiP m n) = if n < 0 then L else M := by
    unfold bdN
    rw [s]
    by_cases h : n < 0
    · rw [if_pos h, if_pos (decide_eq_true h)]
    · rw [if_neg h, if_neg (by rw [decide_eq_false h]; decide)]
  refine ⟨f0, fun hr => ?_, fun hr => ?_⟩
  · have := t1 (by rw [hb]; split <;> omega)
    rw [s, sgI_own] at this
    exact this
  · have := t2 (by rw [hb, if_pos (by omega)]; omega)
    rw [s, hb, if_pos (by omega), decide_eq_true (by omega)] at this
    exact this
/-- a greater one is by Down not greater, by Up not less -/
theorem oi_sides {n : Int} (hn : Go.Pt.I n) : tiF 9223372036854775808 9223372036854775807 0 (oiP 4 n) true = 0 ∧ tiI 9223372036854775808 9223372036854775807 0 (oiP 4 n) ≤ n ∧ (tiF 9223372036854775808 9223372036854775807 0 (oiP 3 n) true = 1 ∨ (tiF 9223372036854775808 9223372036854775807 0 (oiP 3 n) true ≠ 1 ∧ n ≤ tiI 9223372036854775808 9223372036854775807 0 (oiP 3 n))) := by
  have h0 := hn.1
  have h1 := hn.2
  obtain ⟨j, hj⟩ : ∃ j : Nat, (j : Int) = 1074 := ⟨1074, rfl⟩
  have hX : n.natAbs ≤ 9223372036854775808 := by omega
  have hb : ∀ m, sgn (oiP m n) = decide (n < 0) → bdN 9223372036854775808 9223372036854775807 (oiP m n) = if n < 0 then 9223372036854775808 else 9223372036854775807 := fun m s => by
    unfold bdN
    rw [s]
    by_cases h : n < 0
    · rw [if_pos h, if_pos (decide_eq_true h)]
    · rw [if_neg h, if_neg (by rw [decide_eq_false h]; decide)]
  obtain ⟨W, u, _, le, w63, d1, d2⟩ := of_num hj hX 4 (decide (n < 0))
  obtain ⟨V, u', _, le', v63, e1, e2⟩ := of_num hj hX 3 (decide (n < 0))
  have x1 : n < 0 → -(W : Int) ≤ n ∧ n ≤ -(V : Int) := fun hneg => by
    have d2 := d2 (.inr ⟨rfl, decide_eq_true hneg⟩)
    have e1 := e1 (.inr ⟨rfl, decide_eq_true hneg⟩)
    omega
  have x2 : ¬ n < 0 → (W : Int) ≤ n ∧ n ≤ (V : Int) ∧ W ≤ 9223372036854775807 := fun hneg => by
    have d1 := d1 (.inl ⟨rfl, decide_eq_false hneg⟩)
    have e2 := e2 (.inl ⟨rfl, decide_eq_false hneg⟩)
    omega
  have y1 : ¬ V ≤ 9223372036854775807 → 9223372036854775807 < V := fun h => by omega
  obtain ⟨c, fx, s, e⟩ := oi_parts (m := 4) (n := n) (by omega)
  obtain ⟨c', fx', s', e'⟩ := oi_parts (m := 3) (n := n) (by omega)
  clear le le' h0 h1 hX d1 d2 e1 e2
  have t1 := (ti_own (L := 9223372036854775808) (M := 9223372036854775807) hj c fx (e.trans u) 0 true).1
  obtain ⟨t3, t4⟩ := ti_own (L := 9223372036854775808) (M := 9223372036854775807) hj c' fx' (e'.trans u') 0 true
  rw [hb 4 s, s] at t1
  rw [hb 3 s', s'] at t3 t4
  by_cases hneg : n < 0
  · rw [if_pos hneg, decide_eq_true hneg] at t1 t3
    have t1 := t1 w63
    have t3 := t3 v63
    have z1 : tiI 9223372036854775808 9223372036854775807 0 (oiP 4 n) ≤ n := by rw [t1.1]; exact (x1 hneg).1
    have z3 : n ≤ tiI 9223372036854775808 9223372036854775807 0 (oiP 3 n) := by rw [t3.1]; exact (x1 hneg).2
    exact ⟨t1.2, z1, .inr ⟨(fun h => absurd (t3.2.symm.trans h) (by decide)), z3⟩⟩
  · rw [if_neg hneg, decide_eq_false hneg] at t1 t3 t4
    have t1 := t1 (x2 hneg).2.2
    have z1 : tiI 9223372036854775808 9223372036854775807 0 (oiP 4 n) ≤ n := by rw [t1.1]; exact (x2 hneg).1
    refine ⟨t1.2, z1, ?_⟩
    by_cases hv : V ≤ 9223372036854775807
    · have t3 := t3 hv
      have z3 : n ≤ tiI 9223372036854775808 9223372036854775807 0 (oiP 3 n) := by rw [t3.1]; exact (x2 hneg).2.1
      exact .inr ⟨(fun h => absurd (t3.2.symm.trans h) (by decide)), z3⟩
    · exact .inl (t4 (y1 hv)).2
end Go.Proofs.Ytmfgjfnhonohjaa

/-
  The row's side: an argument that is four words of 64 bits, opened and shut; what a call that only makes memory leaves.
-/
namespace Go.KRun
open Go.ChangeShapes Go.WideShapes Go.ChangeAt Go.RowKit Go.Joins

section
variable {H : Type} {enc : TypeId × Value → H} {P : Program} {w : World} {base : Nat} {spare : Nat → Bool} {held : Bool}

theorem open_w4 {r : Go.Reach} {b0 : Nat} {t e : TypeId} {v : Value} {d : DataW H} {p : List MemPlace} (hu : P.underlying t = some (.array 4 e)) (hue : P.underlying e = some (.int .u64)) (hC : P.cellsOf t = 4) (hce : P.cellsOf e = 1)
    (hv : Value.okWide P w r b0 t v) (h : DataW.Trod enc P w base spare held t v d p) :
    ∃ a0 a1 a2 a3 : Int, v = .agg #[.int .u64 a0, .int .u64 a1, .int .u64 a2, .int .u64 a3] ∧ d = .agg [.lit (.int .u64 a0), .lit (.int .u64 a1), .lit (.int .u64 a2), .lit (.int .u64 a3)] ∧ p = [] ∧
      (Lit.int .u64 a0).wf = true ∧ (Lit.int .u64 a1).wf = true ∧ (Lit.int .u64 a2).wf = true ∧ (Lit.int .u64 a3).wf = true := by
  have hv' := hv
  simp only [Value.okWide, hu] at hv'
  obtain ⟨cs, rfl, hsz, _⟩ := hv'
  obtain ⟨c0, c1, c2, c3, rfl⟩ := array4 (hsz.trans hC)
  obtain ⟨fuel, hf⟩ := h
  have hf' : DataW.trod enc P w base spare held fuel t [c0, c1, c2, c3] = some (d, p) := by simpa [Value.cells] using hf
  obtain ⟨y0, y1, y2, y3, n, hx, h0, h1, h2, h3⟩ := trod_array4 hu hce hf'
  obtain ⟨a0, e0, rfl, w0⟩ := DataW.trod_int hue h0
  obtain ⟨a1, e1, rfl, w1⟩ := DataW.trod_int hue h1
  obtain ⟨a2, e2, rfl, w2⟩ := DataW.trod_int hue h2
  obtain ⟨a3, e3, rfl, w3⟩ := DataW.trod_int hue h3
  simp only [List.cons.injEq, and_true] at e0 e1 e2 e3
  subst e0 e1 e2 e3
  simp only [Prod.mk.injEq] at hx
  exact ⟨a0, a1, a2, a3, rfl, hx.1, by simpa using hx.2, w0, w1, w2, w3⟩

theorem shut_w4 {t e : TypeId} (hu : P.underlying t = some (.array 4 e)) (hue : P.underlying e = some (.int .u64)) (hC : P.cellsOf t = 4) (hce : P.cellsOf e = 1) {a0 a1 a2 a3 : Int}
    (w0 : (Lit.int .u64 a0).wf = true) (w1 : (Lit.int .u64 a1).wf = true) (w2 : (Lit.int .u64 a2).wf = true) (w3 : (Lit.int .u64 a3).wf = true) :
    DataW.Trod enc P w base spare held t (.agg #[.int .u64 a0, .int .u64 a1, .int .u64 a2, .int .u64 a3]) (.agg [.lit (.int .u64 a0), .lit (.int .u64 a1), .lit (.int .u64 a2), .lit (.int .u64 a3)]) [] := by
  refine ⟨2, ?_⟩
  have r4 : List.range 4 = [0, 1, 2, 3] := rfl
  have one : ∀ a : Int, (Lit.int .u64 a).wf = true → DataW.trod enc P w base spare held 1 e [.int .u64 a] = some (.lit (.int .u64 a), []) := fun a ha => by
    simp [DataW.trod, hue, ha]
  simp only [Value.cells]
  unfold DataW.trod
  simp [hu, hC, hce, r4, one a0 w0, one a1 w1, one a2 w2, one a3 w3]
end

theorem tidy_frozen {w w' : World} (h : Tidy w w') (a : Addr) : w'.frozen? a = w.frozen? a := by
  unfold World.frozen?
  by_cases h1 : a.block < w.heap.size
  · rw [h.1.block _ h1]
  · rw [Array.getElem?_eq_none (by omega : w.heap.size ≤ a.block)]
    by_cases h2 : a.block < w'.heap.size
    · have h3 := h.2 a.block (by omega) h2
      unfold iced at h3
      split
      · rename_i c e lo hi hc
        have := h3 _ _ _ hc
        cases this
        simp
      · rfl
    · rw [Array.getElem?_eq_none (by omega : w'.heap.size ≤ a.block)]
theorem u64_bounds {n : Int} (h : (Lit.int .u64 n).wf = true) : 0 ≤ n ∧ n < 18446744073709551616 := by
  simp [Lit.wf, IntKind.min, IntKind.max, IntKind.signed, IntKind.bits] at h
  omega
theorem i64_bounds {n : Int} (h : (Lit.int .i64 n).wf = true) : -9223372036854775808 ≤ n ∧ n ≤ 9223372036854775807 := by
  simp [Lit.wf, IntKind.min, IntKind.max, IntKind.signed, IntKind.bits] at h
  omega
end Go.KRun
