/-
  PLAIN TERMS: the document's sum, told by its own power, is rounded as the program's.
-/
import Derived.Test.YtgmfnecdpfdncaaDoorG25
import Derived.Test.YtgmfnecdpfdncaaDoorG27
import Derived.Test.YtgmfnecdpfdncaaDoorG03
import Derived.WalkKit
import Derived.ProofKit
import Derived.OpenShut
import Derived.Laws.IdiomArrays
import Derived.Lib.SmallJoins
namespace Go.Proofs.YtgmfnecdpfdncaaDoor
open Go.KRun Go.Nt Go.Wd Go.Rn Go.Pt
set_option maxRecDepth 100000

theorem lowF_bd {F Ex Ey : Int} (h1 : F ≤ Ex) (h2 : F ≤ Ey) (n n' : Nat) : F ≤ lowS Ex Ey n n' := by
  unfold lowS lowM
  split
  · exact h1
  · split
    · exact h2
    · split <;> omega
theorem sm_lowF {F Ex Ey : Int} (h1 : F ≤ Ex) (h2 : F ≤ Ey) {n n' X Y : Nat} (hX : n = 0 ↔ X = 0) (hY : n' = 0 ↔ Y = 0) (nx ny : Bool) : smI F nx Ex X ny Ey Y = smI (lowS Ex Ey n n') nx Ex X ny Ey Y * ((2 ^ (lowS Ex Ey n n' - F).toNat : Nat) : Int) := by
  by_cases c1 : n' = 0
  · have e : lowS Ex Ey n n' = Ex := by unfold lowS; rw [if_pos c1]
    rw [e, hY.1 c1]
    unfold smI
    rw [szF_nil, szF_nil, sgI_nil, Int.add_zero, Int.add_zero, szF_low h1 (Int.le_refl Ex), sgI_mul]
  · by_cases c2 : n = 0
    · have e : lowS Ex Ey n n' = Ey := by unfold lowS; rw [if_neg c1, if_pos c2]
      rw [e, hX.1 c2]
      unfold smI
      rw [szF_nil, szF_nil, sgI_nil, Int.zero_add, Int.zero_add, szF_low h2 (Int.le_refl Ey), sgI_mul]
    · have e : lowS Ex Ey n n' = lowM Ex Ey := by unfold lowS; rw [if_neg c1, if_neg c2]
      rw [e]
      exact smI_low (by unfold lowM; split <;> omega) (by unfold lowM; split <;> omega) (by unfold lowM; split <;> omega) nx ny X Y
theorem len_zeroF (V : Nat) : (d16 V).length = 0 ↔ V = 0 := by
  constructor
  · intro h; exact d16_zero (by omega)
  · intro h; rw [h]; unfold d16; rw [db_zero]; rfl
theorem low_nearF {Ex Ey : Int} (n n' : Nat) : lowS Ex Ey n n' = Ex ∨ lowS Ex Ey n n' = Ey := by
  unfold lowS lowM
  split
  · exact .inl rfl
  · split
    · exact .inr rfl
    · split
      · exact .inr rfl
      · exact .inl rfl
theorem szF_ltF {F E : Int} {X k j : Nat} (hX : X < 2 ^ k) (h : (E - F).toNat ≤ j) : szF F E X < 2 ^ (k + j) := by
  unfold szF
  have hp : 0 < 2 ^ (E - F).toNat := Nat.pow_pos (by omega)
  have h1 := Nat.mul_lt_mul_of_pos_right hX hp
  rw [← Nat.pow_add] at h1
  exact Nat.lt_of_lt_of_le h1 (Nat.pow_le_pow_right (by omega) (by omega))
/-- Exact's answer, rounded by any mode, against the document's sum -/
theorem near_sum (k m : Int) {Ex Ey : Int} {X Y n n' : Nat} (hX : May Ex X) (hY : May Ey Y) (zX : n = 0 ↔ X = 0) (zY : n' = 0 ↔ Y = 0) (nx ny : Bool) :
    xuN m nx Ex X ny Ey Y = sgS m nx ny (smI (lowS Ex Ey n n') nx Ex X ny Ey Y)
    ∧ rnP k (xuN m nx Ex X ny Ey Y) (tw (ofN (xuQ nx Ex X ny Ey Y)) (xuB nx Ex X ny Ey Y)) (clp (unN Ex X Ey Y) - 1) = rnP k (sgS m nx ny (smI (lowS Ex Ey n n') nx Ex X ny Ey Y)) (smI (lowS Ex Ey n n') nx Ex X ny Ey Y).natAbs (lowS Ex Ey n n')
    ∧ rnF k (xuN m nx Ex X ny Ey Y) (tw (ofN (xuQ nx Ex X ny Ey Y)) (xuB nx Ex X ny Ey Y)) (clp (unN Ex X Ey Y) - 1) = rnF k (sgS m nx ny (smI (lowS Ex Ey n n') nx Ex X ny Ey Y)) (smI (lowS Ex Ey n n') nx Ex X ny Ey Y).natAbs (lowS Ex Ey n n') := by
  obtain ⟨G, hG⟩ : ∃ G, G = min Ex Ey := ⟨_, rfl⟩
  have g1 : G ≤ Ex := by omega
  have g2 : G ≤ Ey := by omega
  have hq := xuQ_lt nx Ex X ny Ey Y
  have e : (2 : Nat) ^ 256 = 2 * 2 ^ 255 := rfl
  obtain ⟨c1, c2⟩ := clp_round k (xuN m nx Ex X ny Ey Y) (ofN_ok (xuQ nx Ex X ny Ey Y)) (xuB nx Ex X ny Ey Y) (unN Ex X Ey Y)
  obtain ⟨p, q, r⟩ := xu_round hX hY g1 g2 k m (xuN m nx Ex X ny Ey Y) nx ny
  have es := sm_lowF g1 g2 zX zY nx ny
  have hl := lowF_bd g1 g2 n n'
  have hK : 0 < 2 ^ (lowS Ex Ey n n' - G).toNat := Nat.pow_pos (by omega)
  have ea : (smI G nx Ex X ny Ey Y).natAbs = (smI (lowS Ex Ey n n') nx Ex X ny Ey Y).natAbs * 2 ^ (lowS Ex Ey n n' - G).toNat := by rw [es, Int.natAbs_mul, Int.natAbs_natCast]
  have eG : lowS Ex Ey n n' - ((lowS Ex Ey n n' - G).toNat : Int) = G := by omega
  have hs : xuN m nx Ex X ny Ey Y = sgS m nx ny (smI (lowS Ex Ey n n') nx Ex X ny Ey Y) := by rw [r, es, sgS_mul m nx ny _ hK]
  have sp := rnP_scale k (xuN m nx Ex X ny Ey Y) (smI (lowS Ex Ey n n') nx Ex X ny Ey Y).natAbs (lowS Ex Ey n n' - G).toNat (lowS Ex Ey n n')
  have sf := rnF_scale k (xuN m nx Ex X ny Ey Y) (smI (lowS Ex Ey n n') nx Ex X ny Ey Y).natAbs (lowS Ex Ey n n' - G).toNat (lowS Ex Ey n n')
  rw [eG, ← ea] at sp sf
  refine ⟨hs, ?_, ?_⟩
  · rw [c1, tw_of (by omega), p, sp, ← hs]
  · rw [c2, tw_of (by omega), q, sf, ← hs]
theorem len_cd {X : W4} (h : X.ok) : lenI X ≤ 128 ↔ X.c = 0 ∧ X.d = 0 := by
  have hl : lenI X ≤ 128 ↔ X.nat < 2 ^ 128 := by
    rw [lenI_nat]
    constructor
    · intro h1
      exact Nat.lt_of_lt_of_le (bitLen_spec X.nat).1 (Nat.pow_le_pow_right (by omega) (by omega))
    · intro h1
      have := len_le h1
      omega
  have e : (2 : Nat) ^ 128 = 340282366920938463463374607431768211456 := rfl
  have hv := W4.nat_val h
  obtain ⟨h1, h2, h3, h4⟩ := h
  rw [hl, e]
  unfold W4.val at hv
  omega
theorem may_cd {X : W4} (h : X.ok) (E : Int) (b : Bool) : mayB E X b = true ↔ (X.c = 0 ∧ X.d = 0) ∧ b = false ∧ -100000 ≤ E ∧ E ≤ 100000 := by
  unfold mayB
  simp only [Bool.and_eq_true, decide_eq_true_eq, Bool.not_eq_true', len_cd h]
  exact ⟨fun ⟨⟨⟨a, b⟩, c⟩, d⟩ => ⟨a, b, c, d⟩, fun ⟨a, b, c, d⟩ => ⟨⟨⟨a, b⟩, c⟩, d⟩⟩
end Go.Proofs.YtgmfnecdpfdncaaDoor

/-
  The row's side: an argument that is four words of 64 bits, opened and shut; what a call that only makes memory leaves.
-/
namespace Go.KRun
open Go.ChangeShapes Go.WideShapes Go.ChangeAt Go.RowKit Go.Joins

section
variable {H : Type} {enc : TypeId × Value → H} {P : Program} {w : World} {base : Nat} {spare : Nat → Bool} {held : Bool}

theorem open_w4 {r : Go.Reach} {b0 : Nat} {t e : TypeId} {v : Value} {d : DataW H} {p : List MemPlace} (hu : P.underlying t = some (.array 4 e)) (hue : P.underlying e = some (.int .u64)) (hC : P.cellsOf t = 4) (hce : P.cellsOf e = 1)
    (hv : Value.okWide P w r b0 t v) (h : DataW.Trod enc P w base spare held t v d p) :
    ∃ a0 a1 a2 a3 : Int, v = .agg #[.int .u64 a0, .int .u64 a1, .int .u64 a2, .int .u64 a3] ∧ d = .agg [.lit (.int .u64 a0), .lit (.int .u64 a1), .lit (.int .u64 a2), .lit (.int .u64 a3)] ∧ p = [] ∧
      (Lit.int .u64 a0).wf = true ∧ (Lit.int .u64 a1).wf = true ∧ (Lit.int .u64 a2).wf = true ∧ (Lit.int .u64 a3).wf = true := by
  have hv' := hv
  simp only [Value.okWide, hu] at hv'
  obtain ⟨cs, rfl, hsz, _⟩ := hv'
  obtain ⟨c0, c1, c2, c3, rfl⟩ := array4 (hsz.trans hC)
  obtain ⟨fuel, hf⟩ := h
  have hf' : DataW.trod enc P w base spare held fuel t [c0, c1, c2, c3] = some (d, p) := by simpa [Value.cells] using hf
  obtain ⟨y0, y1, y2, y3, n, hx, h0, h1, h2, h3⟩ := trod_array4 hu hce hf'
  obtain ⟨a0, e0, rfl, w0⟩ := DataW.trod_int hue h0
  obtain ⟨a1, e1, rfl, w1⟩ := DataW.trod_int hue h1
  obtain ⟨a2, e2, rfl, w2⟩ := DataW.trod_int hue h2
  obtain ⟨a3, e3, rfl, w3⟩ := DataW.trod_int hue h3
  simp only [List.cons.injEq, and_true] at e0 e1 e2 e3
  subst e0 e1 e2 e3
  simp only [Prod.mk.injEq] at hx
  exact ⟨a0, a1, a2, a3, rfl, hx.1, by simpa using hx.2, w0, w1, w2, w3⟩

theorem shut_w4 {t e : TypeId} (hu : P.underlying t = some (.array 4 e)) (hue : P.underlying e = some (.int .u64)) (hC : P.cellsOf t = 4) (hce : P.cellsOf e = 1) {a0 a1 a2 a3 : Int}
    (w0 : (Lit.int .u64 a0).wf = true) (w1 : (Lit.int .u64 a1).wf = true) (w2 : (Lit.int .u64 a2).wf = true) (w3 : (Lit.int .u64 a3).wf = true) :
    DataW.Trod enc P w base spare held t (.agg #[.int .u64 a0, .int .u64 a1, .int .u64 a2, .int .u64 a3]) (.agg [.lit (.int .u64 a0), .lit (.int .u64 a1), .lit (.int .u64 a2), .lit (.int .u64 a3)]) [] := by
  refine ⟨2, ?_⟩
  have r4 : List.range 4 = [0, 1, 2, 3] := rfl
  have one : ∀ a : Int, (Lit.int .u64 a).wf = true → DataW.trod enc P w base spare held 1 e [.int .u64 a] = some (.lit (.int .u64 a), []) := fun a ha => by
    simp [DataW.trod, hue, ha]
  simp only [Value.cells]
  unfold DataW.trod
  simp [hu, hC, hce, r4, one a0 w0, one a1 w1, one a2 w2, one a3 w3]
end

theorem tidy_frozen {w w' : World} (h : Tidy w w') (a : Addr) : w'.frozen? a = w.frozen? a := by
  unfold World.frozen?
  by_cases h1 : a.block < w.heap.size
  · rw [h.1.block _ h1]
  · rw [Array.getElem?_eq_none (by omega : w.heap.size ≤ a.block)]
    by_cases h2 : a.block < w'.heap.size
    · obtain ⟨c, e, h3⟩ := h.2 a.block (by omega) h2
      rw [h3]
      simp
    · rw [Array.getElem?_eq_none (by omega : w'.heap.size ≤ a.block)]
theorem u64_bounds {n : Int} (h : (Lit.int .u64 n).wf = true) : 0 ≤ n ∧ n < 18446744073709551616 := by
  simp [Lit.wf, IntKind.min, IntKind.max, IntKind.signed, IntKind.bits] at h
  omega
theorem i64_bounds {n : Int} (h : (Lit.int .i64 n).wf = true) : -9223372036854775808 ≤ n ∧ n ≤ 9223372036854775807 := by
  simp [Lit.wf, IntKind.min, IntKind.max, IntKind.signed, IntKind.bits] at h
  omega
end Go.KRun

/-
  The row's side: an argument that holds integers and truths alone (structs and arrays of them): its cells, and that it reads so in every world.
-/
namespace Go.KRun
open Go.ChangeShapes Go.WideShapes Go.ChangeAt Go.RowKit Go.Joins

/-- cells of known kinds: 'none': a truth -/
def okC : List (Option IntKind) → List Value → Prop
  | [], [] => True
  | none :: l, v :: vs => (∃ b, v = .bool b) ∧ okC l vs
  | some k :: l, v :: vs => (∃ n, v = .int k n ∧ (Lit.int k n).wf = true) ∧ okC l vs
  | _, _ => False
theorem okC_append : ∀ {l1 : List (Option IntKind)} {v1 : List Value} {l2 : List (Option IntKind)} {v2 : List Value}, okC l1 v1 → okC l2 v2 → okC (l1 ++ l2) (v1 ++ v2)
  | [], [], _, _, _, h2 => by simpa using h2
  | none :: l, v :: vs, _, _, h1, h2 => ⟨h1.1, okC_append (l1 := l) (v1 := vs) h1.2 h2⟩
  | some k :: l, v :: vs, _, _, h1, h2 => ⟨h1.1, okC_append (l1 := l) (v1 := vs) h1.2 h2⟩
  | [], _ :: _, _, _, h1, _ => h1.elim
  | none :: _, [], _, _, h1, _ => h1.elim
  | some _ :: _, [], _, _, h1, _ => h1.elim
theorem okC_length : ∀ {l : List (Option IntKind)} {vs : List Value}, okC l vs → vs.length = l.length
  | [], [], _ => rfl
  | none :: l, v :: vs, h => by simp [okC_length (l := l) h.2]
  | some k :: l, v :: vs, h => by simp [okC_length (l := l) h.2]
  | [], _ :: _, h => h.elim
  | none :: _, [], h => h.elim
  | some _ :: _, [], h => h.elim

def leavesF (P : Program) (q : TypeId → Option (List (Option IntKind))) : Nat → List Field → Option (List (Option IntKind))
  | _, [] => some []
  | off, f :: fs =>
    match q f.type with
    | some l =>
      if (Nat.beq f.offset off && Nat.beq (P.cellsOf f.type) l.length) = true then
        match leavesF P q (off + l.length) fs with
        | some r => some (l ++ r)
        | none => none
      else none
    | none => none
def leavesA (P : Program) (e : TypeId) (l : List (Option IntKind)) : Nat → List (Option IntKind)
  | 0 => []
  | n + 1 => l ++ leavesA P e l n
/-- the kinds of a type's cells -/
def leaves (P : Program) : Nat → TypeId → Option (List (Option IntKind))
  | 0, _ => none
  | n + 1, t =>
    match P.underlying t with
    | some .bool => some [none]
    | some (.int k) => some [some k]
    | some (.struct fs) =>
      match leavesF P (leaves P n) 0 fs.toList with
      | some l => if Nat.beq (P.cellsOf t) l.length = true then some l else none
      | none => none
    | some (.array m e) =>
      match leaves P n e with
      | some l => if (Nat.beq (P.cellsOf e) l.length && Nat.beq (P.cellsOf t) (leavesA P e l m).length) = true then some (leavesA P e l m) else none
      | none => none
    | _ => none

theorem cut_cs {α : Type} (cs : List α) (off a b : Nat) : ((cs.drop off).take (a + b)) = ((cs.drop off).take a) ++ ((cs.drop (off + a)).take b) := by
  rw [List.take_add, List.drop_drop]

section
variable {H : Type} {enc : TypeId × Value → H} {P : Program}

/-- what is said of a type's reading -/
def FlatAt (enc : TypeId × Value → H) (P : Program) (t : TypeId) (L : List (Option IntKind)) : Prop :=
  ∀ w base spare held fuel cs x, DataW.trod enc P w base spare held fuel t cs = some x → okC L cs ∧ x.2 = [] ∧ ∀ w' base' spare' held', DataW.trod enc P w' base' spare' held' fuel t cs = some x

theorem flat_fields {q : TypeId → Option (List (Option IntKind))} (hq : ∀ t L, q t = some L → FlatAt enc P t L) {w : World} {base : Nat} {spare : Nat → Bool} {held : Bool} {fuel : Nat} {cs : List Value} :
    ∀ (fs : List Field) (off : Nat) (L : List (Option IntKind)), leavesF P q off fs = some L → ∀ xs, fs.mapM (fun f => DataW.trod enc P w base spare held fuel f.type ((cs.drop f.offset).take (P.cellsOf f.type))) = some xs →
      okC L ((cs.drop off).take L.length) ∧ xs.flatMap (·.2) = [] ∧ ∀ w' base' spare' held', fs.mapM (fun f => DataW.trod enc P w' base' spare' held' fuel f.type ((cs.drop f.offset).take (P.cellsOf f.type))) = some xs
  | [], off, L, hL, xs, hx => by
    simp only [leavesF] at hL
    cases hL
    simp at hx
    subst hx
    exact ⟨by simp [okC], by simp, fun _ _ _ _ => by simp⟩
  | f :: fs, off, L, hL, xs, hx => by
    unfold leavesF at hL
    split at hL
    · rename_i l hl
      split at hL
      · rename_i hc
        simp only [Bool.and_eq_true] at hc
        have ho := Nat.eq_of_beq_eq_true hc.1
        have hs := Nat.eq_of_beq_eq_true hc.2
        split at hL
        · rename_i r hr
          cases hL
          rw [List.mapM_cons] at hx
          simp only [bind, Option.bind_eq_some_iff, pure, Option.some.injEq] at hx
          obtain ⟨y, hy, ys, hys, rfl⟩ := hx
          obtain ⟨a1, a2, a3⟩ := hq _ _ hl _ _ _ _ _ _ _ hy
          obtain ⟨b1, b2, b3⟩ := flat_fields hq fs (off + l.length) r hr ys hys
          rw [ho, hs] at a1
          refine ⟨?_, ?_, fun w' base' spare' held' => ?_⟩
          · rw [List.length_append, cut_cs]
            exact okC_append a1 b1
          · simp [a2, b2]
          · rw [List.mapM_cons, a3 w' base' spare' held', b3 w' base' spare' held']
            rfl
        · cases hL
      · cases hL
    · cases hL
theorem flat_items {e : TypeId} {l : List (Option IntKind)} (hl : FlatAt enc P e l) (hs : P.cellsOf e = l.length) {w : World} {base : Nat} {spare : Nat → Bool} {held : Bool} {fuel : Nat} {cs : List Value} :
    ∀ (n k : Nat) xs, (List.range' k n).mapM (fun i => DataW.trod enc P w base spare held fuel e ((cs.drop (i * P.cellsOf e)).take (P.cellsOf e))) = some xs →
      okC (leavesA P e l n) ((cs.drop (k * l.length)).take (leavesA P e l n).length) ∧ xs.flatMap (·.2) = [] ∧ ∀ w' base' spare' held', (List.range' k n).mapM (fun i => DataW.trod enc P w' base' spare' held' fuel e ((cs.drop (i * P.cellsOf e)).take (P.cellsOf e))) = some xs
  | 0, k, xs, hx => by
    simp at hx
    subst hx
    exact ⟨by simp [leavesA, okC], by simp, fun _ _ _ _ => by simp⟩
  | n + 1, k, xs, hx => by
    rw [List.range'_succ, List.mapM_cons] at hx
    simp only [bind, Option.bind_eq_some_iff, pure, Option.some.injEq] at hx
    obtain ⟨y, hy, ys, hys, rfl⟩ := hx
    obtain ⟨a1, a2, a3⟩ := hl _ _ _ _ _ _ _ hy
    obtain ⟨b1, b2, b3⟩ := flat_items hl hs n (k + 1) ys hys
    rw [hs] at a1
    refine ⟨?_, ?_, fun w' base' spare' held' => ?_⟩
    · show okC (l ++ leavesA P e l n) _
      rw [show (leavesA P e l (n + 1)).length = l.length + (leavesA P e l n).length by simp [leavesA], cut_cs]
      rw [Nat.add_mul, Nat.one_mul] at b1
      exact okC_append a1 b1
    · simp [a2, b2]
    · rw [List.range'_succ, List.mapM_cons, a3 w' base' spare' held', b3 w' base' spare' held']
      rfl
theorem flat_ok : ∀ (n : Nat) (t : TypeId) (L : List (Option IntKind)), leaves P n t = some L → FlatAt enc P t L
  | 0, t, L, h => by simp [leaves] at h
  | n + 1, t, L, h => by
    intro w base spare held fuel cs x hx
    cases fuel with
    | zero => simp [DataW.trod] at hx
    | succ fuel =>
      unfold leaves at h
      split at h
      · rename_i hu
        cases h
        obtain ⟨b, rfl, rfl⟩ := DataW.trod_bool hu hx
        exact ⟨⟨⟨b, rfl⟩, trivial⟩, rfl, fun _ _ _ _ => by simp [DataW.trod, hu]⟩
      · rename_i k hu
        cases h
        obtain ⟨a, rfl, rfl, hw⟩ := DataW.trod_int hu hx
        exact ⟨⟨⟨a, rfl, hw⟩, trivial⟩, rfl, fun _ _ _ _ => by simp [DataW.trod, hu, hw]⟩
      · rename_i fs hu
        split at h
        · rename_i l hl
          split at h
          · rename_i hc
            cases h
            have hc := Nat.eq_of_beq_eq_true hc
            have key : ∀ (w : World) (base : Nat) (spare : Nat → Bool) (held : Bool), DataW.trod enc P w base spare held (fuel + 1) t cs = if cs.length = P.cellsOf t then (fs.toList.mapM fun f => DataW.trod enc P w base spare held fuel f.type ((cs.drop f.offset).take (P.cellsOf f.type))).map fun xs => (.agg (xs.map (·.1)), xs.flatMap (·.2)) else none := fun w base spare held => by
              rw [DataW.trod.eq_def]
              simp only [hu]
            rw [key] at hx
            split at hx
            · rename_i hlen
              simp only [Option.map_eq_some_iff] at hx
              obtain ⟨xs, hxs, rfl⟩ := hx
              obtain ⟨b1, b2, b3⟩ := flat_fields (fun t L h => flat_ok n t L h) fs.toList 0 L hl xs hxs
              refine ⟨?_, b2, fun w' base' spare' held' => ?_⟩
              · rw [List.drop_zero, ← hc, ← hlen, List.take_length] at b1
                exact b1
              · rw [key, if_pos hlen, b3]
                rfl
            · cases hx
          · cases h
        · cases h
      · rename_i m e hu
        split at h
        · rename_i l hl
          split at h
          · rename_i hc
            cases h
            simp only [Bool.and_eq_true] at hc
            have hs := Nat.eq_of_beq_eq_true hc.1
            have hc := Nat.eq_of_beq_eq_true hc.2
            have key : ∀ (w : World) (base : Nat) (spare : Nat → Bool) (held : Bool), DataW.trod enc P w base spare held (fuel + 1) t cs = if cs.length = P.cellsOf t then ((List.range m).mapM fun i => DataW.trod enc P w base spare held fuel e ((cs.drop (i * P.cellsOf e)).take (P.cellsOf e))).map fun xs => (.agg (xs.map (·.1)), xs.flatMap (·.2)) else none := fun w base spare held => by
              rw [DataW.trod.eq_def]
              simp only [hu]
            rw [key] at hx
            split at hx
            · rename_i hlen
              simp only [Option.map_eq_some_iff] at hx
              obtain ⟨xs, hxs, rfl⟩ := hx
              rw [List.range_eq_range'] at hxs
              obtain ⟨b1, b2, b3⟩ := flat_items (flat_ok n e l hl) hs m 0 xs hxs
              refine ⟨?_, b2, fun w' base' spare' held' => ?_⟩
              · rw [Nat.zero_mul, List.drop_zero, ← hc, ← hlen, List.take_length] at b1
                exact b1
              · rw [key, if_pos hlen, List.range_eq_range', b3]
                rfl
            · cases hx
          · cases h
        · cases h
      · cases h
/-- a flat argument: its cells, no places, and it reads so everywhere -/
theorem flat_open {w : World} {base : Nat} {spare : Nat → Bool} {held : Bool} {t : TypeId} {v : Value} {d : DataW H} {p : List MemPlace} {L : List (Option IntKind)} (hL : leaves P 6 t = some L) (h : DataW.Trod enc P w base spare held t v d p) :
    okC L v.cells.toList ∧ p = [] ∧ ∀ w' base' spare' held', DataW.Trod enc P w' base' spare' held' t v d [] := by
  obtain ⟨fuel, hf⟩ := h
  obtain ⟨h1, h2, h3⟩ := flat_ok 6 t L hL _ _ _ _ _ _ _ hf
  simp only at h2
  subst h2
  exact ⟨h1, rfl, fun w' base' spare' held' => ⟨fuel, h3 w' base' spare' held'⟩⟩
/-- an argument of a struct's or an array's type is a row of cells -/
theorem agg_struct {r : Go.Reach} {w : World} {b0 : Nat} {t : TypeId} {v : Value} {fs : Array Field} (hu : P.underlying t = some (.struct fs)) (hv : Value.okWide P w r b0 t v) : ∃ cs : Array Value, v = .agg cs := by
  obtain ⟨cs, h, _⟩ := okWide_struct hu hv
  exact ⟨cs, h⟩
end
end Go.KRun
