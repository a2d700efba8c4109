/-
  Flat
-/
import Derived.Test.YtekebccjflilnaaG26
namespace Go.KRun
open Go.ChangeShapes Go.WideShapes Go.ChangeAt Go.RowKit Go.Joins
/-- cells of known kinds: 'none': a truth -/
def okC : List (Option IntKind) → List Value → Prop
  | [], [] => True
  | none :: l, v :: vs => (∃ b, v = .bool b) ∧ okC l vs
  | some k :: l, v :: vs => (∃ n, v = .int k n ∧ (Lit.int k n).wf = true) ∧ okC l vs
  | _, _ => False
theorem okC_append : ∀ {l1 : List (Option IntKind)} {v1 : List Value} {l2 : List (Option IntKind)} {v2 : List Value}, okC l1 v1 → okC l2 v2 → okC (l1 ++ l2) (v1 ++ v2)
  | [], [], _, _, _, h2 => by simpa using h2
  | none :: l, v :: vs, _, _, h1, h2 => ⟨h1.1, okC_append (l1 := l) (v1 := vs) h1.2 h2⟩
  | some k :: l, v :: vs, _, _, h1, h2 => ⟨h1.1, okC_append (l1 := l) (v1 := vs) h1.2 h2⟩
  | [], _ :: _, _, _, h1, _ => h1.elim
  | none :: _, [], _, _, h1, _ => h1.elim
  | some _ :: _, [], _, _, h1, _ => h1.elim
theorem okC_length : ∀ {l : List (Option IntKind)} {vs : List Value}, okC l vs → vs.length = l.length
  | [], [], _ => rfl
  | none :: l, v :: vs, h => by simp [okC_length (l := l) h.2]
  | some k :: l, v :: vs, h => by simp [okC_length (l := l) h.2]
  | [], _ :: _, h => h.elim
  | none :: _, [], h => h.elim
  | some _ :: _, [], h => h.elim
def leavesF (P : Program) (q : TypeId → Option (List (Option IntKind))) : Nat → List Field → Option (List (Option IntKind))
  | _, [] => some []
  | off, f :: fs =>
    match q f.type with
    | some l =>
      if (Nat.beq f.offset off && Nat.beq (P.cellsOf f.type) l.length) = true then
        match leavesF P q (off + l.length) fs with
        | some r => some (l ++ r)
        | none => none
      else none
    | none => none
def leavesA (P : Program) (e : TypeId) (l : List (Option IntKind)) : Nat → List (Option IntKind)
  | 0 => []
  | n + 1 => l ++ leavesA P e l n
/-- the kinds of a type's cells -/
def leaves (P : Program) : Nat → TypeId → Option (List (Option IntKind))
  | 0, _ => none
  | n + 1, t =>
    match P.underlying t with
    | some .bool => some [none]
    | some (.int k) => some [some k]
    | some (.struct fs) =>
      match leavesF P (leaves P n) 0 fs.toList with
      | some l => if Nat.beq (P.cellsOf t) l.length = true then some l else none
      | none => none
    | some (.array m e) =>
      match leaves P n e with
      | some l => if (Nat.beq (P.cellsOf e) l.length && Nat.beq (P.cellsOf t) (leavesA P e l m).length) = true then some (leavesA P e l m) else none
      | none => none
    | _ => none
theorem cut_cs {α : Type} (cs : List α) (off a b : Nat) : ((cs.drop off).take (a + b)) = ((cs.drop off).take a) ++ ((cs.drop (off + a)).take b) := by
  rw [List.take_add, List.drop_drop]
section
variable {H : Type} {enc : TypeId × Value → H} {P : Program}
/-- what is said of a type's reading -/
def FlatAt (enc : TypeId × Value → H) (P : Program) (t : TypeId) (L : List (Option IntKind)) : Prop :=
  ∀ w base spare held fuel cs x, DataW.trod enc P w base spare held fuel t cs = some x → okC L cs ∧ x.2 = [] ∧ ∀ w' base' spare' held', DataW.trod enc P w' base' spare' held' fuel t cs = some x
theorem flat_fields {q : TypeId → Option (List (Option IntKind))} (hq : ∀ t L, q t = some L → FlatAt enc P t L) {w : World} {base : Nat} {spare : Nat → Bool} {held : Bool} {fuel : Nat} {cs : List Value} :
    ∀ (fs : List Field) (off : Nat) (L : List (Option IntKind)), leavesF P q off fs = some L → ∀ xs, fs.mapM (fun f => DataW.trod enc P w base spare held fuel f.type ((cs.drop f.offset).take (P.cellsOf f.type))) = some xs →
      okC L ((cs.drop off).take L.length) ∧ xs.flatMap (·.2) = [] ∧ ∀ w' base' spare' held', fs.mapM (fun f => DataW.trod enc P w' base' spare' held' fuel f.type ((cs.drop f.offset).take (P.cellsOf f.type))) = some xs
  | [], off, L, hL, xs, hx => by
    simp only [leavesF] at hL
    cases hL
    simp at hx
    subst hx
    exact ⟨by simp [okC], by simp, fun _ _ _ _ => by simp⟩
  | f :: fs, off, L, hL, xs, hx => by
    unfold leavesF at hL
    split at hL
    · rename_i l hl
      split at hL
      · rename_i hc
        simp only [Bool.and_eq_true] at hc
        have ho := Nat.eq_of_beq_eq_true hc.1
        have hs := Nat.eq_of_beq_eq_true hc.2
        split at hL
        · rename_i r hr
          cases hL
          rw [List.mapM_cons] at hx
          simp only [bind, Option.bind_eq_some_iff, pure, Option.some.injEq] at hx
          obtain ⟨y, hy, ys, hys, rfl⟩ := hx
          obtain ⟨a1, a2, a3⟩ := hq _ _ hl _ _ _ _ _ _ _ hy
          obtain ⟨b1, b2, b3⟩ := flat_fields hq fs (off + l.length) r hr ys hys
          rw [ho, hs] at a1
          refine ⟨?_, ?_, fun w' base' spare' held' => ?_⟩
          · rw [List.length_append, cut_cs]
            exact okC_append a1 b1
          · simp [a2, b2]
          · rw [List.mapM_cons, a3 w' base' spare' held', b3 w' base' spare' held']
            rfl
        · cases hL
      · cases hL
    · cases hL
theorem flat_items {e : TypeId} {l : List (Option IntKind)} (hl : FlatAt enc P e l) (hs : P.cellsOf e = l.length) {w : World} {base : Nat} {spare : Nat → Bool} {held : Bool} {fuel : Nat} {cs : List Value} :
    ∀ (n k : Nat) xs, (List.range' k n).mapM (fun i => DataW.trod enc P w base spare held fuel e ((cs.drop (i * P.cellsOf e)).take (P.cellsOf e))) = some xs →
      okC (leavesA P e l n) ((cs.drop (k * l.length)).take (leavesA P e l n).length) ∧ xs.flatMap (·.2) = [] ∧ ∀ w' base' spare' held', (List.range' k n).mapM (fun i => DataW.trod enc P w' base' spare' held' fuel e ((cs.drop (i * P.cellsOf e)).take (P.cellsOf e))) = some xs
  | 0, k, xs, hx => by
    simp at hx
    subst hx
    exact ⟨by simp [leavesA, okC], by simp, fun _ _ _ _ => by simp⟩
  | n + 1, k, xs, hx => by
    rw [List.range'_succ, List.mapM_cons] at hx
    simp only [bind, Option.bind_eq_some_iff, pure, Option.some.injEq] at hx
    obtain ⟨y, hy, ys, hys, rfl⟩ := hx
    obtain ⟨a1, a2, a3⟩ := hl _ _ _ _ _ _ _ hy
    obtain ⟨b1, b2, b3⟩ := flat_items hl hs n (k + 1) ys hys
    rw [hs] at a1
    refine ⟨?_, ?_, fun w' base' spare' held' => ?_⟩
    · show okC (l ++ leavesA P e l n) _
      rw [show (leavesA P e l (n + 1)).length = l.length + (leavesA P e l n).length by simp [leavesA], cut_cs]
      rw [Nat.add_mul, Nat.one_mul] at b1
      exact okC_append a1 b1
    · simp [a2, b2]
    · rw [List.range'_succ, List.mapM_cons, a3 w' base' spare' held', b3 w' base' spare' held']
      rfl
theorem flat_ok : ∀ (n : Nat) (t : TypeId) (L : List (Option IntKind)), leaves P n t = some L → FlatAt enc P t L
  | 0, t, L, h => by simp [leaves] at h
  | n + 1, t, L, h => by
    intro w base spare held fuel cs x hx
    cases fuel with
    | zero => simp [DataW.trod] at hx
    | succ fuel =>
      unfold leaves at h
      split at h
      · rename_i hu
        cases h
        obtain ⟨b, rfl, rfl⟩ := DataW.trod_bool hu hx
        exact ⟨⟨⟨b, rfl⟩, trivial⟩, rfl, fun _ _ _ _ => by simp [DataW.trod, hu]⟩
      · rename_i k hu
        cases h
        obtain ⟨a, rfl, rfl, hw⟩ := DataW.trod_int hu hx
        exact ⟨⟨⟨a, rfl, hw⟩, trivial⟩, rfl, fun _ _ _ _ => by simp [DataW.trod, hu, hw]⟩
      · rename_i fs hu
        split at h
        · rename_i l hl
          split at h
          · rename_i hc
            cases h
            have hc := Nat.eq_of_beq_eq_true hc
            have key : ∀ (w : World) (base : Nat) (spare : Nat → Bool) (held : Bool), DataW.trod enc P w base spare held (fuel + 1) t cs = if cs.length = P.cellsOf t then (fs.toList.mapM fun f => DataW.trod enc P w base spare held fuel f.type ((cs.drop f.offset).take (P.cellsOf f.type))).map fun xs => (.agg (xs.map (·.1)), xs.flatMap (·.2)) else none := fun w base spare held => by
              rw [DataW.trod.eq_def]
              simp only [hu]
            rw [key] at hx
            split at hx
            · rename_i hlen
              simp only [Option.map_eq_some_iff] at hx
              obtain ⟨xs, hxs, rfl⟩ := hx
              obtain ⟨b1, b2, b3⟩ := flat_fields (fun t L h => flat_ok n t L h) fs.toList 0 L hl xs hxs
              refine ⟨?_, b2, fun w' base' spare' held' => ?_⟩
              · rw [List.drop_zero, ← hc, ← hlen, List.take_length] at b1
                exact b1
              · rw [key, if_pos hlen, b3]
                rfl
            · cases hx
          · cases h
        · cases h
      · rename_i m e hu
        split at h
        · rename_i l hl
          split at h
          · rename_i hc
            cases h
            simp only [Bool.and_eq_true] at hc
            have hs := Nat.eq_of_beq_eq_true hc.1
            have hc := Nat.eq_of_beq_eq_true hc.2
            have key : ∀ (w : World) (base : Nat) (spare : Nat → Bool) (held : Bool), DataW.trod enc P w base spare held (fuel + 1) t cs = if cs.length = P.cellsOf t then ((List.range m).mapM fun i => DataW.trod enc P w base spare held fuel e ((cs.drop (i * P.cellsOf e)).take (P.cellsOf e))).map fun xs => (.agg (xs.map (·.1)), xs.flatMap (·.2)) else none := fun w base spare held => by
              rw [DataW.trod.eq_def]
              simp only [hu]
            rw [key] at hx
            split at hx
            · rename_i hlen
              simp only [Option.map_eq_some_iff] at hx
              obtain ⟨xs, hxs, rfl⟩ := hx
              rw [List.range_eq_range'] at hxs
              obtain ⟨b1, b2, b3⟩ := flat_items (flat_ok n e l hl) hs m 0 xs hxs
              refine ⟨?_, b2, fun w' base' spare' held' => ?_⟩
              · rw [Nat.zero_mul, List.drop_zero, ← hc, ← hlen, List.take_length] at b1
                exact b1
              · rw [key, if_pos hlen, List.range_eq_range', b3]
                rfl
            · cases hx
          · cases h
        · cases h
      · cases h
/-- a flat argument: its cells, no places, and it reads so everywhere -/
theorem flat_open {w : World} {base : Nat} {spare : Nat → Bool} {held : Bool} {t : TypeId} {v : Value} {d : DataW H} {p : List MemPlace} {L : List (Option IntKind)} (hL : leaves P 6 t = some L) (h : DataW.Trod enc P w base spare held t v d p) :
    okC L v.cells.toList ∧ p = [] ∧ ∀ w' base' spare' held', DataW.Trod enc P w' base' spare' held' t v d [] := by
  obtain ⟨fuel, hf⟩ := h
  obtain ⟨h1, h2, h3⟩ := flat_ok 6 t L hL _ _ _ _ _ _ _ hf
  simp only at h2
  subst h2
  exact ⟨h1, rfl, fun w' base' spare' held' => ⟨fuel, h3 w' base' spare' held'⟩⟩
/-- an argument of a struct's or an array's type is a row of cells -/
theorem agg_struct {r : Go.Reach} {w : World} {b0 : Nat} {t : TypeId} {v : Value} {fs : Array Field} (hu : P.underlying t = some (.struct fs)) (hv : Value.okWide P w r b0 t v) : ∃ cs : Array Value, v = .agg cs := by
  obtain ⟨cs, h, _⟩ := okWide_struct hu hv
  exact ⟨cs, h⟩
end
end Go.KRun
