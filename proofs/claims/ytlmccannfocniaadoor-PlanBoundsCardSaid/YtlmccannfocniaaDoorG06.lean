/-
  RunC, RunD
-/
import Derived.Test.YtlmccannfocniaaDoorG05
import Derived.Laws.Tables
import Derived.Laws.Concat
import Derived.Laws.Strings2
import Derived.Laws.Strings3
import Derived.Laws.Slices
import Derived.OrdersHeld
namespace Go.KRun
open Go.RowKit
/-- An operation that looks at no memory, its operands without addresses. -/
def genS (P : Program) (t : List Value) (s : List Dec) (o : Oper) : Option (Value × List Dec × Log) :=
  if (o.op.operands.toList.all fun x => okX x && lt 0 (ev t x)) = true then
    match runP P (execOp (ev t) o) with
    | some (.value v) => if lt 0 v = true then some (v, s, []) else none
    | _ => none
  else none
def lenS (P : Program) (t : List Value) (c : Call) : Option Value :=
  match c.callee, c.args.toList, c.argTypes.toList with
  | .builtin .len, [x], [ty] =>
    if okX x = true then
      match P.underlying ty, ev t x with
      | some (.slice _), .slice _ n _ => some (goInt n)
      | _, _ => none
    else none
  | _, _, _ => none
def shiftS (op : BinOp) (x y : Value) : Option (Value × Log) :=
  match op, x, y with
  | .shl, .int k a, .int _ b => some (.int k (k.wrap (a * 2 ^ min b.toNat k.bits)), [(decide (b < 0), false)])
  | .shr, .int k a, .int _ b => some (.int k (a.fdiv (2 ^ min b.toNat k.bits)), [(decide (b < 0), false)])
  | _, _, _ => none
/-- a quotient whose value is told ahead -/
def hintS (op : BinOp) (x y : Value) : List Dec → Option (Value × List Dec × Log)
  | .inr (.inl q) :: s =>
    match op, x, y with
    | .quo, .int k a, .int k' b => if k = k' then some (.int k q, s, [(decide (b = 0), false), (decide (k.wrap (a.tdiv b) = q), true)]) else none
    | _, _, _ => none
  | .inr (.inr (.inr (.inl d))) :: s =>
    match x, y with
    | .int k a, .int k' b =>
      if k = k' then
        match op with
        | .rem => some (.int k (a.tmod b), s, [(decide (b = 0), false)])
        | .lss => some (.bool d, s, [(decide (a < b), d)])
        | .leq => some (.bool d, s, [(decide (a ≤ b), d)])
        | .gtr => some (.bool d, s, [(decide (a > b), d)])
        | .geq => some (.bool d, s, [(decide (a ≥ b), d)])
        | .eql => some (.bool d, s, [(a == b, d)])
        | .neq => some (.bool d, s, [(a != b, d)])
        | _ => none
      else none
    | _, _ => none
  | _ => none
/-- two strings with letters: the script says so -/
def txtB (op : BinOp) (x y : Value) : List Dec → Option (Value × List Dec × Log)
  | .inr (.inr (.inl d)) :: s =>
    match op, x, y with
    | .eql, .string a, .string b => some (.bool d, s, [(a == b, d)])
    | .neq, .string a, .string b => some (.bool d, s, [(!(a == b), d)])
    | .add, .string a, .string b => some (.string ⟨(a.data.toList ++ b.data.toList).toArray⟩, s, [(decide (a.data.toList.length + b.data.toList.length ≤ 9223372036854775807), true)])
    | _, _, _ => none
  | _ => none
/-- a part of a string with letters: the script says so -/
def txtL (P : Program) (ty : TypeId) (x : Value) (lo hi mx : Option Value) : List Dec → Option (Value × List Dec × Log)
  | .inr (.inr (.inl _)) :: s =>
    match P.underlying ty, x, lo, hi, mx with
    | some .string, .string b, some (.int _ i), some (.int _ j), none => some (.string ⟨((b.data.toList.drop i.toNat).take (j.toNat - i.toNat)).toArray⟩, s, [(decide (0 ≤ i ∧ i ≤ j ∧ j ≤ (b.data.toList.length : Int)), true)])
    | some .string, .string b, none, some (.int _ j), none => some (.string ⟨(b.data.toList.take j.toNat).toArray⟩, s, [(decide (0 ≤ j ∧ j ≤ (b.data.toList.length : Int)), true)])
    | some .string, .string b, some (.int _ i), none, none => some (.string ⟨(b.data.toList.drop i.toNat).toArray⟩, s, [(decide (0 ≤ i ∧ i ≤ (b.data.toList.length : Int)), true)])
    | _, _, _, _, _ => none
  | _ => none
theorem txtB_run {P : Program} {op : BinOp} {x y v : Value} {s s' : List Dec} {lg : Log} (h : txtB op x y s = some (v, s', lg)) (hlg : okLog lg) (ty : TypeId) (xo yo : Operand) (m : Mp) (n : Nat) :
    (∀ w, (do eqGuard op ty xo yo (mv m x) (mv m y); binOp op ty (mv m x) (mv m y) : Sem Value).run P w = .ok (mv m v) w) ∧ lt n v = true := by
  unfold txtB at h
  split at h
  · split at h
    · rename_i a b
      cases h
      have h1 := hlg _ (List.mem_singleton.2 rfl)
      simp only at h1
      refine ⟨fun w => ?_, by simp [lt, lt2, lt1]⟩
      rw [← h1]
      simp [mv, mv2, mv1, eqGuard, binOp, Op.stringOp, beq_toListBytes]
    · rename_i a b
      cases h
      have h1 := hlg _ (List.mem_singleton.2 rfl)
      simp only at h1
      refine ⟨fun w => ?_, by simp [lt, lt2, lt1]⟩
      rw [← h1]
      simp [mv, mv2, mv1, eqGuard, binOp, Op.stringOp, beq_toListBytes]
    · rename_i a b
      cases h
      have h1 := hlg _ (List.mem_singleton.2 rfl)
      simp only [decide_eq_true_eq] at h1
      refine ⟨fun w => ?_, by simp [lt, lt2, lt1]⟩
      have h2 : a.size + b.size ≤ 9223372036854775807 := h1
      have h3 : a ++ b = ⟨(a.data.toList ++ b.data.toList).toArray⟩ := by
        apply ByteArray.ext
        simp [ByteArray.data_append]
      simp [mv, mv2, mv1, eqGuard, binOp, run_string_add_sum w a b h2, h3]
    · cases h
  · cases h
theorem txtL_run {P : Program} {ty : TypeId} {x v : Value} {lo hi mx : Option Value} {s s' : List Dec} {lg : Log} (h : txtL P ty x lo hi mx s = some (v, s', lg)) (hlg : okLog lg) (m : Mp) (n : Nat) :
    (∀ w, (Instr.sliceAt ty (mv m x) lo hi mx).run P w = .ok (mv m v) w) ∧ lt n v = true := by
  unfold txtL at h
  split at h
  · split at h
    · rename_i b k i k' j hu
      cases h
      have h1 := hlg _ (List.mem_singleton.2 rfl)
      simp only [decide_eq_true_eq] at h1
      refine ⟨fun w => ?_, by simp [lt, lt2, lt1]⟩
      have h2 : b.extract i.toNat j.toNat = ⟨((b.data.toList.drop i.toNat).take (j.toNat - i.toNat)).toArray⟩ := by
        have h4 := ByteArray.extract_mk b.data.toList i.toNat j.toNat
        simpa using h4
      have h3 : (b.data.toList.length : Int) = b.size := rfl
      simp only [mv, mv2, mv1]
      rw [run_sliceAt_string w ty _ _ _ _ hu, run_slice_string w ty b k k' i j hu h1.1 h1.2.1 (by omega), h2]
    · rename_i b k j hu
      cases h
      have h1 := hlg _ (List.mem_singleton.2 rfl)
      simp only [decide_eq_true_eq] at h1
      refine ⟨fun w => ?_, by simp [lt, lt2, lt1]⟩
      have h2 : b.extract 0 j.toNat = ⟨(b.data.toList.take j.toNat).toArray⟩ := by
        have h4 := ByteArray.extract_mk b.data.toList 0 j.toNat
        simpa using h4
      have h3 : (b.data.toList.length : Int) = b.size := rfl
      simp only [mv, mv2, mv1]
      rw [run_sliceAt_string w ty _ _ _ _ hu, run_slice_string_to_if w ty b k j hu, if_pos ⟨h1.1, by omega⟩, h2]
    · rename_i b k i hu
      cases h
      have h1 := hlg _ (List.mem_singleton.2 rfl)
      simp only [decide_eq_true_eq] at h1
      refine ⟨fun w => ?_, by simp [lt, lt2, lt1]⟩
      have h2 : b.extract i.toNat b.size = ⟨(b.data.toList.drop i.toNat).toArray⟩ := by
        have h4 := ByteArray.extract_mk b.data.toList i.toNat b.size
        have h5 : (b.data.toList.drop i.toNat).take (b.size - i.toNat) = b.data.toList.drop i.toNat := List.take_of_length_le (by rw [List.length_drop]; exact Nat.le_refl _)
        rw [h5] at h4
        simpa using h4
      have h3 : (b.data.toList.length : Int) = b.size := rfl
      simp only [mv, mv2, mv1]
      rw [run_sliceAt_string w ty _ _ _ _ hu, run_slice_string_from_if w ty b k i hu, if_pos ⟨h1.1, by omega⟩, h2]
    · cases h
  · cases h
/-- a byte of a string -/
def strS (P : Program) (ty : TypeId) (x y : Value) : Option (Value × Log) :=
  match P.underlying ty, x, y with
  | some .string, .string b, .int _ i => some (.int .u8 ((b.data.toList.getD i.toNat 0).toNat : Int), [(decide (0 ≤ i ∧ i.toNat < b.data.toList.length), true)])
  | _, _, _ => none
/-- two rows of integers, cell by cell -/
def eqL : List Value → List Value → Option Bool
  | [], [] => some true
  | .int k a :: xs, .int k' b :: ys =>
    if k = k' then
      match eqL xs ys with
      | some r => some (a == b && r)
      | none => none
    else none
  | _, _ => none
def pickE (b : Bool) : List Dec → Bool × List Dec × Log
  | .inr (.inr (.inl d)) :: s => (d, s, [(b, d)])
  | s => (b, s, [])
theorem pickE_ok {b : Bool} {s : List Dec} (h : okLog (pickE b s).2.2) : (pickE b s).1 = b := by
  unfold pickE at *
  split at h
  · rename_i d s
    exact (h (b, d) (List.mem_singleton.2 rfl)).symm
  · rfl
def eqS (P : Program) (op : BinOp) (ty : TypeId) (x y : Value) : Option Bool :=
  match P.underlying ty, x, y with
  | some (.array len elem), .agg xs, .agg ys =>
    match P.underlying elem, P.info? elem with
    | some (.int _), some ie =>
      if (Nat.beq ie.size 1 && Nat.beq xs.size len && !(P.eqGuardType P.depth ty)) = true then
        match op, eqL xs.toList ys.toList with
        | .eql, some b => some b
        | .neq, some b => some (!b)
        | _, _ => none
      else none
    | _, _ => none
  | some (.struct _), .agg xs, .agg ys =>
    if (!(P.eqGuardType P.depth ty)) = true then
      match op, eqV P 5 ty (.agg xs) (.agg ys) with
      | .eql, some b => some b
      | .neq, some b => some (!b)
      | _, _ => none
    else none
  | _, _, _ => none
theorem eqItems_run {P : Program} {e : TypeId} {k0 : IntKind} {ie : TypeInfo} (hu : P.underlying e = some (.int k0)) (hi : P.info? e = some ie) (h1 : ie.size = 1) (d : Nat) (xs ys : Array Value) (w : World) :
    ∀ (l1 l2 : List Value) (k : Nat) (r : Bool), xs.toList.drop k = l1 → ys.toList.drop k = l2 → eqL l1 l2 = some r → (Op.eqItems (d + 1) e (P.cellsOf e) xs ys (List.range' k l1.length)).run P w = .ok r w := by
  have hc : P.cellsOf e = 1 := by simp [Program.cellsOf, hi, h1]
  intro l1
  induction l1 with
  | nil =>
    intro l2 k r _ _ hr
    cases l2 with
    | nil => simp only [eqL] at hr; cases hr; simp [Op.eqItems]
    | cons y l2 => simp [eqL] at hr
  | cons x l1 ih =>
    intro l2 k r hx hy hr
    cases l2 with
    | nil => cases x <;> simp [eqL] at hr
    | cons y l2 =>
      unfold eqL at hr
      split at hr
      · rename_i heq _; cases heq
      · rename_i ka a xs' kb b ys' ex ey
        cases ex
        cases ey
        split at hr
        · rename_i hk
          subst hk
          split at hr
          · rename_i r' hr'
            cases hr
            have hx0 : xs[k]? = some (.int ka a) := by
              have : (xs.toList.drop k)[0]? = some (.int ka a) := by rw [hx]; rfl
              rw [List.getElem?_drop] at this
              simpa using this
            have hy0 : ys[k]? = some (.int ka b) := by
              have : (ys.toList.drop k)[0]? = some (.int ka b) := by rw [hy]; rfl
              rw [List.getElem?_drop] at this
              simpa using this
            have ih' := ih l2 (k + 1) r' (by rw [← List.drop_drop, hx]; rfl) (by rw [← List.drop_drop, hy]; rfl) hr'
            simp only [List.length_cons, List.range'_succ, Op.eqItems, hc, Nat.mul_one, Sem.run_bind]
            have hp : ∀ (zs : Array Value) (v : Value), zs[k]? = some v → (part e zs k).run P w = .ok v w := fun zs v hz => by
              simp [part, isAgg, underlying, hu, hz]
            rw [hp xs _ hx0]
            simp only [Result.andThen_ok]
            rw [hp ys _ hy0]
            simp only [Result.andThen_ok, run_equalIn_int w d e ka k0 a b hu]
            rw [hc] at ih'
            cases hab : (a == b)
            · simp
            · simp [ih']
          · cases hr
        · cases hr
      · cases hr
theorem eqS_run {P : Program} {op : BinOp} {ty : TypeId} {x y : Value} {v : Bool} (hs : eqS P op ty x y = some v) (xo yo : Operand) (w : World) :
    (do eqGuard op ty xo yo x y; binOp op ty x y : Sem Value).run P w = .ok (.bool v) w := by
  unfold eqS at hs
  split at hs
  · rename_i len elem xs ys hu
    split at hs
    · rename_i k0 ie hue hi
      split at hs
      · rename_i hc
        simp only [Bool.and_eq_true, Bool.not_eq_true'] at hc
        obtain ⟨⟨hs1, hs2⟩, hg⟩ := hc
        have hs1 := Nat.eq_of_beq_eq_true hs1
        have hs2 := Nat.eq_of_beq_eq_true hs2
        have key : ∀ b, eqL xs.toList ys.toList = some b → (Op.equalIn 10000 ty (.agg xs) (.agg ys)).run P w = .ok b w := fun b hb => by
          rw [show (10000 : Nat) = 9998 + 1 + 1 from rfl, run_equalIn_array w (9998 + 1) xs ys hu hi]
          have := eqItems_run hue hi hs1 9998 xs ys w xs.toList ys.toList 0 b (by simp) (by simp) hb
          rw [List.range_eq_range', ← hs2]
          simpa using this
        split at hs
        · rename_i b hb
          cases hs
          rw [Sem.run_bind, run_eqGuard_agg w .eql ty xo yo xs ys hg]
          simp only [Result.andThen_ok]
          rw [run_eql_struct, key _ hb]
          rfl
        · rename_i b hb
          cases hs
          rw [Sem.run_bind, run_eqGuard_agg w .neq ty xo yo xs ys hg]
          simp only [Result.andThen_ok]
          rw [run_neq_struct, key _ hb]
          rfl
        · cases hs
      · cases hs
    · cases hs
  · rename_i fs xs ys hu
    split at hs
    · rename_i hg
      have hg : P.eqGuardType P.depth ty = false := by simpa using hg
      split at hs
      · rename_i b hb
        cases hs
        rw [Sem.run_bind, run_eqGuard_agg w .eql ty xo yo xs ys hg]
        simp only [Result.andThen_ok]
        rw [run_eql_struct, show (10000 : Nat) = 5 + 9995 from rfl, eqV_run w 9995 5 ty _ _ _ hb]
        rfl
      · rename_i b hb
        cases hs
        rw [Sem.run_bind, run_eqGuard_agg w .neq ty xo yo xs ys hg]
        simp only [Result.andThen_ok]
        rw [run_neq_struct, show (10000 : Nat) = 5 + 9995 from rfl, eqV_run w 9995 5 ty _ _ _ hb]
        rfl
      · cases hs
    · cases hs
  · cases hs
/-! ### a struct built of parts that may hold addresses -/
theorem fold_map (f : Value → Value) (off : Nat) : ∀ (l : List (Value × Nat)) (cells : Array Value), (l.map fun p => (f p.1, p.2)).foldl (fun cs (p : Value × Nat) => cs.setIfInBounds (off + p.2) p.1) (cells.map f) = (l.foldl (fun cs (p : Value × Nat) => cs.setIfInBounds (off + p.2) p.1) cells).map f
  | [], _ => rfl
  | p :: l, cells => by
    simp only [List.map_cons, List.foldl_cons]
    rw [← fold_map f off l (cells.setIfInBounds (off + p.2) p.1), Array.map_setIfInBounds]
theorem fold_all (Q : Value → Prop) (off : Nat) : ∀ (l : List (Value × Nat)) (cells : Array Value), (∀ p ∈ l, Q p.1) → (∀ c ∈ cells, Q c) → ∀ c ∈ l.foldl (fun cs (p : Value × Nat) => cs.setIfInBounds (off + p.2) p.1) cells, Q c
  | [], _, _, h2 => h2
  | p :: l, cells, h1, h2 => by
    simp only [List.foldl_cons]
    refine fold_all Q off l _ (fun q hq => h1 q (List.mem_cons_of_mem _ hq)) fun c hc => ?_
    rcases Array.mem_or_eq_of_mem_setIfInBounds hc with h | h
    · exact h2 c h
    · rw [h]; exact h1 p List.mem_cons_self
theorem fill_cons (place : Nat → Option (Nat × Nat)) (cells : Array Value) (i : Nat) (v : Value) (rest : List (Nat × Value)) : Instr.fill place cells ((i, v) :: rest) =
    match place i with
    | none => none
    | some (off, size) => if (v.cells.size ≠ size || off + v.cells.size > cells.size) = true then none else Instr.fill place (v.cells.zipIdx.toList.foldl (fun cs (p : Value × Nat) => cs.setIfInBounds (off + p.2) p.1) cells) rest := by
  rw [Instr.fill]
  cases place i with
  | none => rfl
  | some q =>
    obtain ⟨off, size⟩ := q
    simp only [Array.foldl_toList]
theorem fill_map {f g : Value → Value} {place : Nat → Option (Nat × Nat)} : ∀ (ps : List (Nat × Value)) (cells r : Array Value), (∀ p ∈ ps, (g p.2).cells = p.2.cells.map f) → Instr.fill place cells ps = some r → Instr.fill place (cells.map f) (ps.map fun p => (p.1, g p.2)) = some (r.map f)
  | [], cells, r, _, h => by
    simp only [Instr.fill] at h
    cases h
    rfl
  | (i, v) :: rest, cells, r, hg, h => by
    rw [fill_cons] at h
    rw [List.map_cons, fill_cons]
    cases hp : place i with
    | none => rw [hp] at h; cases h
    | some q =>
      obtain ⟨off, size⟩ := q
      rw [hp] at h
      have hv := hg (i, v) List.mem_cons_self
      simp only at hv h ⊢
      rw [hv, Array.size_map, Array.size_map]
      split at h
      · cases h
      · rename_i hc
        rw [if_neg hc]
        have e : (v.cells.map f).zipIdx.toList = v.cells.zipIdx.toList.map fun p => (f p.1, p.2) := by
          simp [List.zipIdx_map, Prod.map]
        rw [e, fold_map]
        exact fill_map rest _ r (fun p hp => hg p (List.mem_cons_of_mem _ hp)) h
theorem fill_all {Q : Value → Prop} {place : Nat → Option (Nat × Nat)} : ∀ (ps : List (Nat × Value)) (cells r : Array Value), (∀ p ∈ ps, ∀ c ∈ p.2.cells, Q c) → (∀ c ∈ cells, Q c) → Instr.fill place cells ps = some r → ∀ c ∈ r, Q c
  | [], cells, r, _, hc, h => by
    simp only [Instr.fill] at h
    cases h
    exact hc
  | (i, v) :: rest, cells, r, hg, hc, h => by
    rw [fill_cons] at h
    cases hp : place i with
    | none => rw [hp] at h; cases h
    | some q =>
      obtain ⟨off, size⟩ := q
      rw [hp] at h
      simp only at h
      split at h
      · cases h
      · refine fill_all rest _ r (fun p hp => hg p (List.mem_cons_of_mem _ hp)) (fold_all Q off _ _ (fun p hp => ?_) hc) h
        have hm : p.1 ∈ v.cells := by
          have h1 := List.mem_map_of_mem (f := Prod.fst) hp
          simp at h1
          exact h1
        exact hg (i, v) List.mem_cons_self p.1 hm
/-- the cells of a struct built of such parts -/
def buildL (P : Program) (ty : TypeId) (parts : List (Nat × Value)) : Option (Array Value) :=
  match P.info? ty with
  | some it =>
    match it.zero with
    | some z => if (z.cells.toList.all (lt1 0)) = true then P.built ty parts else none
    | none => none
  | none => none
theorem buildL_run {P : Program} {m : Mp} {n : Nat} {ty : TypeId} {ps : List (Nat × Value)} {cs : Array Value} (hs : buildL P ty ps = some cs) (hT : ∀ p ∈ ps, noT p.2 = true) (hl : ∀ p ∈ ps, lt n p.2 = true) :
    P.built ty (ps.map fun p => (p.1, mv m p.2)) = some (cs.map (mv1 m)) ∧ ∀ c ∈ cs, lt1 n c = true := by
  unfold buildL at hs
  split at hs
  · rename_i it hit
    split at hs
    · rename_i z hz
      split at hs
      · rename_i hzl
        have hzl := List.all_eq_true.1 hzl
        have ez : z.cells.map (mv1 m) = z.cells := by
          have : z.cells.map (mv1 m) = z.cells.map id := Array.map_congr_left fun x hx => mv1_still (hzl x (by simpa using hx))
          rw [this, Array.map_id]
        have hc : ∀ p ∈ ps, (mv m p.2).cells = p.2.cells.map (mv1 m) := fun p hp => by
          rw [cells_mv (hT p hp)]
          generalize p.2 = v
          cases v <;> first | exact (map_toL (mv1 m) _).symm | (simp [cellsL, Value.cells]; done)
        have hq : ∀ p ∈ ps, ∀ c ∈ p.2.cells, lt1 n c = true := fun p hp c hcc => by
          refine lt_cells (hT p hp) (hl p hp) c ?_
          revert hcc
          cases p.2 <;> simp [cellsL, Value.cells]
        have hz0 : ∀ c ∈ z.cells, lt1 n c = true := fun c hcc => lt1_mono (Nat.zero_le _) (hzl c (by simpa using hcc))
        unfold Program.built at hs ⊢
        rw [hit] at hs ⊢
        cases hu : P.underlying ty with
        | none => rw [hu] at hs; cases hs
        | some d =>
          rw [hu] at hs
          cases d <;> (first | (cases hs; done) | skip)
          case array k e =>
            simp only [hz] at hs ⊢
            cases hie : P.info? e with
            | none => rw [hie] at hs; cases hs
            | some ie =>
              rw [hie] at hs
              simp only at hs ⊢
              have h1 := fill_map (g := mv m) ps z.cells cs hc hs
              rw [ez] at h1
              exact ⟨h1, fill_all ps z.cells cs hq hz0 hs⟩
          case struct fs =>
            simp only [hz] at hs ⊢
            cases hpl : fs.toList.mapM (fun f => (P.info? f.type).map fun i => (f.offset, i.size)) with
            | none => rw [hpl] at hs; cases hs
            | some places =>
              rw [hpl] at hs
              simp only at hs ⊢
              have h1 := fill_map (g := mv m) ps z.cells cs hc hs
              rw [ez] at h1
              exact ⟨h1, fill_all ps z.cells cs hq hz0 hs⟩
      · cases hs
    · cases hs
  · cases hs
abbrev PureR := Option (Value × List Dec × Log)
/-- An operation that looks at no memory. -/
def pureOp (T : Tab) (t : List Value) (s : List Dec) (o : Oper) : PureR :=
  match o.op with
  | .move x => if okX x = true then some (ev t x, s, []) else none
  | .assign x => if okX x = true then some (ev t x, s, []) else none
  | .pick c x y =>
    if (okX c && okX x && okX y) = true then
      match ev t c with
      | .bool b => some ((match (pickB b s).1 with | true => ev t x | false => ev t y), (pickB b s).2.1, (pickB b s).2.2)
      | _ => none
    else none
  | .indexAddr ty x i =>
    if (okX x && okX i) = true then
      match s with
      | .inr (.inr (.inr (.inr (.inl _)))) :: s' =>
        match indexY T.P ty (ev t x) (ev t i) with
        | some r => some (r.1, s', r.2)
        | none => none
      | _ =>
        match indexS T.P ty (ev t x) (ev t i) with
        | some v => some (v, s, [])
        | none => none
    else none
  | .nilCheck x =>
    if okX x = true then
      match ev t x with
      | .pointer (some a) => some (.pointer (some a), s, [])
      | _ => genS T.P t s o
    else none
  | .fieldAddr ty x k =>
    if okX x = true then
      match fieldS T.P ty (ev t x) k with
      | some v => some (v, s, [])
      | none => none
    else none
  | .slice ty x lo hi mx =>
    if (okX x && stillO lo t && stillO hi t && stillO mx t) = true then
      match txtL T.P ty (ev t x) (lo.map (ev t)) (hi.map (ev t)) (mx.map (ev t)) s with
      | some r => some r
      | none =>
      match ev t x with
      | .string _ => genS T.P t s o
      | _ =>
        match sliceS T.P ty (ev t x) (lo.map (ev t)) (hi.map (ev t)) (mx.map (ev t)) with
        | some v => some (v, s, [])
        | none => none
    else none
  | .build ty parts =>
    if (parts.toList.all fun p => okX p.2 && lt 0 (ev t p.2)) = true then
      match runP T.P (Instr.build ty (parts.toList.map fun p => (p.1, ev t p.2)).toArray) with
      | some v => if lt 0 v = true then some (v, s, []) else none
      | none => none
    else if (parts.toList.all fun p => okX p.2 && noT (ev t p.2)) = true then
      match buildL T.P ty (parts.toList.map fun p => (p.1, ev t p.2)) with
      | some cs => some (.agg cs, s, [])
      | none => none
    else none
  | .call c =>
    match lenS T.P t c with
    | some v => some (v, s, [])
    | none =>
      match c.callee with
      | .builtin _ => genS T.P t s o
      | _ => none
  | .select _ _ => none
  | .extract x i =>
    if okX x = true then
      match ev t x with
      | .tuple vs =>
        match vs.toList[i]? with
        | some v => if noT v = true then some (v, s, []) else none
        | none => none
      | _ => none
    else none
  | .index bty x y =>
    match T.sym with
    | true =>
      match (if (okX x && okX y) = true then strS T.P bty (ev t x) (ev t y) else none) with
      | some r => some (r.1, s, r.2)
      | none => genS T.P t s o
    | false => genS T.P t s o
  | .binOp op bty x y _ =>
    match T.sym with
    | true =>
      match (if (okX x && okX y) = true then nilS T.P op bty (ev t x) (ev t y) else none) with
      | some b => some (.bool b, s, [])
      | none =>
      match (if (okX x && okX y) = true then txtB op (ev t x) (ev t y) s else none) with
      | some r => some r
      | none =>
      match (if (okX x && okX y) = true then hintS op (ev t x) (ev t y) s else none) with
      | some r => some r
      | none =>
      match (if (okX x && okX y) = true then shiftS op (ev t x) (ev t y) else none) with
      | some r => some (r.1, s, r.2)
      | none =>
        match (if (okX x && okX y && lt 0 (ev t x) && lt 0 (ev t y)) = true then eqS T.P op bty (ev t x) (ev t y) else none) with
        | some b => some (.bool (pickE b s).1, (pickE b s).2.1, (pickE b s).2.2)
        | none => genS T.P t s o
    | false => genS T.P t s o
  | _ => genS T.P t s o
/-- a package's table, known as a block of the world's own number: its cells -/
def tabB (g : Nat) : Option (List Value × TypeId) → Option (List Value)
  | some x => if (ab x.2 && !(spK x.2) && Nat.beq (nbA x.2) g && Nat.beq (lnA x.2) x.1.length && Nat.blt 0 x.1.length && x.1.all (lt1 0)) = true then some x.1 else none
  | none => none
/-- a table is loaded whole, by its own name -/
def tabG (P : Program) (ty : TypeId) (x : Operand) (h : Hp) : Option Value :=
  match x with
  | .global g =>
    match (match tabB g (h.blk? 0) with | some l => some l | none => tabB g (h.blk? 1)) with
    | some l =>
      match loadS P ty ⟨0, 0, none⟩ ⟨1, [(l, dead)]⟩ with
      | some v => if lt 0 v = true then some v else none
      | none => none
    | none => none
  | _ => none
theorem tabB_is {g : Nat} {o : Option (List Value × TypeId)} {l : List Value} (h : tabB g o = some l) : ∃ x, o = some x ∧ x.1 = l ∧ ab x.2 = true ∧ spK x.2 = false ∧ nbA x.2 = g ∧ lnA x.2 = x.1.length ∧ 0 < x.1.length ∧ ∀ v ∈ x.1, lt1 0 v = true := by
  unfold tabB at h
  split at h
  · rename_i x
    split at h
    · rename_i hc
      simp only [Bool.and_eq_true, Bool.not_eq_true'] at hc
      obtain ⟨⟨⟨⟨⟨h1, h2⟩, h3⟩, h4⟩, h5⟩, h6⟩ := hc
      exact ⟨x, rfl, Option.some.inj h, h1, h2, Nat.eq_of_beq_eq_true h3, Nat.eq_of_beq_eq_true h4, blt_iff.1 h5, List.all_eq_true.1 h6⟩
    · cases h
  · cases h
theorem tabG_run {m : Mp} {B : Nat} {h : Hp} {w : World} {P : Program} {ty : TypeId} {x : Operand} {v : Value} (E : Emb m B h w) (hl : tabG P ty x h = some v) (a : Act) :
    (Instr.loadAt ty (a.eval x)).run P w = .ok (mv m v) w ∧ lt h.n v = true := by
  unfold tabG at hl
  split at hl
  · rename_i g
    split at hl
    · rename_i l hb
      obtain ⟨b, y, hy, rfl, h1, h2, h3, h4, h5, h6⟩ : ∃ b y, h.blk? b = some y ∧ y.1 = l ∧ ab y.2 = true ∧ spK y.2 = false ∧ nbA y.2 = g ∧ lnA y.2 = y.1.length ∧ 0 < y.1.length ∧ ∀ v ∈ y.1, lt1 0 v = true := by
        split at hb
        · rename_i l' h0
          obtain rfl := Option.some.inj hb
          exact ⟨0, tabB_is h0⟩
        · exact ⟨1, tabB_is hb⟩
      split at hl
      · rename_i u hu
        split at hl
        · rename_i hv
          cases hl
          obtain ⟨_, r, t', z, q1, q2⟩ := (E.abs b y hy h1).1 h2
          have hm : ∀ m' : Mp, y.1.map (mv1 m') = y.1 := fun m' => (List.map_congr_left fun u hu => mv1_still (h6 u hu)).trans (List.map_id' _)
          rw [hm m] at q1 q2
          have hr0 : r = [] := List.length_eq_zero_iff.1 (by omega)
          subst hr0
          rw [h3] at q1
          have hro : ro dead = true := by unfold ro; exact Nat.ble_eq_true_of_le (Nat.le_refl _)
          have := (loadS_at (m := fun _ => (g, y.1.length)) (h := ⟨1, [(y.1, dead)]⟩) (w := w) (P := P) (a := ⟨0, 0, none⟩) (fun x hx _ => by
            obtain rfl := Option.some.inj ((show (⟨1, [(y.1, dead)]⟩ : Hp).blk? 0 = some (y.1, dead) from rfl).symm.trans hx)
            exact ⟨[], (t', z), by simp, by rw [hm]; exact q1, fun hf => by rw [hro] at hf; cases hf⟩) (fun x hx v hv => by
            obtain rfl := Option.some.inj ((show (⟨1, [(y.1, dead)]⟩ : Hp).blk? 0 = some (y.1, dead) from rfl).symm.trans hx)
            exact lt1_mono (Nat.zero_le _) (h6 v hv)) hu).1
          rw [mv_still hv] at this ⊢
          exact ⟨by simpa [Act.eval, mvA_none] using this, lt_mono (Nat.zero_le _) hv⟩
        · cases hl
      · cases hl
    · cases hl
  · cases hl
def stepOp (T : Tab) (t : List Value) (h : Hp) (s : List Dec) (o : Oper) : StepR :=
  match o.op with
  | .box e x => if (okX x && noT (ev t x) && !(ro e)) = true then some (.pointer (some ⟨h.n, 0, none⟩), h.push (cellsL (ev t x)) e, s, []) else none
  | .alloc e =>
    match T.P.info? e with
    | some i =>
      match i.zero with
      | some z => if (lt 0 z && noT z && !(ro e)) = true then some (.pointer (some ⟨h.n, 0, none⟩), h.push (cellsL z) e, s, []) else none
      | none => none
    | none => none
  | .load ty x =>
    if okX x = true then
      match ev t x with
      | .pointer (some a) =>
        match s with
        | .inr (.inr (.inr (.inr (.inr v)))) :: s' =>
          match loadY T.P ty a h v with
          | some lg => some (v, h, s', lg)
          | none => none
        | _ =>
          match loadS T.P ty a h with
          | some v => some (v, h, s, [])
          | none => none
      | _ => none
    else
      match tabG T.P ty x h with
      | some v => some (v, h, s, [])
      | none => none
  | .store ty x y =>
    if (okX x && okX y) = true then
      match ev t x with
      | .pointer (some a) =>
        match s with
        | .inr (.inr (.inr (.inr (.inl _)))) :: s' =>
          match storeY T.P ty a (ev t y) h with
          | some r => some (undef, r.1, s', r.2)
          | none => none
        | _ =>
          match storeS T.P ty a (ev t y) h with
          | some h' => some (undef, h', s, [])
          | none => none
      | _ => none
    else none
  | _ =>
    match memR T.P t h s o with
    | some r => some r
    | none =>
      match pureOp T t s o with
      | some r => some (r.1, h, r.2.1, r.2.2)
      | none => none
/-- in every world the same value, the world as it was -/
def Gives (P : Program) (m : Mp) (n : Nat) (a : Act) (o : Oper) (v : Value) : Prop :=
  (∀ w, (execOp a.eval o).run P w = .ok (.value (mv m v)) w) ∧ lt n v = true
theorem genS_ok {P : Program} {m : Mp} {n : Nat} {t : List Value} {s s' : List Dec} {lg : Log} {a : Act} {o : Oper} {v : Value}
    (ha : a.tmps = (t.map (mv m)).toArray) (hns : ∀ cs b, o.op ≠ .select cs b) (hs : genS P t s o = some (v, s', lg)) : Gives P m n a o v := by
  unfold genS at hs
  split at hs
  · rename_i hall
    simp only [List.all_eq_true, Bool.and_eq_true] at hall
    have hc : execOp a.eval o = execOp (ev t) o := execOp_congr o hns fun x hx => by
      have := hall x (by simpa using hx)
      rw [eval_mv ha this.1, mv_still this.2]
    split at hs
    · rename_i u hu
      split at hs
      · rename_i hl
        cases hs
        exact ⟨fun w => by rw [hc, runP_run hu w, mv_still hl], lt_mono (Nat.zero_le _) hl⟩
      · cases hs
    · cases hs
  · cases hs
theorem newVar_run (P : Program) (w : World) (e : TypeId) (v : Value) : (Instr.box e v).run P w = .ok (.pointer (some ⟨w.heap.size, 0, none⟩)) (w.alloc (.cells v.cells e (0, 0))) := by
  rfl
theorem push_does {P : Program} {m : Mp} {B : Nat} {h : Hp} {w : World} {a : Act} {o : Oper} {e : TypeId} {z : Value} (E : Emb m B h w) (he : ro e = false) (hT : noT z = true) (hz : lt h.n z = true)
    (hr : (execOp a.eval o).run P w = .ok (.value (.pointer (some ⟨w.heap.size, 0, none⟩))) (w.alloc (.cells (mv m z).cells e (0, 0)))) :
    Does P m B h w a o (.pointer (some ⟨h.n, 0, none⟩)) (h.push (cellsL z) e) := by
  rw [cells_mv hT] at hr
  have E' := E.push (cellsL z) [] e he (lt_cells hT hz) (k := (cellsL z).length) (by simp)
  rw [List.append_nil] at E'
  refine ⟨upd m h.n (w.heap.size, (cellsL z).length), _, _, hr, .inl ?_, ⟨upd_agree _ _ _, E', (Below.refl _ _).alloc E.base _, Nat.le_succ _, ?_⟩⟩
  · simp [mv, mv2, mv1, mvA, upd]
  · simp [lt, lt2, lt1, Hp.push]
set_option maxHeartbeats 1000000 in
theorem pureOp_ok {T : Tab} {m : Mp} {n : Nat} {t : List Value} {s s' : List Dec} {lg : Log} {a : Act} {o : Oper} {v : Value}
    (ha : a.tmps = (t.map (mv m)).toArray) (ht : ∀ v ∈ t, lt n v = true) (hs : pureOp T t s o = some (v, s', lg)) (hlg : okLog lg) : Gives T.P m n a o v := by
  unfold pureOp at hs
  split at hs
  · -- move
    rename_i x ho
    split at hs
    · rename_i hx
      cases hs
      exact ⟨fun w => (by simp [execOp, ho, eval_mv ha hx]), ev_lt ht hx⟩
    · cases hs
  · rename_i x ho
    split at hs
    · rename_i hx
      cases hs
      exact ⟨fun w => (by simp [execOp, ho, eval_mv ha hx]), ev_lt ht hx⟩
    · cases hs
  · -- pick
    rename_i c x y ho
    split at hs
    · rename_i hx
      simp only [Bool.and_eq_true] at hx
      obtain ⟨⟨hc, hx⟩, hy⟩ := hx
      split at hs
      · rename_i b hb
        cases hs
        have e := pickB_ok hlg
        rw [e]
        refine ⟨fun w => ?_, ?_⟩
        · cases b <;> simp [execOp, ho, eval_mv ha hx, eval_mv ha hy, eval_mv ha hc, hb, mv, mv2, mv1, asBool]
        · cases b
          · exact ev_lt ht hy
          · exact ev_lt ht hx
      · cases hs
    · cases hs
  · -- indexAddr
    rename_i ty x i ho
    split at hs
    · rename_i hx
      simp only [Bool.and_eq_true] at hx
      split at hs
      · split at hs
        · rename_i u hu
          cases hs
          exact ⟨fun w => by simp [execOp, ho, eval_mv ha hx.1, eval_mv ha hx.2, (indexY_run (v := u.1) (lg := u.2) (m := m) (ev_lt ht hx.1) hu hlg w).1], (indexY_run (v := u.1) (lg := u.2) (m := m) (ev_lt ht hx.1) hu hlg default).2⟩
        · cases hs
      · split at hs
        · rename_i u hu
          cases hs
          exact ⟨fun w => by simp [execOp, ho, eval_mv ha hx.1, eval_mv ha hx.2, (indexS_run (m := m) (ev_lt ht hx.1) hu w).1], (indexS_run (m := m) (ev_lt ht hx.1) hu default).2⟩
        · cases hs
    · cases hs
  · -- nilCheck
    rename_i x ho
    split at hs
    · rename_i hx
      split at hs
      · rename_i ad had
        cases hs
        have hl := ev_lt ht hx
        rw [had] at hl
        refine ⟨fun w => ?_, hl⟩
        have e : a.eval x = .pointer (some (mvA m ad)) := by rw [eval_mv ha hx, had]; rfl
        simp only [execOp, ho, e]
        rfl
      · exact genS_ok ha (by simp [ho]) hs
    · cases hs
  · -- fieldAddr
    rename_i ty x k ho
    split at hs
    · rename_i hx
      split at hs
      · rename_i u hu
        cases hs
        exact ⟨fun w => by simp [execOp, ho, eval_mv ha hx, (fieldS_run (m := m) (ev_lt ht hx) hu w).1], (fieldS_run (m := m) (ev_lt ht hx) hu default).2⟩
      · cases hs
    · cases hs
  · -- slice
    rename_i ty x lo hi mx ho
    split at hs
    · rename_i hx
      simp only [Bool.and_eq_true] at hx
      obtain ⟨⟨⟨hx, hlo⟩, hhi⟩, hmx⟩ := hx
      split at hs
      · rename_i r hr
        cases hs
        have h0 := txtL_run hr hlg m n
        refine ⟨fun w => ?_, h0.2⟩
        have h1 := h0.1 w
        simp only [execOp, ho, eval_mv ha hx, stillO_map ha hlo, stillO_map ha hhi, stillO_map ha hmx, Sem.run_bind, h1, Result.andThen_ok, Sem.run_pure]
      split at hs
      · exact genS_ok ha (by simp [ho]) hs
      split at hs
      · rename_i u hu
        cases hs
        refine ⟨fun w => ?_, (sliceS_run (m := m) (ev_lt ht hx) hu default).2⟩
        have h1 := (sliceS_run (m := m) (ev_lt ht hx) hu w).1
        simp only [execOp, ho, eval_mv ha hx, stillO_map ha hlo, stillO_map ha hhi, stillO_map ha hmx, Sem.run_bind, h1, Result.andThen_ok, Sem.run_pure]
      · cases hs
    · cases hs
  · -- build
    rename_i ty parts ho
    split at hs
    · rename_i hall
      simp only [List.all_eq_true, Bool.and_eq_true] at hall
      split at hs
      · rename_i u hu
        split at hs
        · rename_i hl
          cases hs
          have e : (parts.map fun p => (p.1, a.eval p.2)) = (parts.toList.map fun p => (p.1, ev t p.2)).toArray := by
            have : (parts.map fun p => (p.1, a.eval p.2)) = (parts.map fun p => (p.1, ev t p.2)) := Array.map_congr_left fun p hp => by
              have := hall p (by simpa using hp)
              rw [eval_mv ha this.1, mv_still this.2]
            rw [this]
            cases parts; simp
          refine ⟨fun w => ?_, lt_mono (Nat.zero_le _) hl⟩
          simp only [execOp, ho, Sem.run_bind, Sem.run_pure]
          have hr := runP_run hu w
          rw [← e] at hr
          rw [mv_still hl]
          simp only [hr, Result.andThen_ok]
        · cases hs
      · cases hs
    · split at hs
      · rename_i hall
        simp only [List.all_eq_true, Bool.and_eq_true] at hall
        split at hs
        · rename_i cs hcs
          cases hs
          obtain ⟨b1, b2⟩ := buildL_run (m := m) (n := n) hcs (fun p hp => by
            obtain ⟨q, hq, rfl⟩ := List.mem_map.1 hp
            exact (hall q hq).2) (fun p hp => by
            obtain ⟨q, hq, rfl⟩ := List.mem_map.1 hp
            exact ev_lt ht (hall q hq).1)
          have e : (parts.map fun p => (p.1, a.eval p.2)) = ((parts.toList.map fun p => (p.1, ev t p.2)).map fun p => (p.1, mv m p.2)).toArray := by
            have : (parts.map fun p => (p.1, a.eval p.2)) = (parts.map fun p => (p.1, mv m (ev t p.2))) := Array.map_congr_left fun p hp => by
              rw [eval_mv ha (hall p (by simpa using hp)).1]
            rw [this]
            cases parts; simp
          refine ⟨fun w => ?_, ?_⟩
          · simp only [execOp, ho, Sem.run_bind, Sem.run_pure]
            have hr := run_build w ty (parts.map fun p => (p.1, a.eval p.2)) (cs.map (mv1 m)) (by rw [e]; exact b1)
            have em : mv m (.agg cs) = .agg (cs.map (mv1 m)) := rfl
            rw [em]
            simp only [hr, Result.andThen_ok]
          · show (cs.toList.all (lt1 n)) = true
            exact List.all_eq_true.2 fun c hc => b2 c (by simpa using hc)
        · cases hs
      · cases hs
  · -- call: len
    rename_i c ho
    split at hs
    · rename_i u hu
      cases hs
      unfold lenS at hu
      split at hu
      · rename_i x ty hcal hargs htys
        split at hu
        · rename_i hx
          split at hu
          · rename_i el ad n cp hun hev
            cases hu
            obtain ⟨callee, args, tys⟩ := c
            obtain ⟨args⟩ := args
            obtain ⟨tys⟩ := tys
            simp only at hcal hargs htys
            subst hcal hargs htys
            refine ⟨fun w => ?_, by simp [goInt, lt, lt2, lt1]⟩
            have e : ∃ ad' c', a.eval x = .slice ad' n c' := by
              rw [eval_mv ha hx, hev]
              cases ad <;> exact ⟨_, _, rfl⟩
            obtain ⟨ad', c', e⟩ := e
            simp [execOp, ho, resolve, invoke, builtin, Builtin.len_, underlying, hun, e, goInt, mv, mv2, mv1]
          · cases hu
        · cases hu
      · cases hu
    · split at hs
      · exact genS_ok ha (by simp [ho]) hs
      · cases hs
  · cases hs
  · -- extract
    rename_i x i ho
    split at hs
    · rename_i hx
      split at hs
      · rename_i vs hvs
        split at hs
        · rename_i u hu
          split at hs
          · rename_i hT
            cases hs
            have e : a.eval x = .tuple (vs.map (mv2 m)) := by rw [eval_mv ha hx, hvs]; rfl
            have hl := ev_lt ht hx
            rw [hvs] at hl
            simp only [lt, List.all_eq_true] at hl
            have hl' := hl v (List.mem_of_getElem? hu)
            have e2 : mv m v = mv2 m v := by cases v <;> first | rfl | simp [noT] at hT
            have e3 : lt n v = lt2 n v := by cases v <;> first | rfl | simp [noT] at hT
            refine ⟨fun w => ?_, by rw [e3]; exact hl'⟩
            have hg : (vs.map (mv2 m))[i]? = some (mv2 m v) := by
              rw [Array.getElem?_map, ← Array.getElem?_toList, hu]
              rfl
            simp [execOp, ho, e, Instr.extract, hg, e2]
          · cases hs
        · cases hs
      · cases hs
    · cases hs
  · -- index
    rename_i ty x y ho
    split at hs
    · split at hs
      · rename_i r hr
        cases hs
        split at hr
        · rename_i hx
          simp only [Bool.and_eq_true] at hx
          unfold strS at hr
          split at hr
          · rename_i bs k i hu e1 e2
            cases hr
            have hb := hlg _ (List.mem_singleton.2 rfl)
            simp only [decide_eq_true_eq] at hb
            refine ⟨fun w => ?_, by simp [lt, lt2, lt1]⟩
            have hg : bs[i.toNat]? = some (bs.data.toList.getD i.toNat 0) := by
              have h1 : i.toNat < bs.size := by have := hb.2; rw [Array.length_toList] at this; exact this
              rw [getElem?_pos bs i.toNat h1]
              congr 1
              rw [List.getD, List.getElem?_eq_getElem hb.2]
              rfl
            simp [execOp, ho, eval_mv ha hx.1, eval_mv ha hx.2, e1, e2, mv, mv2, mv1, Instr.index, asIntOf, underlying, hu, hb.1, hg]
          · cases hr
        · cases hr
      · exact genS_ok ha (by simp [ho]) hs
    · exact genS_ok ha (by simp [ho]) hs
  · -- binOp
    rename_i op ty x y ty' ho
    split at hs
    · split at hs
      · rename_i b hr
        cases hs
        split at hr
        · rename_i hx
          simp only [Bool.and_eq_true] at hx
          refine ⟨fun w => ?_, by simp [lt, lt2, lt1]⟩
          have h1 := nilS_run hr x y m w
          unfold execOp
          rw [ho]
          simp only [eval_mv ha hx.1, eval_mv ha hx.2]
          rw [Sem.run_bind, h1]
          rfl
        · cases hr
      rename_i hno
      clear hno
      split at hs
      · rename_i r hr
        cases hs
        split at hr
        · rename_i hx
          simp only [Bool.and_eq_true] at hx
          have h0 := txtB_run (P := T.P) hr hlg ty x y m n
          refine ⟨fun w => ?_, h0.2⟩
          have h1 := h0.1 w
          unfold execOp
          rw [ho]
          simp only [eval_mv ha hx.1, eval_mv ha hx.2]
          rw [Sem.run_bind, h1]
          rfl
        · cases hr
      split at hs
      · rename_i r hr
        cases hs
        split at hr
        · rename_i hx
          simp only [Bool.and_eq_true] at hx
          unfold hintS at hr
          split at hr
          · rename_i q s0
            split at hr
            · rename_i k n k' b e1 e2
              split at hr
              · rename_i hk
                subst hk
                cases hr
                have h1 := hlg _ (List.mem_cons_self)
                have h2 := hlg _ (List.mem_cons_of_mem _ (List.mem_singleton.2 rfl))
                simp only [decide_eq_false_iff_not, decide_eq_true_eq] at h1 h2
                refine ⟨fun w => ?_, by simp [lt, lt2, lt1]⟩
                simp [execOp, ho, eval_mv ha hx.1, eval_mv ha hx.2, e1, e2, mv, mv2, mv1, eqGuard, binOp, Op.intDiv, h1, h2]
              · cases hr
            · cases hr
          · rename_i d s0
            split at hr
            · rename_i k n k' b e1 e2
              split at hr
              · rename_i hk
                subst hk
                split at hr <;> cases hr
                · have h1 := hlg _ (List.mem_singleton.2 rfl)
                  simp only [decide_eq_false_iff_not] at h1
                  refine ⟨fun w => ?_, by simp [lt, lt2, lt1]⟩
                  simp [execOp, ho, eval_mv ha hx.1, eval_mv ha hx.2, e1, e2, mv, mv2, mv1, eqGuard, binOp, Op.intDiv, h1]
                all_goals
                  have h1 := hlg _ (List.mem_singleton.2 rfl)
                  simp only at h1
                  refine ⟨fun w => ?_, by simp [lt, lt2, lt1]⟩
                  rw [← h1]
                  simp [execOp, ho, eval_mv ha hx.1, eval_mv ha hx.2, e1, e2, mv, mv2, mv1, eqGuard, binOp, Op.intCmp]
              · cases hr
            · cases hr
          · cases hr
        · cases hr
      split at hs
      · rename_i r hr
        cases hs
        split at hr
        · rename_i hx
          simp only [Bool.and_eq_true] at hx
          unfold shiftS at hr
          split at hr
          · rename_i k n k' b e1 e2 _ _
            cases hr
            have hb : ¬ b < 0 := by have := hlg _ (List.mem_singleton.2 rfl); simpa using this
            refine ⟨fun w => ?_, by simp [lt, lt2, lt1]⟩
            simp [execOp, ho, eval_mv ha hx.1, eval_mv ha hx.2, e1, e2, mv, mv2, mv1, eqGuard, binOp, Op.shift, hb]
          · rename_i k n k' b e1 e2 _ _
            cases hr
            have hb : ¬ b < 0 := by have := hlg _ (List.mem_singleton.2 rfl); simpa using this
            refine ⟨fun w => ?_, by simp [lt, lt2, lt1]⟩
            simp [execOp, ho, eval_mv ha hx.1, eval_mv ha hx.2, e1, e2, mv, mv2, mv1, eqGuard, binOp, Op.shift, hb]
          · cases hr
        · cases hr
      · split at hs
        · rename_i r hr
          cases hs
          split at hr
          · rename_i hx
            simp only [Bool.and_eq_true] at hx
            obtain ⟨⟨⟨hx1, hx2⟩, hx3⟩, hx4⟩ := hx
            have e := pickE_ok hlg
            rw [e]
            refine ⟨fun w => ?_, by simp [lt, lt2, lt1]⟩
            have h1 := eqS_run hr x y w
            unfold execOp
            rw [ho]
            simp only [eval_mv ha hx1, eval_mv ha hx2, mv_still hx3, mv_still hx4]
            rw [Sem.run_bind, h1]
            rfl
          · cases hr
        · exact genS_ok ha (by simp [ho]) hs
    · exact genS_ok ha (by simp [ho]) hs
  · rename_i hns _
    exact genS_ok ha (by intro cs b hh; simp_all) hs
theorem stepOp_ok {T : Tab} {m : Mp} {B : Nat} {t : List Value} {h h' : Hp} {s s' : List Dec} {lg : Log} {w : World} {a : Act} {o : Oper} {v : Value}
    (ha : a.tmps = (t.map (mv m)).toArray) (E : Emb m B h w) (ht : ∀ v ∈ t, lt h.n v = true) (hs : stepOp T t h s o = some (v, h', s', lg)) (hlg : okLog lg) : Does T.P m B h w a o v h' := by
  unfold stepOp at hs
  split at hs
  · -- box
    rename_i e x ho
    split at hs
    · rename_i hx
      simp only [Bool.and_eq_true, Bool.not_eq_true'] at hx
      cases hs
      exact push_does E hx.2 hx.1.2 (ev_lt ht hx.1.1) (by simp [execOp, ho, eval_mv ha hx.1.1, newVar_run])
    · cases hs
  · -- alloc
    rename_i e ho
    split at hs
    · rename_i i hi
      split at hs
      · rename_i z hz
        split at hs
        · rename_i hc
          simp only [Bool.and_eq_true, Bool.not_eq_true'] at hc
          cases hs
          refine push_does E hc.2 hc.1.2 (lt_mono (Nat.zero_le _) hc.1.1) ?_
          rw [mv_still hc.1.1]
          simp [execOp, ho, Instr.alloc, zeroValue, typeInfo, hi, hz, newVar, newRow]
        · cases hs
      · cases hs
    · cases hs
  · -- load
    rename_i ty x ho
    split at hs
    · rename_i hx
      split at hs
      · rename_i ad had
        have e : a.eval x = .pointer (some (mvA m ad)) := by rw [eval_mv ha hx, had]; rfl
        split at hs
        · split at hs
          · rename_i lg' hu
            cases hs
            obtain ⟨h1, h2⟩ := loadY_at (P := T.P) (fun y hy => E.lies _ y hy) (fun y hy => E.wf _ y hy) hu hlg
            refine Does.still E ?_ h2
            simp only [execOp, ho, e, Sem.run_bind, h1, Result.andThen_ok, Sem.run_pure]
          · cases hs
        · split at hs
          · rename_i u hu
            cases hs
            obtain ⟨h1, h2⟩ := loadS_run (P := T.P) E hu
            refine Does.still E ?_ h2
            simp only [execOp, ho, e, Sem.run_bind, h1, Result.andThen_ok, Sem.run_pure]
          · cases hs
      · cases hs
    · split at hs
      · rename_i u hu
        cases hs
        obtain ⟨h1, h2⟩ := tabG_run (P := T.P) E hu a
        refine Does.still E ?_ h2
        simp only [execOp, ho, Sem.run_bind, h1, Result.andThen_ok, Sem.run_pure]
      · cases hs
  · -- store
    rename_i ty x y ho
    split at hs
    · rename_i hx
      simp only [Bool.and_eq_true] at hx
      split at hs
      · rename_i ad had
        have e : a.eval x = .pointer (some (mvA m ad)) := by rw [eval_mv ha hx.1, had]; rfl
        split at hs
        · split at hs
          · rename_i r hu
            cases hs
            obtain ⟨w', h2, h3, h4, h5⟩ := storeY_run (P := T.P) (h' := r.1) (lg := r.2) E (ev_lt ht hx.2) hu hlg
            refine ⟨m, w', .skip, ?_, .inr ⟨rfl, rfl⟩, ⟨Agree.refl _ _, h3, h4, by omega, by simp [undef, lt]⟩⟩
            simp [execOp, ho, e, eval_mv ha hx.2, h2]
          · cases hs
        · split at hs
          · rename_i h1 hu
            cases hs
            obtain ⟨w', h2, h3, h4, h5⟩ := storeS_run (P := T.P) E (ev_lt ht hx.2) hu
            refine ⟨m, w', .skip, ?_, .inr ⟨rfl, rfl⟩, ⟨Agree.refl _ _, h3, h4, by omega, by simp [undef, lt]⟩⟩
            simp [execOp, ho, e, eval_mv ha hx.2, h2]
          · cases hs
      · cases hs
    · cases hs
  · split at hs
    · rename_i r hr
      cases hs
      exact memR_ok ha E ht hr hlg
    · split at hs
      · rename_i r hr
        cases hs
        have := pureOp_ok (n := h.n) ha ht hr hlg
        exact Does.still E (this.1 w) this.2
      · cases hs
def blockOf : Value → Option Nat
  | .pointer (some a) => some a.block
  | .slice (some a) _ _ => some a.block
  | _ => none
def defOf (ops : List Oper) (d : Tmp) : Option Op :=
  match ops with
  | [] => none
  | o :: l => if (match o.dst with | some e => Nat.beq e d | none => false) = true then some o.op else defOf l d
/-- the block that an address comes from, as far as it is known when the region begins -/
def rootOf (ops : List Oper) (t : List Value) : Nat → Operand → Option Nat
  | 0, _ => none
  | n + 1, .tmp d =>
    match defOf ops d with
    | some (.indexAddr _ x _) => rootOf ops t n x
    | some (.fieldAddr _ x _) => rootOf ops t n x
    | some (.move x) => rootOf ops t n x
    | some (.slice _ x _ _ _) => rootOf ops t n x
    | some (.nilCheck x) => rootOf ops t n x
    | some _ => none
    | none => blockOf (t.getD d undef)
  | _, _ => none
def spoilt (ops : List Oper) (t : List Value) (o : Oper) : List Nat :=
  match o.op with
  | .store _ x _ => (rootOf ops t 6 x).toList
  | .call ⟨.value _, args, _⟩ => args.toList.flatMap fun x => (rootOf ops t 6 x).toList
  | _ => []
def seen (ops : List Oper) (t : List Value) (bad : List Nat) (n : Nat) : List Oper → List Nat → List Nat
  | [], acc => acc
  | o :: l, acc =>
    match o.op with
    | .load _ x =>
      match rootOf ops t 6 x with
      | some b => if (Nat.blt b n && !(bad.contains b) && !(acc.contains b)) = true then seen ops t bad n l (b :: acc) else seen ops t bad n l acc
      | none => seen ops t bad n l acc
    | _ => seen ops t bad n l acc
/-- blocks that are only read stay so, whatever is called with them -/
def roB (h : Hp) (b : Nat) : Bool :=
  match h.blk? b with
  | some x => ro x.2
  | none => false
def watch (ops : List Oper) (t : List Value) (h : Hp) : List Nat := seen ops t ((ops.flatMap (spoilt ops t)).filter fun b => !(roB h b)) h.n ops []
end Go.KRun
