/-
  A RUN THAT THE KERNEL RECKONS: loops over a string. The iterator lies in the world below the base, outside the small memory; what it stands at is told beside the state.
-/
import Derived.Test.YtbjgkhbhabdjgaaDoorG07
import Derived.Laws.RangeString
import Derived.Laws.RangeAny
namespace Go.KRun
open Go.RowKit

/-- all that lies below B stays, but for one block -/
structure BelowI (B r : Nat) (w w' : World) : Prop where
  os : w'.os = w.os
  tape : w'.tape = w.tape
  output : w'.output = w.output
  size : w.heap.size ≤ w'.heap.size
  block : ∀ k, k < B → k ≠ r → w'.heap[k]? = w.heap[k]?
theorem BelowI.of {B r : Nat} {w w' : World} (h : Below B w w') : BelowI B r w w' := ⟨h.os, h.tape, h.output, h.size, fun k hk _ => h.block k hk⟩
theorem BelowI.trans {B r : Nat} {w w' w'' : World} (h : BelowI B r w w') (g : BelowI B r w' w'') : BelowI B r w w'' :=
  ⟨g.os.trans h.os, g.tape.trans h.tape, g.output.trans h.output, Nat.le_trans h.size g.size, fun k hk hr => (g.block k hk hr).trans (h.block k hk hr)⟩
/-- what a piece of code does while an iterator over s stands at p in block r -/
def RunsI (T : Tab) (c : Code) (r : Nat) (s : ByteArray) (p : Nat) (x : Lf) (Post : Ex → Lf → Nat → Prop) : Prop :=
  ∀ m B a w, Rel m B x a w → r < B → w.heap[r]? = some (.stringIter s p) → ∀ Q : Exit → Act → World → Prop,
    (∀ e y p', Post e y p' → ∀ m' a' w', Rel m' B y a' w' → BelowI B r w w' → w'.heap[r]? = some (.stringIter s p') → Q (out e) a' w') → c.wp T.P Q a w
section
variable {T : Tab} {r : Nat} {s : ByteArray}
/-- a piece that does not know of the iterator -/
theorem RunsW.i {c : Code} {p : Nat} {x : Lf} {P : Ex → Lf → Prop} (h : RunsW T c x P) : RunsI T c r s p x fun e y p' => p' = p ∧ P e y := by
  intro m B a w R hr hi Q hQ
  refine h m B a w R Q fun e y he m' a' w' R' hb => hQ e y p ⟨rfl, he⟩ m' a' w' R' (BelowI.of hb) ?_
  rw [hb.block r hr]
  exact hi
theorem RunsI.mono {c : Code} {p : Nat} {x : Lf} {P P' : Ex → Lf → Nat → Prop} (h : RunsI T c r s p x P) (hp : ∀ e y q, P e y q → P' e y q) : RunsI T c r s p x P' :=
  fun m B a w R hr hi Q hQ => h m B a w R hr hi Q fun e y p' he => hQ e y p' (hp e y p' he)
theorem RunsI.seq {c1 c2 : Code} {p : Nat} {x : Lf} {P1 P : Ex → Lf → Nat → Prop} (h1 : RunsI T c1 r s p x P1) (h2 : ∀ y q, P1 none y q → RunsI T c2 r s q y P) (h3 : ∀ e y q, P1 (some e) y q → P (some e) y q) : RunsI T (.seq c1 c2) r s p x P := by
  intro m B a w R hr hi Q hQ
  refine wp_seq (h1 m B a w R hr hi _ fun e y q he m' a' w' R' hb hi' => ?_)
  match e, he with
  | none, he => exact h2 y q he m' B a' w' R' hr hi' Q fun e' y' q' he' m'' a'' w'' R'' hb' hi'' => hQ e' y' q' he' m'' a'' w'' R'' (hb.trans hb') hi''
  | some none, he => exact hQ _ _ q (h3 none y q he) m' a' w' R' hb hi'
  | some (some id), he => exact hQ _ _ q (h3 (some id) y q he) m' a' w' R' hb hi'
theorem RunsI.block {c : Code} {id p : Nat} {x : Lf} {P1 P : Ex → Lf → Nat → Prop} (h1 : RunsI T c r s p x P1) (h2 : ∀ y q, P1 none y q → P none y q) (h3 : ∀ y q, P1 (some none) y q → P (some none) y q)
    (h4 : ∀ y q, P1 (some (some id)) y q → P none y q) (h5 : ∀ id' y q, id' ≠ id → P1 (some (some id')) y q → P (some (some id')) y q) : RunsI T (.block id c) r s p x P := by
  intro m B a w R hr hi Q hQ
  refine wp_block (h1 m B a w R hr hi _ fun e y q he m' a' w' R' hb hi' => ?_)
  match e, he with
  | none, he => exact hQ _ _ q (h2 y q he) m' a' w' R' hb hi'
  | some none, he => exact hQ _ _ q (h3 y q he) m' a' w' R' hb hi'
  | some (some id'), he =>
    simp only [out, Exit.inBlock]
    by_cases hid : id' = id
    · subst hid
      rw [if_pos rfl]
      exact hQ _ _ q (h4 y q he) m' a' w' R' hb hi'
    · rw [if_neg hid]
      exact hQ _ _ q (h5 id' y q hid he) m' a' w' R' hb hi'
theorem RunsI.loop {c : Code} {p : Nat} {x : Lf} {P : Ex → Lf → Nat → Prop} (Inv : Nat → Lf → Nat → Prop) (round : ∀ n x q, Inv n x q → RunsI T c r s q x fun e y q' => match e with | none => ∃ n', n' < n ∧ Inv n' y q' | some e => P (some e) y q') {n : Nat} (h0 : Inv n x p) :
    RunsI T (.loop c) r s p x P := by
  have key : ∀ N n x p, n < N → Inv n x p → ∀ m B a w, Rel m B x a w → r < B → w.heap[r]? = some (.stringIter s p) → ∀ Q : Exit → Act → World → Prop, (∀ e y p', P e y p' → ∀ m' a' w', Rel m' B y a' w' → BelowI B r w w' → w'.heap[r]? = some (.stringIter s p') → Q (out e) a' w') → Code.rounds T.P c Q N a w := by
    intro N
    induction N with
    | zero => intro n x p hn; omega
    | succ N ih =>
      intro n x p hn hI m B a w R hr hi Q hQ
      rw [rounds_succ]
      refine round n x p hI m B a w R hr hi _ fun e y q he m' a' w' R' hb hi' => ?_
      match e, he with
      | none, he =>
        obtain ⟨n', hn', hI'⟩ := he
        exact ih n' y q (by omega) hI' m' B a' w' R' hr hi' Q fun e' y' q' he' m'' a'' w'' R'' hb' hi'' => hQ e' y' q' he' m'' a'' w'' R'' (hb.trans hb') hi''
      | some none, he => exact hQ _ _ q he m' a' w' R' hb hi'
      | some (some id), he => exact hQ _ _ q he m' a' w' R' hb hi'
  intro m B a w R hr hi Q hQ
  exact wp_loop_rounds (n + 1) (key (n + 1) n x p (by omega) h0 m B a w R hr hi Q hQ)
theorem RunsI.forLoop {c : Code} {id p : Nat} {x : Lf} {P : Lf → Nat → Prop} {R : Lf → Nat → Prop} (Inv : Nat → Lf → Nat → Prop)
    (round : ∀ n x q, Inv n x q → RunsI T c r s q x fun e y q' => match e with | none => ∃ n', n' < n ∧ Inv n' y q' | some none => R y q' | some (some id') => id' = id ∧ P y q') {n : Nat} (h0 : Inv n x p) :
    RunsI T (.block id (.loop c)) r s p x fun e y q => match e with | none => P y q | some none => R y q | some (some _) => False := by
  refine RunsI.block (P1 := fun e y q => match e with | none => False | some none => R y q | some (some id') => id' = id ∧ P y q) ?_ (fun y q he => he.elim) (fun y q he => he) (fun y q he => he.2) (fun id' y q hid he => absurd he.1 hid)
  refine RunsI.loop Inv (fun n x q hI => (round n x q hI).mono fun e y q' he => ?_) h0
  match e, he with
  | none, he => exact he
  | some none, he => exact he
  | some (some id'), he => exact he
end
/-- a memory of which nothing is known: there the temporaries may hold values of the world's own -/
def hT1 : Hp := ⟨1, [([], 2 * dead)]⟩
theorem hT1_blk {b : Nat} {x : List Value × TypeId} (h : hT1.blk? b = some x) : x = ([], 2 * dead) := by
  have hb : b < 1 := Hp.blk_lt h
  have h0 : b = 0 := by omega
  subst h0
  exact (Option.some.inj h).symm
theorem emb_T1 (m : Mp) {B : Nat} {w : World} (hB : B ≤ w.heap.size) (hi : ∀ k, B ≤ k → k < w.heap.size → iced w.heap[k]?) : Emb m B hT1 w := by
  have t1 : tomb (2 * dead) = true := by kernel_rfl
  have r1 : ro (2 * dead) = true := by kernel_rfl
  have a1 : ab (2 * dead) = false := by kernel_rfl
  refine ⟨rfl, fun b x hb ht => ?_, fun b x hb hr => ?_, fun b x hb ht => ?_, fun b b' x x' hb _ hr => ?_, fun b x hb v hv => ?_, hB, hi, fun b x hb ha => ?_⟩ <;> rw [hT1_blk hb] at *
  · rw [t1] at ht; cases ht
  · rw [r1] at hr; cases hr
  · rw [t1] at ht; cases ht
  · rw [r1] at hr; cases hr
  · cases hv
  · rw [a1] at ha; cases ha
theorem op_value {P : Program} {ops : Array Oper} {Q : Exit → Act → World → Prop} {i : Nat} {K : Act → World → Prop} {a : Act} {w w' : World} {o : Oper} {v : Value} (hi : ops[i]? = some o) (hg : o.guard = none) (hr : (execOp a.eval o).run P w = .ok (.value v) w') (hK : K (a.put o.dst v) w') : wpOp P ops Q i K a w := by
  unfold wpOp
  have hw : Region.wanted o (yielded ops a.tmps) = true := by unfold Region.wanted; rw [hg]
  simp only [hi, hw, if_true]
  left
  unfold Oper.wp
  rw [hr, Oper.upon_value]
  exact hK
theorem exec_move {P : Program} {a : Act} {o : Oper} {x : Operand} (ho : o.op = .move x) (w : World) : (execOp a.eval o).run P w = .ok (.value (a.eval x)) w := by
  unfold execOp
  rw [ho]
  simp
theorem exec_range {P : Program} {a : Act} {o : Oper} {x : Operand} {ty : TypeId} (ho : o.op = .range ty x) {s : ByteArray} (hx : a.eval x = .string s) (hty : P.underlying ty = some .string) (w : World) :
    (execOp a.eval o).run P w = .ok (.value (.pointer (some ⟨w.heap.size, 0, none⟩))) (w.iter s 0) := by
  unfold execOp
  rw [ho]
  simp [hx, run_range_string w ty s hty]
/-- a loop over a string: the iterator is made -/
theorem RunsW.overString {T : Tab} {c : Code} {id : Nat} {o1 o2 : Oper} (g1 : o1.guard = none) (g2 : o2.guard = none) {j d1 d2 : Nat} {ty : TypeId} (e1 : o1.op = .move (.tmp j)) (e2 : o2.op = .range ty (.tmp d1)) (k1 : o1.dst = some d1) (k2 : o2.dst = some d2)
    (hty : T.P.underlying ty = some .string) {t : List Value} {s : ByteArray} (hj : t[j]? = some (.string s)) (hd : d1 < t.length) {sc : List Dec} {P : Ex → Lf → Prop}
    (hI : ∀ r, RunsI T c r s 0 ((t.set d1 (.string s)).set d2 (.iface dead (.pointer (some ⟨r, 0, none⟩))), hT1, []) fun e y _ => y.2.1 = hT1 ∧ P e y) :
    RunsW T (.seq (.region id #[o1, o2] false) c) (t, ⟨0, []⟩, sc) P := by
  intro m B a w R Q hQ
  refine wp_seq (wp_region ?_)
  show wpOps T.P #[o1, o2] _ [0, 1] a w
  rw [wpOps_cons]
  have ev1 : a.eval (.tmp j) = .string s := by
    rw [eval_mv R.tmps (x := .tmp j) rfl]
    simp [ev, List.getD, hj, mv, mv2, mv1]
  refine op_value (o := o1) (by rfl) g1 (exec_move e1 w) ?_
  rw [ev1, k1, wpOps_cons]
  have R1 : Rel m B (t.set d1 (.string s), ⟨0, []⟩, []) (a.put (some d1) (.string s)) w := R.put (v := .string s) (Agree.refl _ _) R.emb (Nat.le_refl _) (by simp [lt, lt2, lt1]) (some d1) []
  have ev2 : (a.put (some d1) (.string s)).eval (.tmp d1) = .string s := by
    rw [eval_mv R1.tmps (x := .tmp d1) rfl]
    simp [ev, List.getD, hd, mv, mv2, mv1]
  refine op_value (o := o2) (by rfl) g2 (exec_range e2 ev2 hty w) ?_
  rw [k2]
  show wpOps T.P #[o1, o2] _ [] _ _
  have hsz : (w.iter s 0).heap.size = w.heap.size + 1 := size_alloc' w _
  have hold : ∀ k, k < w.heap.size → (w.iter s 0).heap[k]? = w.heap[k]? := fun k hk => heap_alloc_ne w _ k (by omega)
  have R2 : Rel m (w.heap.size + 1) ((t.set d1 (.string s)).set d2 (.iface dead (.pointer (some ⟨w.heap.size, 0, none⟩))), hT1, []) ((a.put (some d1) (.string s)).put (some d2) (.pointer (some ⟨w.heap.size, 0, none⟩))) (w.iter s 0) := by
    have E : Emb m (w.heap.size + 1) hT1 (w.iter s 0) := emb_T1 m (by omega) (fun k h1 h2 => by omega)
    have R1' : Rel m (w.heap.size + 1) (t.set d1 (.string s), hT1, []) (a.put (some d1) (.string s)) (w.iter s 0) := ⟨R1.tmps, R1.dfr, E, fun v hv => lt_mono (Nat.zero_le _) (R1.wf v hv)⟩
    have := R1'.put (v := .iface dead (.pointer (some ⟨w.heap.size, 0, none⟩))) (Agree.refl _ _) E (Nat.le_refl _) (by simp [lt, lt2, lt1, hT1]) (some d2) []
    have em : mv m (.iface dead (.pointer (some ⟨w.heap.size, 0, none⟩))) = .pointer (some ⟨w.heap.size, 0, none⟩) := by simp [mv, mv2, mv1]
    rw [em] at this
    exact this
  refine hI w.heap.size m (w.heap.size + 1) _ _ R2 (Nat.lt_succ_self _) (World.iter_heap w s 0) Q fun e y p' hp m' a' w' R' hb hi => ?_
  obtain ⟨hy, hP⟩ := hp
  have hB := R.emb.base
  have Eb : ∀ k, k < w.heap.size → w'.heap[k]? = w.heap[k]? := fun k hk => by rw [hb.block k (by omega) (by omega), hold k hk]
  have E' : Emb m' B hT1 w' := by
    refine emb_T1 m' ?_ fun k h1 h2 => ?_
    · have := hb.size; omega
    · rcases Nat.lt_trichotomy k w.heap.size with h | h | h
      · rw [Eb k h]; exact R.emb.ice k h1 h
      · subst h
        rw [hi]
        intro c e z hz
        cases hz
      · have := R'.emb.ice k (by omega) h2
        exact this
  obtain ⟨ty', hy', sy⟩ := y
  simp only at hy
  subst hy
  exact hQ e _ hP m' a' w' ⟨R'.tmps, R'.dfr, E', R'.wf⟩ ⟨hb.os, hb.tape, hb.output, by have := hb.size; omega, fun k hk => Eb k (by omega)⟩
/-! ### one step of the iterator -/
def World.setIt (w : World) (r : Nat) (s : ByteArray) (p : Nat) : World := { w with heap := w.heap.setIfInBounds r (.stringIter s p) }
theorem setIt_size (w : World) (r : Nat) (s : ByteArray) (p : Nat) : (World.setIt w r s p).heap.size = w.heap.size := by simp [World.setIt]
theorem setIt_at {w : World} {r : Nat} (s : ByteArray) (p : Nat) (h : r < w.heap.size) : (World.setIt w r s p).heap[r]? = some (.stringIter s p) := by simp [World.setIt, h]
theorem setIt_ne (w : World) {r k : Nat} (s : ByteArray) (p : Nat) (h : k ≠ r) : (World.setIt w r s p).heap[k]? = w.heap[k]? := by
  simp only [World.setIt]
  rw [Array.getElem?_setIfInBounds]
  simp [Ne.symm h]
theorem emb_setIt {m : Mp} {B : Nat} {h : Hp} {w : World} (E : Emb m B h w) {r q : Nat} {s u : ByteArray} (hr : r < B) (hi : w.heap[r]? = some (.stringIter s q)) (p : Nat) : Emb m B h (World.setIt w r u p) := by
  have ne : ∀ {k : Nat} {c : Array Value} {t : TypeId} {z : Nat × Nat}, w.heap[k]? = some (.cells c t z) → k ≠ r := fun {k c t z} hk he => by
    subst he
    rw [hi] at hk
    cases hk
  refine ⟨E.len, fun b x hb ht => ?_, E.low, E.ros, E.inj, E.wf, by rw [setIt_size]; exact E.base, fun k h1 h2 => ?_, fun b x hb ha => ?_⟩
  · have hl := E.lies b x hb ht
    refine hl.congr (setIt_ne w u p ?_)
    obtain ⟨r', z, _, l1, _⟩ := hl
    exact ne l1
  · rw [setIt_size] at h2
    rw [setIt_ne w u p (by omega)]
    exact E.ice k h1 h2
  · obtain ⟨k1, r', t, z, k2⟩ := E.abs b x hb ha
    exact ⟨k1, r', t, z, by rw [setIt_ne w u p (ne k2)]; exact k2⟩
theorem exec_next {P : Program} {a : Act} {o : Oper} {x : Operand} (ho : o.op = .next x true) {r p : Nat} {s : ByteArray} (hx : a.eval x = .pointer (some ⟨r, 0, none⟩)) {w : World} (hi : w.heap[r]? = some (.stringIter s p)) (hp : p < s.size) :
    (execOp a.eval o).run P w = .ok (.value (.tuple #[.bool true, .int .i64 p, .int .i32 (Utf8.decode s p).1])) (World.setIt w r s (p + (Utf8.decode s p).2)) := by
  unfold execOp
  rw [ho]
  simp [hx, Instr.next, getObj, setObj, Sem.run, hi, hp, goInt, World.setIt]
theorem exec_over {P : Program} {a : Act} {o : Oper} {x : Operand} (ho : o.op = .next x true) {r p : Nat} {s : ByteArray} (hx : a.eval x = .pointer (some ⟨r, 0, none⟩)) {w : World} (hi : w.heap[r]? = some (.stringIter s p)) (hp : ¬ p < s.size) :
    (execOp a.eval o).run P w = .ok (.value (.tuple #[.bool false])) w := by
  unfold execOp
  rw [ho]
  simp [hx, Instr.next, getObj, Sem.run, hi, hp]
theorem exec_extract {P : Program} {a : Act} {o : Oper} {x : Operand} {k : Nat} (ho : o.op = .extract x k) {vs : Array Value} {v : Value} (hx : a.eval x = .tuple vs) (hv : vs[k]? = some v) (w : World) : (execOp a.eval o).run P w = .ok (.value v) w := by
  unfold execOp
  rw [ho]
  simp [hx, Instr.extract, hv]
/-- what the iterator gives at p -/
def itV (s : ByteArray) (p : Nat) : Value := .tuple #[.bool true, .int .i64 p, .int .i32 (Utf8.decode s p).1]
theorem RunsI.step {T : Tab} {r : Nat} {s : ByteArray} {id : Nat} {o1 o2 : Oper} (g1 : o1.guard = none) (g2 : o2.guard = none) {j d1 d2 : Nat} (e1 : o1.op = .next (.tmp j) true) (e2 : o2.op = .extract (.tmp d1) 0) (k1 : o1.dst = some d1) (k2 : o2.dst = some d2)
    {t : List Value} {h : Hp} {sc : List Dec} {p : Nat} (hj : t[j]? = some (.iface dead (.pointer (some ⟨r, 0, none⟩)))) (hd : d1 < t.length) :
    RunsI T (.region id #[o1, o2] false) r s p (t, h, sc) fun e y q => e = none ∧ y.2.1 = h ∧ ((p < s.size ∧ q = p + (Utf8.decode s p).2 ∧ y.1 = (t.set d1 (itV s p)).set d2 (.bool true)) ∨ (¬ p < s.size ∧ q = p ∧ y.1 = (t.set d1 (.tuple #[.bool false])).set d2 (.bool false))) := by
  intro m B a w R hr hi Q hQ
  refine wp_region ?_
  show wpOps T.P #[o1, o2] _ [0, 1] a w
  rw [wpOps_cons]
  have ev1 : a.eval (.tmp j) = .pointer (some ⟨r, 0, none⟩) := by
    rw [eval_mv R.tmps (x := .tmp j) rfl]
    simp [ev, List.getD, hj, mv, mv2, mv1]
  have hB := R.emb.base
  by_cases hp : p < s.size
  · refine op_value (o := o1) (by rfl) g1 (exec_next e1 ev1 hi hp) ?_
    rw [k1, wpOps_cons]
    have E1 := emb_setIt (u := s) R.emb hr hi (p + (Utf8.decode s p).2)
    have R0 : Rel m B (t, h, sc) a (World.setIt w r s (p + (Utf8.decode s p).2)) := ⟨R.tmps, R.dfr, E1, R.wf⟩
    have m1 : mv m (itV s p) = itV s p := by simp [itV, mv, mv2, mv1]
    have R1 := R0.put (v := itV s p) (Agree.refl _ _) E1 (Nat.le_refl _) (by simp [itV, lt, lt2, lt1]) (some d1) []
    rw [m1] at R1
    have ev2 : (a.put (some d1) (itV s p)).eval (.tmp d1) = itV s p := by
      rw [eval_mv R1.tmps (x := .tmp d1) rfl]
      simp [ev, putL, List.getD, hd, m1]
    refine op_value (o := o2) (v := .bool true) (by rfl) g2 (exec_extract e2 ev2 (by rfl) _) ?_
    rw [k2]
    show Q .normal _ _
    have R2 := R1.put (v := .bool true) (Agree.refl _ _) E1 (Nat.le_refl _) (by simp [lt, lt2, lt1]) (some d2) []
    have m2 : mv m (.bool true) = .bool true := by simp [mv, mv2, mv1]
    rw [m2] at R2
    exact hQ none _ _ ⟨rfl, rfl, .inl ⟨hp, rfl, rfl⟩⟩ m _ _ R2 ⟨rfl, rfl, rfl, by rw [setIt_size]; exact Nat.le_refl _, fun k _ hk => setIt_ne w s _ hk⟩ (setIt_at s _ (by omega))
  · refine op_value (o := o1) (by rfl) g1 (exec_over e1 ev1 hi hp) ?_
    rw [k1, wpOps_cons]
    have m1 : mv m (.tuple #[.bool false]) = .tuple #[.bool false] := by simp [mv, mv2, mv1]
    have R1 := R.put (v := .tuple #[.bool false]) (Agree.refl _ _) R.emb (Nat.le_refl _) (by simp [lt, lt2, lt1]) (some d1) []
    rw [m1] at R1
    have ev2 : (a.put (some d1) (.tuple #[.bool false])).eval (.tmp d1) = .tuple #[.bool false] := by
      rw [eval_mv R1.tmps (x := .tmp d1) rfl]
      simp [ev, putL, List.getD, hd, m1]
    refine op_value (o := o2) (v := .bool false) (by rfl) g2 (exec_extract e2 ev2 (by rfl) _) ?_
    rw [k2]
    show Q .normal _ _
    have R2 := R1.put (v := .bool false) (Agree.refl _ _) R.emb (Nat.le_refl _) (by simp [lt, lt2, lt1]) (some d2) []
    have m2 : mv m (.bool false) = .bool false := by simp [mv, mv2, mv1]
    rw [m2] at R2
    exact hQ none _ _ ⟨rfl, rfl, .inr ⟨hp, rfl, rfl⟩⟩ m _ _ R2 (BelowI.of (Below.refl _ _)) hi
end Go.KRun

/-
  strings.ContainsFunc with nat.Parse's own function, as a call in every world.
-/
namespace Go.Proofs.YtbjgkhbhabdjgaaDoor
open Go.KRun
set_option maxRecDepth 100000
set_option linter.unusedVariables false

/-- whether a letter is no digit -/
def oddI (c : Int) : Bool := decide (c < 48) || decide (c > 57)
def fO : Value := .func (.func 57) #[] #[]
theorem od_t (c : Int) : Fits (reckon (tabOf Tryd.prog extY conN true) 100 57 [.int .i32 c] [cmp true]) (.bool true) [(decide (c < 48), true)] := ⟨by kernel_rfl, by kernel_rfl, by kernel_rfl, by kernel_rfl⟩
theorem od_f (c : Int) (d : Bool) : Fits (reckon (tabOf Tryd.prog extY conN true) 100 57 [.int .i32 c] [cmp false, cmp d]) (.bool d) [(decide (c > 57), d), (decide (c < 48), false)] := ⟨by kernel_rfl, by kernel_rfl, by kernel_rfl, by kernel_rfl⟩
def gOd : Ans := fun vals s =>
  match vals, s with
  | [.int .i32 c], .inr (.inr (.inr (.inl d))) :: s' => some (.bool d, s', [(oddI c, d)])
  | _, _ => none
theorem gOd_ok : AnsOk 57 gOd := by
  intro vals s v s' lg h hl w
  unfold gOd at h
  split at h
  · rename_i c d s2
    cases h
    have hd : oddI c = d := hl _ (List.mem_singleton.2 rfl)
    unfold oddI at hd
    by_cases h1 : c < 48
    · rw [decide_eq_true h1, Bool.true_or] at hd
      subst hd
      exact fits_calls (tabY_ok conN_ok) (od_t c) (okL1 (decide_eq_true h1)) (by rfl) (by rfl) w
    · rw [decide_eq_false h1, Bool.false_or] at hd
      exact fits_calls (tabY_ok conN_ok) (od_f c d) (okCons hd (okL1 (decide_eq_false h1))) (by rfl) (by rfl) w
  · cases h
def conOd : Con := alt 57 gOd conN
theorem conOd_ok : ConOk conOd := alt_ok Tryd.func57 rfl gOd_ok conN_ok
noncomputable def tabOd : Tab := tabOf Tryd.prog extY conOd true
theorem tabOd_ok : TabOk tabOd := tabY_ok conOd_ok
def iR0 (F : Func) : Code := cFst (cBody F)
def iR1 (F : Func) : Code := cFst (cFst (cSnd (cBody F)))
def iLp (F : Func) : Code := cSnd (cFst (cSnd (cBody F)))
def iFn (F : Func) : Code := cSnd (cSnd (cBody F))
def iR2 (F : Func) : Code := cFst (cIn (cIn (iLp F)))
def iBd (F : Func) : Code := cSnd (cIn (cIn (iLp F)))
def iF (s : ByteArray) (a : Nat → Value) : List Value := [.string s, fO, .bool true, a 3, a 4, a 5, .int .i64 0, a 7, a 8, a 9]
def itR9 (r : Nat) : Value := .iface dead (.pointer (some ⟨r, 0, none⟩))
def dgT9 (q c : Int) : Value := .tuple #[.bool true, .int .i64 q, .int .i32 c]
theorem ix_go (s : ByteArray) (q c : Int) (r : Nat) (a g : Nat → Value) : GoesT (evC tabOd 300 false (iBd Tryd.f81) (iF s a ++ [itR9 r, dgT9 q c, .bool true] ++ tl 8 g, hT1, [cmp false]) ⟨[], [], []⟩) 11 10 none [.string s, fO, .bool true, a 3, a 4, a 5, .int .i64 0, .int .i64 q, .int .i32 c, a 9, itR9 r] hT1 [(oddI c, false)] := ⟨by kernel_rfl, by kernel_rfl, by kernel_rfl⟩
theorem ix_at (s : ByteArray) (q c : Int) (r : Nat) (a g : Nat → Value) : GoesT (evC tabOd 300 false (iBd Tryd.f81) (iF s a ++ [itR9 r, dgT9 q c, .bool true] ++ tl 8 g, hT1, [cmp true]) ⟨[], [], []⟩) 7 14 (some none) [.string s, fO, .bool true, a 3, a 4, a 5, .int .i64 q] hT1 [(oddI c, true)] := ⟨by kernel_rfl, by kernel_rfl, by kernel_rfl⟩
theorem ix_out (s : ByteArray) (r : Nat) (a g : Nat → Value) : GoesT (evC tabOd 300 false (iBd Tryd.f81) (iF s a ++ [itR9 r, .tuple #[.bool false], .bool false] ++ tl 8 g, hT1, []) ⟨[], [], []⟩) 10 11 (some (some 0)) (iF s a) hT1 [] := ⟨by kernel_rfl, by kernel_rfl, by kernel_rfl⟩
theorem ix_fin (s : ByteArray) (a g : Nat → Value) : GoesT (evC tabOd 300 false (iFn Tryd.f81) (iF s a ++ tl 11 g, hT1, []) ⟨[], [], []⟩) 7 14 (some none) [.string s, fO, .bool true, a 3, a 4, a 5, .int .i64 (-1)] hT1 [] := ⟨by kernel_rfl, by kernel_rfl, by kernel_rfl⟩
theorem ix_hd (s : ByteArray) : GoesT (evL tabOd 300 [iR0 Tryd.f81] ([.string s, fO, .bool true] ++ List.replicate 18 undef, ⟨0, []⟩, []) ⟨[], [], []⟩) 7 14 none [.string s, fO, .bool true, undef, undef, undef, .int .i64 0] ⟨0, []⟩ [] := ⟨by kernel_rfl, by kernel_rfl, by kernel_rfl⟩
/-- the letter at k, as a number -/
def byT (s : ByteArray) (k : Nat) : Int := ((s.data.toList.getD k 0).toNat : Nat)
/-- the first of the last n letters that is no digit -/
def ixR (s : ByteArray) : Nat → Int
  | 0 => -1
  | n + 1 => if oddI (byT s (s.size - (n + 1))) = true then ((s.size - (n + 1) : Nat) : Int) else ixR s n
def ixV (s : ByteArray) : Int := ixR s s.size
def rOpsT : Code → Array Oper
  | .region _ ops _ => ops
  | _ => #[]
def opAtT (c : Code) (k : Nat) : Oper := ((rOpsT c)[k]?).getD ⟨none, .move (.tmp 0), 0, "", #[], none⟩
theorem iLp_is : iLp Tryd.f81 = .block 0 (.loop (.seq (.region 2 #[opAtT (iR2 Tryd.f81) 0, opAtT (iR2 Tryd.f81) 1] false) (iBd Tryd.f81))) := by kernel_rfl
theorem iR1_is : iR1 Tryd.f81 = .region 1 #[opAtT (iR1 Tryd.f81) 0, opAtT (iR1 Tryd.f81) 1] false := by kernel_rfl
theorem iB_is : cBody Tryd.f81 = seqs [iR0 Tryd.f81] (.seq (.seq (iR1 Tryd.f81) (iLp Tryd.f81)) (iFn Tryd.f81)) := by kernel_rfl
theorem get_byT {s : ByteArray} {p : Nat} (h : p < s.size) : byT s p = ((s[p]'h).toNat : Nat) := by
  unfold byT
  have e : s.data.toList.getD p 0 = s[p]'h := by
    have h2 : p < s.data.toList.length := h
    simp only [List.getD, List.getElem?_eq_getElem h2, Option.getD_some]
    rfl
  rw [e]
theorem rune_odd {s : ByteArray} {p : Nat} (h : p < s.size) : oddI (((Utf8.decode s p).1 : Nat) : Int) = oddI (byT s p) ∧ (oddI (byT s p) = false → (Utf8.decode s p).2 = 1) := by
  by_cases ha : (s[p]'h).toNat < 128
  · rw [decode_ascii s p h ha, get_byT h]
    exact ⟨rfl, fun _ => rfl⟩
  · have hd := (decode_high s p h (by omega)).1
    have e1 : oddI (byT s p) = true := by
      rw [get_byT h]
      unfold oddI
      rw [decide_eq_true (show (((s[p]'h).toNat : Nat) : Int) > 57 by omega), Bool.or_true]
    refine ⟨?_, fun h' => by rw [e1] at h'; cases h'⟩
    rw [e1]
    unfold oddI
    rw [decide_eq_true (show (((Utf8.decode s p).1 : Nat) : Int) > 57 by omega), Bool.or_true]
theorem ixR_step {s : ByteArray} {q : Nat} (h : q < s.size) : ixR s (s.size - q) = if oddI (byT s q) = true then (q : Int) else ixR s (s.size - (q + 1)) := by
  obtain ⟨n, hn⟩ : ∃ n, s.size - q = n + 1 := ⟨s.size - q - 1, by omega⟩
  rw [hn, show s.size - (q + 1) = n by omega]
  simp only [ixR]
  rw [show s.size - (n + 1) = q by omega]
theorem ix_loop {s : ByteArray} (r : Nat) (a g : Nat → Value) (x y : Value) :
    RunsI tabOd (iLp Tryd.f81) r s 0 (iF s a ++ [itR9 r, x, y] ++ tl 8 g, hT1, []) fun e z _ => z.2.1 = hT1 ∧ match e with
      | none => ixV s = -1 ∧ ∃ a g, z.1 = iF s a ++ tl 11 g
      | some none => ∃ u v w g, z.1 = [.string s, fO, .bool true, u, v, w, .int .i64 (ixV s)] ++ tl 14 g
      | some (some _) => False := by
  rw [iLp_is]
  refine (RunsI.forLoop (P := fun z _ => z.2.1 = hT1 ∧ ixV s = -1 ∧ ∃ a g, z.1 = iF s a ++ tl 11 g)
    (R := fun z _ => z.2.1 = hT1 ∧ ∃ u v w g, z.1 = [.string s, fO, .bool true, u, v, w, .int .i64 (ixV s)] ++ tl 14 g)
    (fun n z q => n + q = s.size ∧ ixR s (s.size - q) = ixV s ∧ z.2.1 = hT1 ∧ ∃ a x y g, z.1 = iF s a ++ [itR9 r, x, y] ++ tl 8 g) ?_ (n := s.size) ⟨by omega, rfl, rfl, a, x, y, g, rfl⟩).mono fun e z q he => ?_
  · rintro n ⟨t, h', sc⟩ q ⟨hn, hA, hh, a, x, y, g, ht⟩
    simp only at hh ht
    subst hh ht
    refine RunsI.seq (RunsI.step (j := 10) (d1 := 11) (d2 := 12) (by kernel_rfl) (by kernel_rfl) (by kernel_rfl) (by kernel_rfl) (by kernel_rfl) (by kernel_rfl) (by rfl) (by simp [iF, tl])) ?_ (fun e y q he => by cases he.1)
    rintro ⟨t, h', sc'⟩ q' ⟨_, hh, hc⟩
    simp only at hh
    subst hh
    rcases hc with ⟨hq, hq', ht⟩ | ⟨hq, hq', ht⟩
    · simp only at ht
      have et : t = iF s a ++ [itR9 r, dgT9 (q : Nat) ((Utf8.decode s q).1 : Nat), .bool true] ++ tl 8 g := by rw [ht]; rfl
      subst et
      obtain ⟨r1, r2⟩ := rune_odd hq
      rw [ixR_step hq] at hA
      cases hk : oddI (byT s q) with
      | false =>
        rw [hk, if_neg (by decide)] at hA
        refine ((goesT_runsW tabOd_ok (ix_go s (q : Nat) ((Utf8.decode s q).1 : Nat) r a g) (okL1 (r1.trans hk))).i).mono fun e z q2 he => ?_
        obtain ⟨rfl, rfl, ⟨g1, e2⟩, e3⟩ := he
        rw [r2 hk] at hq'
        refine ⟨n - 1, by omega, by omega, by rw [hq']; exact hA, e3, ?_⟩
        refine ⟨fun k => z.1.getD k undef, g1 0, g1 1, fun k => g1 (k + 2), ?_⟩
        rw [e2]
        rfl
      | true =>
        rw [hk, if_pos rfl] at hA
        refine ((goesT_runsW tabOd_ok (ix_at s (q : Nat) ((Utf8.decode s q).1 : Nat) r a g) (okL1 (r1.trans hk))).i).mono fun e z q2 he => ?_
        obtain ⟨rfl, rfl, ⟨g1, e2⟩, e3⟩ := he
        rw [hA] at e2
        exact ⟨e3, _, _, _, g1, e2⟩
    · simp only at ht
      have et : t = iF s a ++ [itR9 r, .tuple #[.bool false], .bool false] ++ tl 8 g := by rw [ht]; rfl
      subst et
      have hqs : q = s.size := by omega
      refine ((goesT_runsW tabOd_ok (ix_out s r a g) (fun x hx => by cases hx)).i).mono fun e z q2 he => ?_
      obtain ⟨rfl, rfl, ⟨g1, e2⟩, e3⟩ := he
      rw [hqs, Nat.sub_self] at hA
      exact ⟨rfl, e3, hA.symm, a, g1, e2⟩
  · match e, he with
    | none, he => exact he
    | some none, he => exact he
theorem ix_mid (s : ByteArray) : RunsW tabOd (cBody Tryd.f81) ([.string s, fO, .bool true] ++ List.replicate 18 undef, ⟨0, []⟩, []) fun e y => (e = none ∨ e = some none) ∧ resS Tryd.prog Tryd.f81 y.1 y.2.1 = some (.int .i64 (ixV s)) := by
  rw [iB_is]
  refine goesT_listW tabOd_ok (ix_hd s) okN9 fun g => ?_
  refine RunsW.seq (P1 := fun e z => z.2.1 = hT1 ∧ match e with
      | none => ixV s = -1 ∧ ∃ a g, z.1 = iF s a ++ tl 11 g
      | some none => ∃ u v w g, z.1 = [.string s, fO, .bool true, u, v, w, .int .i64 (ixV s)] ++ tl 14 g
      | some (some _) => False) ?_ ?_ ?_
  · rw [iR1_is]
    refine RunsW.overString (j := 0) (d1 := 9) (d2 := 10) (ty := 9) (by kernel_rfl) (by kernel_rfl) (by kernel_rfl) (by kernel_rfl) (by kernel_rfl) (by kernel_rfl) (by kernel_rfl) (by rfl) (by simp [tl]) fun r => ?_
    have et : (([.string s, fO, .bool true, undef, undef, undef, .int .i64 0] ++ tl 14 g).set 9 (.string s)).set 10 (.iface dead (.pointer (some ⟨r, 0, none⟩))) =
        iF s (fun k => (([.string s, fO, .bool true, undef, undef, undef, .int .i64 0] ++ tl 14 g).set 9 (.string s)).getD k undef) ++ [itR9 r, g 4, g 5] ++ tl 8 (fun k => g (k + 6)) := by rfl
    rw [et]
    exact (ix_loop r _ _ _ _).mono fun e z q he => ⟨he.1, he⟩
  · rintro ⟨t, h', sc⟩ ⟨hh, hA, a, g1, ht⟩
    simp only at hh ht
    subst hh ht
    refine (goesT_runsW tabOd_ok (ix_fin s a g1) (fun x hx => by cases hx)).mono fun e z he => ?_
    obtain ⟨rfl, ⟨g2, e2⟩, e3⟩ := he
    refine ⟨.inr rfl, ?_⟩
    rw [e2, e3, hA]
    rfl
  · rintro e ⟨t, h', sc⟩ ⟨hh, hc⟩
    match e, hc with
    | none, hc =>
      obtain ⟨u, v, w, g1, ht⟩ := hc
      simp only at hh ht
      subst hh ht
      exact ⟨.inr rfl, rfl⟩
theorem ix_calls (s : ByteArray) (w : World) : Calls Tryd.prog 81 #[.string s, fO, .bool true] w fun e w' => e = .returned (.int .i64 (ixV s)) ∧ Tidy w w' :=
  calls_of_runsW (T := tabOd) (c := cBody Tryd.f81) (vals := [.string s, fO, .bool true]) Tryd.func81 (by kernel_rfl) (by rfl) (by rfl) (ix_mid s) w
/-- the function value is Parse's own: looked at by its number -/
def gIx : Ans := fun vals s =>
  match vals with
  | [.string b, .func (.func f) ⟨[]⟩ ⟨[]⟩, .bool true] => some (.int .i64 (ixV b), s, [(Nat.beq f 57, true)])
  | _ => none
theorem gIx_ok : AnsOk 81 gIx := by
  intro vals s v s' lg h hl w
  unfold gIx at h
  split at h
  · rename_i b f
    cases h
    have hf := Nat.eq_of_beq_eq_true (hl _ (List.mem_singleton.2 rfl))
    subst hf
    exact ix_calls b w
  · cases h
def conIx : Con := alt 81 gIx conN
theorem conIx_ok : ConOk conIx := alt_ok Tryd.func81 rfl gIx_ok conN_ok
theorem cf_fits (s : ByteArray) (d : Bool) : Fits (reckon (tabOf Tryd.prog extY conIx true) 100 58 [.string s, fO] [cmp d]) (.bool d) [(decide (ixV s ≥ 0), d), (true, true)] := ⟨by kernel_rfl, by kernel_rfl, by kernel_rfl, by kernel_rfl⟩
/-- whether a letter is no digit, told ahead -/
def gCf : Ans := fun vals s =>
  match vals, s with
  | [.string b, .func (.func f) ⟨[]⟩ ⟨[]⟩], .inr (.inr (.inr (.inl d))) :: s' => some (.bool d, s', [(decide (ixV b ≥ 0), d), (Nat.beq f 57, true)])
  | _, _ => none
theorem gCf_ok : AnsOk 58 gCf := by
  intro vals s v s' lg h hl w
  unfold gCf at h
  split at h
  · rename_i b f d s2
    cases h
    have h1 := hl _ List.mem_cons_self
    have hf := Nat.eq_of_beq_eq_true (hl _ (List.mem_cons_of_mem _ (List.mem_singleton.2 rfl)))
    subst hf
    exact fits_calls (tabY_ok conIx_ok) (cf_fits b d) (okCons h1 (okL1 rfl)) (by rfl) (by rfl) w
  · cases h
/-- all letters are digits -/
def allD (s : ByteArray) : Prop := ∀ j, j < s.size → oddI (byT s j) = false
theorem ixR_neg (s : ByteArray) : ∀ n, n ≤ s.size → (ixR s n < 0 ↔ ∀ j, s.size - n ≤ j → j < s.size → oddI (byT s j) = false)
  | 0, _ => by simp [ixR]; intro j h1 h2; omega
  | n + 1, hn => by
    simp only [ixR]
    cases hk : oddI (byT s (s.size - (n + 1))) with
    | true =>
      rw [if_pos rfl]
      constructor
      · intro h; omega
      · intro h
        have := h (s.size - (n + 1)) (Nat.le_refl _) (by omega)
        rw [hk] at this
        cases this
    | false =>
      rw [if_neg (by decide), ixR_neg s n (by omega)]
      constructor
      · intro h j h1 h2
        by_cases h3 : j = s.size - (n + 1)
        · rw [h3]; exact hk
        · exact h j (by omega) h2
      · intro h j h1 h2
        exact h j (by omega) h2
theorem ix_digits (s : ByteArray) : ¬ ixV s ≥ 0 ↔ allD s := by
  have h := ixR_neg s s.size (Nat.le_refl _)
  unfold ixV allD
  constructor
  · intro h1 j hj
    exact h.1 (by omega) j (by omega) hj
  · intro h1 h2
    have := h.2 fun j _ hj => h1 j hj
    omega
end Go.Proofs.YtbjgkhbhabdjgaaDoor

/-
  PLAIN ARITHMETIC: lists of words, the lowest first: what is left of them without noughts at the end; the number that they are.
-/
namespace Go.Nt

/-- how many are left without noughts at the end -/
def trimN : List Int → Nat
  | [] => 0
  | x :: r => if trimN r = 0 then (if x = 0 then 0 else 1) else trimN r + 1
theorem trimN_le : ∀ L : List Int, trimN L ≤ L.length
  | [] => Nat.le_refl _
  | x :: r => by
    have := trimN_le r
    unfold trimN
    split
    · split <;> simp
    · simp; omega
theorem trimN_high : ∀ (L : List Int) (i : Nat), trimN L ≤ i → L.getD i 0 = 0
  | [], i, _ => by simp
  | x :: r, i, h => by
    unfold trimN at h
    cases i with
    | zero =>
      split at h
      · split at h
        · rename_i h1; simp [h1]
        · omega
      · omega
    | succ i =>
      have := trimN_high r i (by split at h <;> (try split at h) <;> omega)
      simpa using this
theorem trimN_top : ∀ L : List Int, trimN L = 0 ∨ L.getD (trimN L - 1) 0 ≠ 0
  | [] => .inl rfl
  | x :: r => by
    have ih := trimN_top r
    unfold trimN
    split
    · split
      · exact .inl rfl
      · rename_i h; exact .inr (by simpa using h)
    · rename_i h
      rcases ih with ih | ih
      · exact absurd ih h
      · refine .inr ?_
        obtain ⟨k, hk⟩ : ∃ k, trimN r = k + 1 := ⟨trimN r - 1, by omega⟩
        rw [hk] at ih ⊢
        simpa using ih
theorem trimN_uniq {L : List Int} {k : Nat} (h1 : ∀ i, k ≤ i → L.getD i 0 = 0) (h2 : k = 0 ∨ L.getD (k - 1) 0 ≠ 0) : trimN L = k := by
  rcases Nat.lt_trichotomy (trimN L) k with h | h | h
  · rcases h2 with h2 | h2
    · omega
    · exact absurd (trimN_high L (k - 1) (by omega)) h2
  · exact h
  · rcases trimN_top L with h3 | h3
    · omega
    · exact absurd (h1 (trimN L - 1) (by omega)) h3
/-- from the highest down -/
def topCmp (L M : List Int) : Nat → Int
  | 0 => 0
  | k + 1 => if L.getD k 0 = M.getD k 0 then topCmp L M k else if L.getD k 0 < M.getD k 0 then -1 else 1
def cmpL (L M : List Int) : Int := if L.length = M.length then topCmp L M L.length else if L.length < M.length then -1 else 1
end Go.Nt
