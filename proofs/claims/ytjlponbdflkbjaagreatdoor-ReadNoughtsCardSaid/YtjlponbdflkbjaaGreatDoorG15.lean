/-
  RunI, TxH, UuZ, TxT, UuX, NumQ, ConNC, ConNB, ConND
-/
import Derived.Test.YtjlponbdflkbjaaGreatDoorG08
import Derived.Laws.RangeString
import Derived.Test.YtjlponbdflkbjaaGreatDoorG10
import Derived.Laws.RangeAny
import Derived.Test.YtjlponbdflkbjaaGreatDoorG12
import Derived.Test.YtjlponbdflkbjaaGreatDoorG07
import Derived.Test.YtjlponbdflkbjaaGreatDoorG13
import Derived.Laws.MathBits
namespace Go.KRun
open Go.RowKit
/-- all that lies below B stays, but for one block -/
structure BelowI (B r : Nat) (w w' : World) : Prop where
  os : w'.os = w.os
  tape : w'.tape = w.tape
  output : w'.output = w.output
  size : w.heap.size ≤ w'.heap.size
  block : ∀ k, k < B → k ≠ r → w'.heap[k]? = w.heap[k]?
theorem BelowI.of {B r : Nat} {w w' : World} (h : Below B w w') : BelowI B r w w' := ⟨h.os, h.tape, h.output, h.size, fun k hk _ => h.block k hk⟩
theorem BelowI.trans {B r : Nat} {w w' w'' : World} (h : BelowI B r w w') (g : BelowI B r w' w'') : BelowI B r w w'' :=
  ⟨g.os.trans h.os, g.tape.trans h.tape, g.output.trans h.output, Nat.le_trans h.size g.size, fun k hk hr => (g.block k hk hr).trans (h.block k hk hr)⟩
/-- what a piece of code does while an iterator over s stands at p in block r -/
def RunsI (T : Tab) (c : Code) (r : Nat) (s : ByteArray) (p : Nat) (x : Lf) (Post : Ex → Lf → Nat → Prop) : Prop :=
  ∀ m B a w, Rel m B x a w → r < B → w.heap[r]? = some (.stringIter s p) → ∀ Q : Exit → Act → World → Prop,
    (∀ e y p', Post e y p' → ∀ m' a' w', Rel m' B y a' w' → BelowI B r w w' → w'.heap[r]? = some (.stringIter s p') → Q (out e) a' w') → c.wp T.P Q a w
section
variable {T : Tab} {r : Nat} {s : ByteArray}
/-- a piece that does not know of the iterator -/
theorem RunsW.i {c : Code} {p : Nat} {x : Lf} {P : Ex → Lf → Prop} (h : RunsW T c x P) : RunsI T c r s p x fun e y p' => p' = p ∧ P e y := by
  intro m B a w R hr hi Q hQ
  refine h m B a w R Q fun e y he m' a' w' R' hb => hQ e y p ⟨rfl, he⟩ m' a' w' R' (BelowI.of hb) ?_
  rw [hb.block r hr]
  exact hi
theorem RunsI.mono {c : Code} {p : Nat} {x : Lf} {P P' : Ex → Lf → Nat → Prop} (h : RunsI T c r s p x P) (hp : ∀ e y q, P e y q → P' e y q) : RunsI T c r s p x P' :=
  fun m B a w R hr hi Q hQ => h m B a w R hr hi Q fun e y p' he => hQ e y p' (hp e y p' he)
theorem RunsI.seq {c1 c2 : Code} {p : Nat} {x : Lf} {P1 P : Ex → Lf → Nat → Prop} (h1 : RunsI T c1 r s p x P1) (h2 : ∀ y q, P1 none y q → RunsI T c2 r s q y P) (h3 : ∀ e y q, P1 (some e) y q → P (some e) y q) : RunsI T (.seq c1 c2) r s p x P := by
  intro m B a w R hr hi Q hQ
  refine wp_seq (h1 m B a w R hr hi _ fun e y q he m' a' w' R' hb hi' => ?_)
  match e, he with
  | none, he => exact h2 y q he m' B a' w' R' hr hi' Q fun e' y' q' he' m'' a'' w'' R'' hb' hi'' => hQ e' y' q' he' m'' a'' w'' R'' (hb.trans hb') hi''
  | some none, he => exact hQ _ _ q (h3 none y q he) m' a' w' R' hb hi'
  | some (some id), he => exact hQ _ _ q (h3 (some id) y q he) m' a' w' R' hb hi'
theorem RunsI.block {c : Code} {id p : Nat} {x : Lf} {P1 P : Ex → Lf → Nat → Prop} (h1 : RunsI T c r s p x P1) (h2 : ∀ y q, P1 none y q → P none y q) (h3 : ∀ y q, P1 (some none) y q → P (some none) y q)
    (h4 : ∀ y q, P1 (some (some id)) y q → P none y q) (h5 : ∀ id' y q, id' ≠ id → P1 (some (some id')) y q → P (some (some id')) y q) : RunsI T (.block id c) r s p x P := by
  intro m B a w R hr hi Q hQ
  refine wp_block (h1 m B a w R hr hi _ fun e y q he m' a' w' R' hb hi' => ?_)
  match e, he with
  | none, he => exact hQ _ _ q (h2 y q he) m' a' w' R' hb hi'
  | some none, he => exact hQ _ _ q (h3 y q he) m' a' w' R' hb hi'
  | some (some id'), he =>
    simp only [out, Exit.inBlock]
    by_cases hid : id' = id
    · subst hid
      rw [if_pos rfl]
      exact hQ _ _ q (h4 y q he) m' a' w' R' hb hi'
    · rw [if_neg hid]
      exact hQ _ _ q (h5 id' y q hid he) m' a' w' R' hb hi'
theorem RunsI.loop {c : Code} {p : Nat} {x : Lf} {P : Ex → Lf → Nat → Prop} (Inv : Nat → Lf → Nat → Prop) (round : ∀ n x q, Inv n x q → RunsI T c r s q x fun e y q' => match e with | none => ∃ n', n' < n ∧ Inv n' y q' | some e => P (some e) y q') {n : Nat} (h0 : Inv n x p) :
    RunsI T (.loop c) r s p x P := by
  have key : ∀ N n x p, n < N → Inv n x p → ∀ m B a w, Rel m B x a w → r < B → w.heap[r]? = some (.stringIter s p) → ∀ Q : Exit → Act → World → Prop, (∀ e y p', P e y p' → ∀ m' a' w', Rel m' B y a' w' → BelowI B r w w' → w'.heap[r]? = some (.stringIter s p') → Q (out e) a' w') → Code.rounds T.P c Q N a w := by
    intro N
    induction N with
    | zero => intro n x p hn; omega
    | succ N ih =>
      intro n x p hn hI m B a w R hr hi Q hQ
      rw [rounds_succ]
      refine round n x p hI m B a w R hr hi _ fun e y q he m' a' w' R' hb hi' => ?_
      match e, he with
      | none, he =>
        obtain ⟨n', hn', hI'⟩ := he
        exact ih n' y q (by omega) hI' m' B a' w' R' hr hi' Q fun e' y' q' he' m'' a'' w'' R'' hb' hi'' => hQ e' y' q' he' m'' a'' w'' R'' (hb.trans hb') hi''
      | some none, he => exact hQ _ _ q he m' a' w' R' hb hi'
      | some (some id), he => exact hQ _ _ q he m' a' w' R' hb hi'
  intro m B a w R hr hi Q hQ
  exact wp_loop_rounds (n + 1) (key (n + 1) n x p (by omega) h0 m B a w R hr hi Q hQ)
theorem RunsI.forLoop {c : Code} {id p : Nat} {x : Lf} {P : Lf → Nat → Prop} {R : Lf → Nat → Prop} (Inv : Nat → Lf → Nat → Prop)
    (round : ∀ n x q, Inv n x q → RunsI T c r s q x fun e y q' => match e with | none => ∃ n', n' < n ∧ Inv n' y q' | some none => R y q' | some (some id') => id' = id ∧ P y q') {n : Nat} (h0 : Inv n x p) :
    RunsI T (.block id (.loop c)) r s p x fun e y q => match e with | none => P y q | some none => R y q | some (some _) => False := by
  refine RunsI.block (P1 := fun e y q => match e with | none => False | some none => R y q | some (some id') => id' = id ∧ P y q) ?_ (fun y q he => he.elim) (fun y q he => he) (fun y q he => he.2) (fun id' y q hid he => absurd he.1 hid)
  refine RunsI.loop Inv (fun n x q hI => (round n x q hI).mono fun e y q' he => ?_) h0
  match e, he with
  | none, he => exact he
  | some none, he => exact he
  | some (some id'), he => exact he
end
/-- a memory of which nothing is known: there the temporaries may hold values of the world's own -/
def hT1 : Hp := ⟨1, [([], 2 * dead)]⟩
theorem hT1_blk {b : Nat} {x : List Value × TypeId} (h : hT1.blk? b = some x) : x = ([], 2 * dead) := by
  have hb : b < 1 := Hp.blk_lt h
  have h0 : b = 0 := by omega
  subst h0
  exact (Option.some.inj h).symm
theorem emb_T1 (m : Mp) {B : Nat} {w : World} (hB : B ≤ w.heap.size) (hi : ∀ k, B ≤ k → k < w.heap.size → iced w.heap[k]?) : Emb m B hT1 w := by
  have t1 : tomb (2 * dead) = true := by kernel_rfl
  have r1 : ro (2 * dead) = true := by kernel_rfl
  have a1 : ab (2 * dead) = false := by kernel_rfl
  refine ⟨rfl, fun b x hb ht => ?_, fun b x hb hr => ?_, fun b x hb ht => ?_, fun b b' x x' hb _ hr => ?_, fun b x hb v hv => ?_, hB, hi, fun b x hb ha => ?_⟩ <;> rw [hT1_blk hb] at *
  · rw [t1] at ht; cases ht
  · rw [r1] at hr; cases hr
  · rw [t1] at ht; cases ht
  · rw [r1] at hr; cases hr
  · cases hv
  · rw [a1] at ha; cases ha
theorem op_value {P : Program} {ops : Array Oper} {Q : Exit → Act → World → Prop} {i : Nat} {K : Act → World → Prop} {a : Act} {w w' : World} {o : Oper} {v : Value} (hi : ops[i]? = some o) (hg : o.guard = none) (hr : (execOp a.eval o).run P w = .ok (.value v) w') (hK : K (a.put o.dst v) w') : wpOp P ops Q i K a w := by
  unfold wpOp
  have hw : Region.wanted o (yielded ops a.tmps) = true := by unfold Region.wanted; rw [hg]
  simp only [hi, hw, if_true]
  left
  unfold Oper.wp
  rw [hr, Oper.upon_value]
  exact hK
theorem exec_move {P : Program} {a : Act} {o : Oper} {x : Operand} (ho : o.op = .move x) (w : World) : (execOp a.eval o).run P w = .ok (.value (a.eval x)) w := by
  unfold execOp
  rw [ho]
  simp
theorem exec_range {P : Program} {a : Act} {o : Oper} {x : Operand} {ty : TypeId} (ho : o.op = .range ty x) {s : ByteArray} (hx : a.eval x = .string s) (hty : P.underlying ty = some .string) (w : World) :
    (execOp a.eval o).run P w = .ok (.value (.pointer (some ⟨w.heap.size, 0, none⟩))) (w.iter s 0) := by
  unfold execOp
  rw [ho]
  simp [hx, run_range_string w ty s hty]
/-- a loop over a string: the iterator is made -/
theorem RunsW.overString {T : Tab} {c : Code} {id : Nat} {o1 o2 : Oper} (g1 : o1.guard = none) (g2 : o2.guard = none) {j d1 d2 : Nat} {ty : TypeId} (e1 : o1.op = .move (.tmp j)) (e2 : o2.op = .range ty (.tmp d1)) (k1 : o1.dst = some d1) (k2 : o2.dst = some d2)
    (hty : T.P.underlying ty = some .string) {t : List Value} {s : ByteArray} (hj : t[j]? = some (.string s)) (hd : d1 < t.length) {sc : List Dec} {P : Ex → Lf → Prop}
    (hI : ∀ r, RunsI T c r s 0 ((t.set d1 (.string s)).set d2 (.iface dead (.pointer (some ⟨r, 0, none⟩))), hT1, []) fun e y _ => y.2.1 = hT1 ∧ P e y) :
    RunsW T (.seq (.region id #[o1, o2] false) c) (t, ⟨0, []⟩, sc) P := by
  intro m B a w R Q hQ
  refine wp_seq (wp_region ?_)
  show wpOps T.P #[o1, o2] _ [0, 1] a w
  rw [wpOps_cons]
  have ev1 : a.eval (.tmp j) = .string s := by
    rw [eval_mv R.tmps (x := .tmp j) rfl]
    simp [ev, List.getD, hj, mv, mv2, mv1]
  refine op_value (o := o1) (by rfl) g1 (exec_move e1 w) ?_
  rw [ev1, k1, wpOps_cons]
  have R1 : Rel m B (t.set d1 (.string s), ⟨0, []⟩, []) (a.put (some d1) (.string s)) w := R.put (v := .string s) (Agree.refl _ _) R.emb (Nat.le_refl _) (by simp [lt, lt2, lt1]) (some d1) []
  have ev2 : (a.put (some d1) (.string s)).eval (.tmp d1) = .string s := by
    rw [eval_mv R1.tmps (x := .tmp d1) rfl]
    simp [ev, List.getD, hd, mv, mv2, mv1]
  refine op_value (o := o2) (by rfl) g2 (exec_range e2 ev2 hty w) ?_
  rw [k2]
  show wpOps T.P #[o1, o2] _ [] _ _
  have hsz : (w.iter s 0).heap.size = w.heap.size + 1 := size_alloc' w _
  have hold : ∀ k, k < w.heap.size → (w.iter s 0).heap[k]? = w.heap[k]? := fun k hk => heap_alloc_ne w _ k (by omega)
  have R2 : Rel m (w.heap.size + 1) ((t.set d1 (.string s)).set d2 (.iface dead (.pointer (some ⟨w.heap.size, 0, none⟩))), hT1, []) ((a.put (some d1) (.string s)).put (some d2) (.pointer (some ⟨w.heap.size, 0, none⟩))) (w.iter s 0) := by
    have E : Emb m (w.heap.size + 1) hT1 (w.iter s 0) := emb_T1 m (by omega) (fun k h1 h2 => by omega)
    have R1' : Rel m (w.heap.size + 1) (t.set d1 (.string s), hT1, []) (a.put (some d1) (.string s)) (w.iter s 0) := ⟨R1.tmps, R1.dfr, E, fun v hv => lt_mono (Nat.zero_le _) (R1.wf v hv)⟩
    have := R1'.put (v := .iface dead (.pointer (some ⟨w.heap.size, 0, none⟩))) (Agree.refl _ _) E (Nat.le_refl _) (by simp [lt, lt2, lt1, hT1]) (some d2) []
    have em : mv m (.iface dead (.pointer (some ⟨w.heap.size, 0, none⟩))) = .pointer (some ⟨w.heap.size, 0, none⟩) := by simp [mv, mv2, mv1]
    rw [em] at this
    exact this
  refine hI w.heap.size m (w.heap.size + 1) _ _ R2 (Nat.lt_succ_self _) (World.iter_heap w s 0) Q fun e y p' hp m' a' w' R' hb hi => ?_
  obtain ⟨hy, hP⟩ := hp
  have hB := R.emb.base
  have Eb : ∀ k, k < w.heap.size → w'.heap[k]? = w.heap[k]? := fun k hk => by rw [hb.block k (by omega) (by omega), hold k hk]
  have E' : Emb m' B hT1 w' := by
    refine emb_T1 m' ?_ fun k h1 h2 => ?_
    · have := hb.size; omega
    · rcases Nat.lt_trichotomy k w.heap.size with h | h | h
      · rw [Eb k h]; exact R.emb.ice k h1 h
      · subst h
        rw [hi]
        intro c e z hz
        cases hz
      · have := R'.emb.ice k (by omega) h2
        exact this
  obtain ⟨ty', hy', sy⟩ := y
  simp only at hy
  subst hy
  exact hQ e _ hP m' a' w' ⟨R'.tmps, R'.dfr, E', R'.wf⟩ ⟨hb.os, hb.tape, hb.output, by have := hb.size; omega, fun k hk => Eb k (by omega)⟩
/-! ### one step of the iterator -/
def World.setIt (w : World) (r : Nat) (s : ByteArray) (p : Nat) : World := { w with heap := w.heap.setIfInBounds r (.stringIter s p) }
theorem setIt_size (w : World) (r : Nat) (s : ByteArray) (p : Nat) : (World.setIt w r s p).heap.size = w.heap.size := by simp [World.setIt]
theorem setIt_at {w : World} {r : Nat} (s : ByteArray) (p : Nat) (h : r < w.heap.size) : (World.setIt w r s p).heap[r]? = some (.stringIter s p) := by simp [World.setIt, h]
theorem setIt_ne (w : World) {r k : Nat} (s : ByteArray) (p : Nat) (h : k ≠ r) : (World.setIt w r s p).heap[k]? = w.heap[k]? := by
  simp only [World.setIt]
  rw [Array.getElem?_setIfInBounds]
  simp [Ne.symm h]
theorem emb_setIt {m : Mp} {B : Nat} {h : Hp} {w : World} (E : Emb m B h w) {r q : Nat} {s u : ByteArray} (hr : r < B) (hi : w.heap[r]? = some (.stringIter s q)) (p : Nat) : Emb m B h (World.setIt w r u p) := by
  have ne : ∀ {k : Nat} {c : Array Value} {t : TypeId} {z : Nat × Nat}, w.heap[k]? = some (.cells c t z) → k ≠ r := fun {k c t z} hk he => by
    subst he
    rw [hi] at hk
    cases hk
  refine ⟨E.len, fun b x hb ht => ?_, E.low, E.ros, E.inj, E.wf, by rw [setIt_size]; exact E.base, fun k h1 h2 => ?_, fun b x hb ha => ?_⟩
  · have hl := E.lies b x hb ht
    refine hl.congr (setIt_ne w u p ?_)
    obtain ⟨r', z, _, l1, _⟩ := hl
    exact ne l1
  · rw [setIt_size] at h2
    rw [setIt_ne w u p (by omega)]
    exact E.ice k h1 h2
  · obtain ⟨k1, r', t, z, k2⟩ := E.abs b x hb ha
    exact ⟨k1, r', t, z, by rw [setIt_ne w u p (ne k2)]; exact k2⟩
theorem exec_next {P : Program} {a : Act} {o : Oper} {x : Operand} (ho : o.op = .next x true) {r p : Nat} {s : ByteArray} (hx : a.eval x = .pointer (some ⟨r, 0, none⟩)) {w : World} (hi : w.heap[r]? = some (.stringIter s p)) (hp : p < s.size) :
    (execOp a.eval o).run P w = .ok (.value (.tuple #[.bool true, .int .i64 p, .int .i32 (Utf8.decode s p).1])) (World.setIt w r s (p + (Utf8.decode s p).2)) := by
  unfold execOp
  rw [ho]
  simp [hx, Instr.next, getObj, setObj, Sem.run, hi, hp, goInt, World.setIt]
theorem exec_over {P : Program} {a : Act} {o : Oper} {x : Operand} (ho : o.op = .next x true) {r p : Nat} {s : ByteArray} (hx : a.eval x = .pointer (some ⟨r, 0, none⟩)) {w : World} (hi : w.heap[r]? = some (.stringIter s p)) (hp : ¬ p < s.size) :
    (execOp a.eval o).run P w = .ok (.value (.tuple #[.bool false])) w := by
  unfold execOp
  rw [ho]
  simp [hx, Instr.next, getObj, Sem.run, hi, hp]
theorem exec_extract {P : Program} {a : Act} {o : Oper} {x : Operand} {k : Nat} (ho : o.op = .extract x k) {vs : Array Value} {v : Value} (hx : a.eval x = .tuple vs) (hv : vs[k]? = some v) (w : World) : (execOp a.eval o).run P w = .ok (.value v) w := by
  unfold execOp
  rw [ho]
  simp [hx, Instr.extract, hv]
/-- what the iterator gives at p -/
def itV (s : ByteArray) (p : Nat) : Value := .tuple #[.bool true, .int .i64 p, .int .i32 (Utf8.decode s p).1]
theorem RunsI.step {T : Tab} {r : Nat} {s : ByteArray} {id : Nat} {o1 o2 : Oper} (g1 : o1.guard = none) (g2 : o2.guard = none) {j d1 d2 : Nat} (e1 : o1.op = .next (.tmp j) true) (e2 : o2.op = .extract (.tmp d1) 0) (k1 : o1.dst = some d1) (k2 : o2.dst = some d2)
    {t : List Value} {h : Hp} {sc : List Dec} {p : Nat} (hj : t[j]? = some (.iface dead (.pointer (some ⟨r, 0, none⟩)))) (hd : d1 < t.length) :
    RunsI T (.region id #[o1, o2] false) r s p (t, h, sc) fun e y q => e = none ∧ y.2.1 = h ∧ ((p < s.size ∧ q = p + (Utf8.decode s p).2 ∧ y.1 = (t.set d1 (itV s p)).set d2 (.bool true)) ∨ (¬ p < s.size ∧ q = p ∧ y.1 = (t.set d1 (.tuple #[.bool false])).set d2 (.bool false))) := by
  intro m B a w R hr hi Q hQ
  refine wp_region ?_
  show wpOps T.P #[o1, o2] _ [0, 1] a w
  rw [wpOps_cons]
  have ev1 : a.eval (.tmp j) = .pointer (some ⟨r, 0, none⟩) := by
    rw [eval_mv R.tmps (x := .tmp j) rfl]
    simp [ev, List.getD, hj, mv, mv2, mv1]
  have hB := R.emb.base
  by_cases hp : p < s.size
  · refine op_value (o := o1) (by rfl) g1 (exec_next e1 ev1 hi hp) ?_
    rw [k1, wpOps_cons]
    have E1 := emb_setIt (u := s) R.emb hr hi (p + (Utf8.decode s p).2)
    have R0 : Rel m B (t, h, sc) a (World.setIt w r s (p + (Utf8.decode s p).2)) := ⟨R.tmps, R.dfr, E1, R.wf⟩
    have m1 : mv m (itV s p) = itV s p := by simp [itV, mv, mv2, mv1]
    have R1 := R0.put (v := itV s p) (Agree.refl _ _) E1 (Nat.le_refl _) (by simp [itV, lt, lt2, lt1]) (some d1) []
    rw [m1] at R1
    have ev2 : (a.put (some d1) (itV s p)).eval (.tmp d1) = itV s p := by
      rw [eval_mv R1.tmps (x := .tmp d1) rfl]
      simp [ev, putL, List.getD, hd, m1]
    refine op_value (o := o2) (v := .bool true) (by rfl) g2 (exec_extract e2 ev2 (by rfl) _) ?_
    rw [k2]
    show Q .normal _ _
    have R2 := R1.put (v := .bool true) (Agree.refl _ _) E1 (Nat.le_refl _) (by simp [lt, lt2, lt1]) (some d2) []
    have m2 : mv m (.bool true) = .bool true := by simp [mv, mv2, mv1]
    rw [m2] at R2
    exact hQ none _ _ ⟨rfl, rfl, .inl ⟨hp, rfl, rfl⟩⟩ m _ _ R2 ⟨rfl, rfl, rfl, by rw [setIt_size]; exact Nat.le_refl _, fun k _ hk => setIt_ne w s _ hk⟩ (setIt_at s _ (by omega))
  · refine op_value (o := o1) (by rfl) g1 (exec_over e1 ev1 hi hp) ?_
    rw [k1, wpOps_cons]
    have m1 : mv m (.tuple #[.bool false]) = .tuple #[.bool false] := by simp [mv, mv2, mv1]
    have R1 := R.put (v := .tuple #[.bool false]) (Agree.refl _ _) R.emb (Nat.le_refl _) (by simp [lt, lt2, lt1]) (some d1) []
    rw [m1] at R1
    have ev2 : (a.put (some d1) (.tuple #[.bool false])).eval (.tmp d1) = .tuple #[.bool false] := by
      rw [eval_mv R1.tmps (x := .tmp d1) rfl]
      simp [ev, putL, List.getD, hd, m1]
    refine op_value (o := o2) (v := .bool false) (by rfl) g2 (exec_extract e2 ev2 (by rfl) _) ?_
    rw [k2]
    show Q .normal _ _
    have R2 := R1.put (v := .bool false) (Agree.refl _ _) R.emb (Nat.le_refl _) (by simp [lt, lt2, lt1]) (some d2) []
    have m2 : mv m (.bool false) = .bool false := by simp [mv, mv2, mv1]
    rw [m2] at R2
    exact hQ none _ _ ⟨rfl, rfl, .inr ⟨hp, rfl, rfl⟩⟩ m _ _ R2 (BelowI.of (Below.refl _ _)) hi
end Go.KRun
namespace Go.Proofs.YtjlponbdflkbjaaGreatDoor.Na
open Go.KRun
set_option maxRecDepth 100000
set_option linter.unusedVariables false
/-- whether a letter is no digit -/
def oddI (c : Int) : Bool := decide (c < 48) || decide (c > 57)
def fO : Value := .func (.func 109) #[] #[]
theorem od_t (c : Int) : Fits (reckon (tabOf Tryz.prog extY conN true) 100 109 [.int .i32 c] [cmp true]) (.bool true) [(decide (c < 48), true)] := ⟨by kernel_rfl, by kernel_rfl, by kernel_rfl, by kernel_rfl⟩
theorem od_f (c : Int) (d : Bool) : Fits (reckon (tabOf Tryz.prog extY conN true) 100 109 [.int .i32 c] [cmp false, cmp d]) (.bool d) [(decide (c > 57), d), (decide (c < 48), false)] := ⟨by kernel_rfl, by kernel_rfl, by kernel_rfl, by kernel_rfl⟩
def gOd : Ans := fun vals s =>
  match vals, s with
  | [.int .i32 c], .inr (.inr (.inr (.inl d))) :: s' => some (.bool d, s', [(oddI c, d)])
  | _, _ => none
theorem gOd_ok : AnsOk 109 gOd := by
  intro vals s v s' lg h hl w
  unfold gOd at h
  split at h
  · rename_i c d s2
    cases h
    have hd : oddI c = d := hl _ (List.mem_singleton.2 rfl)
    unfold oddI at hd
    by_cases h1 : c < 48
    · rw [decide_eq_true h1, Bool.true_or] at hd
      subst hd
      exact fits_calls (tabY_ok conN_ok) (od_t c) (okL1 (decide_eq_true h1)) (by rfl) (by rfl) w
    · rw [decide_eq_false h1, Bool.false_or] at hd
      exact fits_calls (tabY_ok conN_ok) (od_f c d) (okCons hd (okL1 (decide_eq_false h1))) (by rfl) (by rfl) w
  · cases h
def conOd : Con := alt 109 gOd conN
theorem conOd_ok : ConOk conOd := alt_ok Tryz.func109 rfl gOd_ok conN_ok
noncomputable def tabOd : Tab := tabOf Tryz.prog extY conOd true
theorem tabOd_ok : TabOk tabOd := tabY_ok conOd_ok
def iR0 (F : Func) : Code := cFst (cBody F)
def iR1 (F : Func) : Code := cFst (cFst (cSnd (cBody F)))
def iLp (F : Func) : Code := cSnd (cFst (cSnd (cBody F)))
def iFn (F : Func) : Code := cSnd (cSnd (cBody F))
def iR2 (F : Func) : Code := cFst (cIn (cIn (iLp F)))
def iBd (F : Func) : Code := cSnd (cIn (cIn (iLp F)))
def iF (s : ByteArray) (a : Nat → Value) : List Value := [.string s, fO, .bool true, a 3, a 4, a 5, .int .i64 0, a 7, a 8, a 9]
def itR9 (r : Nat) : Value := .iface dead (.pointer (some ⟨r, 0, none⟩))
def dgT9 (q c : Int) : Value := .tuple #[.bool true, .int .i64 q, .int .i32 c]
theorem ix_go (s : ByteArray) (q c : Int) (r : Nat) (a g : Nat → Value) : GoesT (evC tabOd 300 false (iBd Tryz.f145) (iF s a ++ [itR9 r, dgT9 q c, .bool true] ++ tl 8 g, hT1, [cmp false]) ⟨[], [], []⟩) 11 10 none [.string s, fO, .bool true, a 3, a 4, a 5, .int .i64 0, .int .i64 q, .int .i32 c, a 9, itR9 r] hT1 [(oddI c, false)] := ⟨by kernel_rfl, by kernel_rfl, by kernel_rfl⟩
theorem ix_at (s : ByteArray) (q c : Int) (r : Nat) (a g : Nat → Value) : GoesT (evC tabOd 300 false (iBd Tryz.f145) (iF s a ++ [itR9 r, dgT9 q c, .bool true] ++ tl 8 g, hT1, [cmp true]) ⟨[], [], []⟩) 7 14 (some none) [.string s, fO, .bool true, a 3, a 4, a 5, .int .i64 q] hT1 [(oddI c, true)] := ⟨by kernel_rfl, by kernel_rfl, by kernel_rfl⟩
theorem ix_out (s : ByteArray) (r : Nat) (a g : Nat → Value) : GoesT (evC tabOd 300 false (iBd Tryz.f145) (iF s a ++ [itR9 r, .tuple #[.bool false], .bool false] ++ tl 8 g, hT1, []) ⟨[], [], []⟩) 10 11 (some (some 0)) (iF s a) hT1 [] := ⟨by kernel_rfl, by kernel_rfl, by kernel_rfl⟩
theorem ix_fin (s : ByteArray) (a g : Nat → Value) : GoesT (evC tabOd 300 false (iFn Tryz.f145) (iF s a ++ tl 11 g, hT1, []) ⟨[], [], []⟩) 7 14 (some none) [.string s, fO, .bool true, a 3, a 4, a 5, .int .i64 (-1)] hT1 [] := ⟨by kernel_rfl, by kernel_rfl, by kernel_rfl⟩
theorem ix_hd (s : ByteArray) : GoesT (evL tabOd 300 [iR0 Tryz.f145] ([.string s, fO, .bool true] ++ List.replicate 18 undef, ⟨0, []⟩, []) ⟨[], [], []⟩) 7 14 none [.string s, fO, .bool true, undef, undef, undef, .int .i64 0] ⟨0, []⟩ [] := ⟨by kernel_rfl, by kernel_rfl, by kernel_rfl⟩
/-- the letter at k, as a number -/
def byT (s : ByteArray) (k : Nat) : Int := ((s.data.toList.getD k 0).toNat : Nat)
/-- the first of the last n letters that is no digit -/
def ixR (s : ByteArray) : Nat → Int
  | 0 => -1
  | n + 1 => if oddI (byT s (s.size - (n + 1))) = true then ((s.size - (n + 1) : Nat) : Int) else ixR s n
def ixV (s : ByteArray) : Int := ixR s s.size
def rOpsT : Code → Array Oper
  | .region _ ops _ => ops
  | _ => #[]
def opAtT (c : Code) (k : Nat) : Oper := ((rOpsT c)[k]?).getD ⟨none, .move (.tmp 0), 0, "", #[], none⟩
theorem iLp_is : iLp Tryz.f145 = .block 0 (.loop (.seq (.region 2 #[opAtT (iR2 Tryz.f145) 0, opAtT (iR2 Tryz.f145) 1] false) (iBd Tryz.f145))) := by kernel_rfl
theorem iR1_is : iR1 Tryz.f145 = .region 1 #[opAtT (iR1 Tryz.f145) 0, opAtT (iR1 Tryz.f145) 1] false := by kernel_rfl
theorem iB_is : cBody Tryz.f145 = seqs [iR0 Tryz.f145] (.seq (.seq (iR1 Tryz.f145) (iLp Tryz.f145)) (iFn Tryz.f145)) := by kernel_rfl
theorem get_byT {s : ByteArray} {p : Nat} (h : p < s.size) : byT s p = ((s[p]'h).toNat : Nat) := by
  unfold byT
  have e : s.data.toList.getD p 0 = s[p]'h := by
    have h2 : p < s.data.toList.length := h
    simp only [List.getD, List.getElem?_eq_getElem h2, Option.getD_some]
    rfl
  rw [e]
theorem rune_odd {s : ByteArray} {p : Nat} (h : p < s.size) : oddI (((Utf8.decode s p).1 : Nat) : Int) = oddI (byT s p) ∧ (oddI (byT s p) = false → (Utf8.decode s p).2 = 1) := by
  by_cases ha : (s[p]'h).toNat < 128
  · rw [decode_ascii s p h ha, get_byT h]
    exact ⟨rfl, fun _ => rfl⟩
  · have hd := (decode_high s p h (by omega)).1
    have e1 : oddI (byT s p) = true := by
      rw [get_byT h]
      unfold oddI
      rw [decide_eq_true (show (((s[p]'h).toNat : Nat) : Int) > 57 by omega), Bool.or_true]
    refine ⟨?_, fun h' => by rw [e1] at h'; cases h'⟩
    rw [e1]
    unfold oddI
    rw [decide_eq_true (show (((Utf8.decode s p).1 : Nat) : Int) > 57 by omega), Bool.or_true]
theorem ixR_step {s : ByteArray} {q : Nat} (h : q < s.size) : ixR s (s.size - q) = if oddI (byT s q) = true then (q : Int) else ixR s (s.size - (q + 1)) := by
  obtain ⟨n, hn⟩ : ∃ n, s.size - q = n + 1 := ⟨s.size - q - 1, by omega⟩
  rw [hn, show s.size - (q + 1) = n by omega]
  simp only [ixR]
  rw [show s.size - (n + 1) = q by omega]
theorem ix_loop {s : ByteArray} (r : Nat) (a g : Nat → Value) (x y : Value) :
    RunsI tabOd (iLp Tryz.f145) r s 0 (iF s a ++ [itR9 r, x, y] ++ tl 8 g, hT1, []) fun e z _ => z.2.1 = hT1 ∧ match e with
      | none => ixV s = -1 ∧ ∃ a g, z.1 = iF s a ++ tl 11 g
      | some none => ∃ u v w g, z.1 = [.string s, fO, .bool true, u, v, w, .int .i64 (ixV s)] ++ tl 14 g
      | some (some _) => False := by
  rw [iLp_is]
  refine (RunsI.forLoop (P := fun z _ => z.2.1 = hT1 ∧ ixV s = -1 ∧ ∃ a g, z.1 = iF s a ++ tl 11 g)
    (R := fun z _ => z.2.1 = hT1 ∧ ∃ u v w g, z.1 = [.string s, fO, .bool true, u, v, w, .int .i64 (ixV s)] ++ tl 14 g)
    (fun n z q => n + q = s.size ∧ ixR s (s.size - q) = ixV s ∧ z.2.1 = hT1 ∧ ∃ a x y g, z.1 = iF s a ++ [itR9 r, x, y] ++ tl 8 g) ?_ (n := s.size) ⟨by omega, rfl, rfl, a, x, y, g, rfl⟩).mono fun e z q he => ?_
  · rintro n ⟨t, h', sc⟩ q ⟨hn, hA, hh, a, x, y, g, ht⟩
    simp only at hh ht
    subst hh ht
    refine RunsI.seq (RunsI.step (j := 10) (d1 := 11) (d2 := 12) (by kernel_rfl) (by kernel_rfl) (by kernel_rfl) (by kernel_rfl) (by kernel_rfl) (by kernel_rfl) (by rfl) (by simp [iF, tl])) ?_ (fun e y q he => by cases he.1)
    rintro ⟨t, h', sc'⟩ q' ⟨_, hh, hc⟩
    simp only at hh
    subst hh
    rcases hc with ⟨hq, hq', ht⟩ | ⟨hq, hq', ht⟩
    · simp only at ht
      have et : t = iF s a ++ [itR9 r, dgT9 (q : Nat) ((Utf8.decode s q).1 : Nat), .bool true] ++ tl 8 g := by rw [ht]; rfl
      subst et
      obtain ⟨r1, r2⟩ := rune_odd hq
      rw [ixR_step hq] at hA
      cases hk : oddI (byT s q) with
      | false =>
        rw [hk, if_neg (by decide)] at hA
        refine ((goesT_runsW tabOd_ok (ix_go s (q : Nat) ((Utf8.decode s q).1 : Nat) r a g) (okL1 (r1.trans hk))).i).mono fun e z q2 he => ?_
        obtain ⟨rfl, rfl, ⟨g1, e2⟩, e3⟩ := he
        rw [r2 hk] at hq'
        refine ⟨n - 1, by omega, by omega, by rw [hq']; exact hA, e3, ?_⟩
        refine ⟨fun k => z.1.getD k undef, g1 0, g1 1, fun k => g1 (k + 2), ?_⟩
        rw [e2]
        rfl
      | true =>
        rw [hk, if_pos rfl] at hA
        refine ((goesT_runsW tabOd_ok (ix_at s (q : Nat) ((Utf8.decode s q).1 : Nat) r a g) (okL1 (r1.trans hk))).i).mono fun e z q2 he => ?_
        obtain ⟨rfl, rfl, ⟨g1, e2⟩, e3⟩ := he
        rw [hA] at e2
        exact ⟨e3, _, _, _, g1, e2⟩
    · simp only at ht
      have et : t = iF s a ++ [itR9 r, .tuple #[.bool false], .bool false] ++ tl 8 g := by rw [ht]; rfl
      subst et
      have hqs : q = s.size := by omega
      refine ((goesT_runsW tabOd_ok (ix_out s r a g) (fun x hx => by cases hx)).i).mono fun e z q2 he => ?_
      obtain ⟨rfl, rfl, ⟨g1, e2⟩, e3⟩ := he
      rw [hqs, Nat.sub_self] at hA
      exact ⟨rfl, e3, hA.symm, a, g1, e2⟩
  · match e, he with
    | none, he => exact he
    | some none, he => exact he
theorem ix_mid (s : ByteArray) : RunsW tabOd (cBody Tryz.f145) ([.string s, fO, .bool true] ++ List.replicate 18 undef, ⟨0, []⟩, []) fun e y => (e = none ∨ e = some none) ∧ resS Tryz.prog Tryz.f145 y.1 y.2.1 = some (.int .i64 (ixV s)) := by
  rw [iB_is]
  refine goesT_listW tabOd_ok (ix_hd s) okN9 fun g => ?_
  refine RunsW.seq (P1 := fun e z => z.2.1 = hT1 ∧ match e with
      | none => ixV s = -1 ∧ ∃ a g, z.1 = iF s a ++ tl 11 g
      | some none => ∃ u v w g, z.1 = [.string s, fO, .bool true, u, v, w, .int .i64 (ixV s)] ++ tl 14 g
      | some (some _) => False) ?_ ?_ ?_
  · rw [iR1_is]
    refine RunsW.overString (j := 0) (d1 := 9) (d2 := 10) (ty := 9) (by kernel_rfl) (by kernel_rfl) (by kernel_rfl) (by kernel_rfl) (by kernel_rfl) (by kernel_rfl) (by kernel_rfl) (by rfl) (by simp [tl]) fun r => ?_
    have et : (([.string s, fO, .bool true, undef, undef, undef, .int .i64 0] ++ tl 14 g).set 9 (.string s)).set 10 (.iface dead (.pointer (some ⟨r, 0, none⟩))) =
        iF s (fun k => (([.string s, fO, .bool true, undef, undef, undef, .int .i64 0] ++ tl 14 g).set 9 (.string s)).getD k undef) ++ [itR9 r, g 4, g 5] ++ tl 8 (fun k => g (k + 6)) := by rfl
    rw [et]
    exact (ix_loop r _ _ _ _).mono fun e z q he => ⟨he.1, he⟩
  · rintro ⟨t, h', sc⟩ ⟨hh, hA, a, g1, ht⟩
    simp only at hh ht
    subst hh ht
    refine (goesT_runsW tabOd_ok (ix_fin s a g1) (fun x hx => by cases hx)).mono fun e z he => ?_
    obtain ⟨rfl, ⟨g2, e2⟩, e3⟩ := he
    refine ⟨.inr rfl, ?_⟩
    rw [e2, e3, hA]
    rfl
  · rintro e ⟨t, h', sc⟩ ⟨hh, hc⟩
    match e, hc with
    | none, hc =>
      obtain ⟨u, v, w, g1, ht⟩ := hc
      simp only at hh ht
      subst hh ht
      exact ⟨.inr rfl, rfl⟩
theorem ix_calls (s : ByteArray) (w : World) : Calls Tryz.prog 145 #[.string s, fO, .bool true] w fun e w' => e = .returned (.int .i64 (ixV s)) ∧ Tidy w w' :=
  calls_of_runsW (T := tabOd) (c := cBody Tryz.f145) (vals := [.string s, fO, .bool true]) Tryz.func145 (by kernel_rfl) (by rfl) (by rfl) (ix_mid s) w
/-- the function value is Parse's own: looked at by its number -/
def gIx : Ans := fun vals s =>
  match vals with
  | [.string b, .func (.func f) ⟨[]⟩ ⟨[]⟩, .bool true] => some (.int .i64 (ixV b), s, [(Nat.beq f 109, true)])
  | _ => none
theorem gIx_ok : AnsOk 145 gIx := by
  intro vals s v s' lg h hl w
  unfold gIx at h
  split at h
  · rename_i b f
    cases h
    have hf := Nat.eq_of_beq_eq_true (hl _ (List.mem_singleton.2 rfl))
    subst hf
    exact ix_calls b w
  · cases h
def conIx : Con := alt 145 gIx conN
theorem conIx_ok : ConOk conIx := alt_ok Tryz.func145 rfl gIx_ok conN_ok
theorem cf_fits (s : ByteArray) (d : Bool) : Fits (reckon (tabOf Tryz.prog extY conIx true) 100 110 [.string s, fO] [cmp d]) (.bool d) [(decide (ixV s ≥ 0), d), (true, true)] := ⟨by kernel_rfl, by kernel_rfl, by kernel_rfl, by kernel_rfl⟩
/-- whether a letter is no digit, told ahead -/
def gCf : Ans := fun vals s =>
  match vals, s with
  | [.string b, .func (.func f) ⟨[]⟩ ⟨[]⟩], .inr (.inr (.inr (.inl d))) :: s' => some (.bool d, s', [(decide (ixV b ≥ 0), d), (Nat.beq f 109, true)])
  | _, _ => none
theorem gCf_ok : AnsOk 110 gCf := by
  intro vals s v s' lg h hl w
  unfold gCf at h
  split at h
  · rename_i b f d s2
    cases h
    have h1 := hl _ List.mem_cons_self
    have hf := Nat.eq_of_beq_eq_true (hl _ (List.mem_cons_of_mem _ (List.mem_singleton.2 rfl)))
    subst hf
    exact fits_calls (tabY_ok conIx_ok) (cf_fits b d) (okCons h1 (okL1 rfl)) (by rfl) (by rfl) w
  · cases h
/-- all letters are digits -/
def allD (s : ByteArray) : Prop := ∀ j, j < s.size → oddI (byT s j) = false
theorem ixR_neg (s : ByteArray) : ∀ n, n ≤ s.size → (ixR s n < 0 ↔ ∀ j, s.size - n ≤ j → j < s.size → oddI (byT s j) = false)
  | 0, _ => by simp [ixR]; intro j h1 h2; omega
  | n + 1, hn => by
    simp only [ixR]
    cases hk : oddI (byT s (s.size - (n + 1))) with
    | true =>
      rw [if_pos rfl]
      constructor
      · intro h; omega
      · intro h
        have := h (s.size - (n + 1)) (Nat.le_refl _) (by omega)
        rw [hk] at this
        cases this
    | false =>
      rw [if_neg (by decide), ixR_neg s n (by omega)]
      constructor
      · intro h j h1 h2
        by_cases h3 : j = s.size - (n + 1)
        · rw [h3]; exact hk
        · exact h j (by omega) h2
      · intro h j h1 h2
        exact h j (by omega) h2
theorem ix_digits (s : ByteArray) : ¬ ixV s ≥ 0 ↔ allD s := by
  have h := ixR_neg s s.size (Nat.le_refl _)
  unfold ixV allD
  constructor
  · intro h1 j hj
    exact h.1 (by omega) j (by omega) hj
  · intro h1 h2
    have := h.2 fun j _ hj => h1 j hj
    omega
end Go.Proofs.YtjlponbdflkbjaaGreatDoor.Na
namespace Go.Proofs.YtjlponbdflkbjaaGreatDoor.Na
open Go.KRun Go.Nt
set_option maxRecDepth 100000
theorem cutI_wT (W : List Int) (k : Nat) : cutI (wU W) 0 k = W.take k := by
  unfold cutI cutV wU
  rw [List.drop_zero, ← List.map_take, List.map_map]
  exact (List.map_congr_left fun x _ => rfl).trans (List.map_id' _)
end Go.Proofs.YtjlponbdflkbjaaGreatDoor.Na
namespace Go.Proofs.YtjlponbdflkbjaaGreatDoor.Na
open Go.KRun
set_option maxRecDepth 100000
theorem logB {x : Bool × Bool} {l : Log} (h : okLog (x :: l)) : x.1 = x.2 ∧ okLog l := ⟨h _ List.mem_cons_self, fun y hy => h y (List.mem_cons_of_mem _ hy)⟩
end Go.Proofs.YtjlponbdflkbjaaGreatDoor.Na
namespace Go.Proofs.YtjlponbdflkbjaaGreatDoor.Na
open Go.KRun Go.Nt
set_option maxRecDepth 100000
theorem wU_allS (L : List Int) : (wU L).all still = true := by
  unfold wU
  rw [List.all_eq_true]
  intro v hv
  obtain ⟨x, _, rfl⟩ := List.mem_map.1 hv
  rfl
end Go.Proofs.YtjlponbdflkbjaaGreatDoor.Na
namespace Go.Nt
theorem dg_mod : ∀ (m : Nat) (V c : Int), dg m (V + 4294967296 ^ m * c) = dg m V
  | 0, _, _ => rfl
  | m + 1, V, c => by
    simp only [dg]
    rw [pw, Int.mul_assoc]
    generalize hZ : (4294967296 : Int) ^ m * c = Z
    have e1 : (V + 4294967296 * Z) % 4294967296 = V % 4294967296 := by omega
    have e2 : (V + 4294967296 * Z) / 4294967296 = V / 4294967296 + Z := by omega
    rw [e1, e2, ← hZ, dg_mod m]
/-- the two powers of a move by less than a word -/
theorem two_parts {k : Nat} (h : k ≤ 32) : (2 : Int) ^ k * 2 ^ (32 - k) = 4294967296 := by
  rw [← Int.pow_add, show k + (32 - k) = 32 from by omega]
  rfl
theorem or_add {k : Nat} {z y : Int} (z0 : 0 ≤ z) (y0 : 0 ≤ y) (y1 : y < 2 ^ k) (hs : 2 ^ k * z + y < 4294967296) : (((BitVec.ofInt 32 (2 ^ k * z) ||| BitVec.ofInt 32 y).toNat : Nat) : Int) = 2 ^ k * z + y := by
  obtain ⟨Z, rfl⟩ := Int.eq_ofNat_of_zero_le z0
  obtain ⟨Y, rfl⟩ := Int.eq_ofNat_of_zero_le y0
  have ex : (2 : Int) ^ k * (Z : Nat) = ((2 ^ k * Z : Nat) : Int) := by simp
  have hY : Y < 2 ^ k := by
    have : ((Y : Nat) : Int) < ((2 ^ k : Nat) : Int) := by simpa using y1
    exact Int.ofNat_lt.1 this
  rw [ex] at hs ⊢
  have hX : 2 ^ k * Z + Y < 4294967296 := by omega
  have e1 : ∀ m : Nat, m < 4294967296 → (BitVec.ofInt 32 (m : Int)).toNat = m := fun m hm => by
    simp
    omega
  rw [BitVec.toNat_or, e1 _ (by omega), e1 _ (by omega), ← Nat.two_pow_add_eq_or_of_lt hY]
  omega
/-- one word moved up -/
theorem up_word {x l q r : Int} (hq : 1 ≤ q) (hr : 1 ≤ r) (hqr : q * r = 4294967296) (hx : 0 ≤ x ∧ x < 4294967296) (hl : 0 ≤ l ∧ l < q) :
    x * q = 4294967296 * (x / r) + q * (x % r) ∧ 0 ≤ q * (x % r) ∧ q * (x % r) + l < 4294967296 ∧ 0 ≤ x / r ∧ x / r < q := by
  have h1 := Int.mul_ediv_add_emod x r
  have h2 := Int.emod_nonneg x (show r ≠ 0 by omega)
  have h3 := Int.emod_lt_of_pos x (show 0 < r by omega)
  have h4 : 0 ≤ x / r := Int.ediv_nonneg hx.1 (by omega)
  generalize x / r = hi at *
  generalize x % r = lo at *
  have e1 : x * q = 4294967296 * hi + q * lo := by
    rw [← h1, ← hqr, Int.add_mul, Int.mul_assoc q r hi, Int.mul_comm (r * hi) q, Int.mul_comm lo q]
  have e2 : q * lo + q ≤ 4294967296 := by
    have := Int.mul_le_mul_of_nonneg_left (show lo + 1 ≤ r by omega) (show 0 ≤ q by omega)
    rw [Int.mul_add, Int.mul_one, hqr] at this
    exact this
  refine ⟨e1, Int.mul_nonneg (by omega) h2, by omega, h4, ?_⟩
  rcases Int.lt_or_le hi q with h | h
  · exact h
  · exfalso
    have := Int.mul_le_mul_of_nonneg_left h (show 0 ≤ r by omega)
    rw [Int.mul_comm r q, hqr] at this
    omega
/-- one word more of a number moved up -/
theorem up_step {P a b q x l d e A : Int} (he : x * q + l = d + 4294967296 * e) (h : a + P * ((x + 4294967296 * A) * q + l) = b) : a + P * d + 4294967296 * P * (A * q + e) = b := by
  rw [← h]
  have e1 : (x + 4294967296 * A) * q + l = d + 4294967296 * (A * q + e) := by
    rw [Int.add_mul, Int.mul_assoc]
    omega
  rw [e1]
  generalize A * q + e = Z
  rw [Int.mul_add P d, ← Int.mul_assoc P 4294967296 Z, Int.mul_comm P 4294967296]
  omega
end Go.Nt
namespace Go.Proofs.YtjlponbdflkbjaaGreatDoor.Na
open Go.KRun Go.Nt
set_option maxRecDepth 100000
def upU (x k : Int) : Int := IntKind.u32.wrap (x * 2 ^ min k.toNat 32)
def newU (x k l : Int) : Int := brr (upU x k) l
def lowU (x k : Int) : Int := x.fdiv (2 ^ min (IntKind.i64.wrap (32 - k)).toNat 32)
theorem up32 {x l : Int} {k : Nat} (hx : 0 ≤ x ∧ x < 4294967296) (hl : 0 ≤ l ∧ l < 2 ^ k) (hk : k < 32) :
    (0 ≤ newU x k l ∧ newU x k l < 4294967296) ∧ (0 ≤ lowU x k ∧ lowU x k < 2 ^ k) ∧ x * 2 ^ k + l = newU x k l + 4294967296 * lowU x k := by
  have q1 : (1 : Int) ≤ 2 ^ k := by have : (0 : Int) < 2 ^ k := Int.pow_pos (by omega); omega
  have r1 : (1 : Int) ≤ 2 ^ (32 - k) := by have : (0 : Int) < 2 ^ (32 - k) := Int.pow_pos (by omega); omega
  obtain ⟨u1, u2, u3, u4, u5⟩ := up_word q1 r1 (two_parts (by omega)) hx hl
  have eL : lowU x k = x / 2 ^ (32 - k) := by
    unfold lowU
    rw [wrapI (by omega) (by omega), show min ((32 : Int) - (k : Nat)).toNat 32 = 32 - k from by omega, Int.fdiv_eq_ediv_of_nonneg _ (by omega)]
  have eU : upU x k = 2 ^ k * (x % 2 ^ (32 - k)) := by
    unfold upU
    rw [Int.toNat_natCast, show min k 32 = k from by omega, u32w, u1]
    omega
  have lo0 := Int.emod_nonneg x (show (2 : Int) ^ (32 - k) ≠ 0 by omega)
  have eN : newU x k l = 2 ^ k * (x % 2 ^ (32 - k)) + l := by
    unfold newU brr
    rw [eU, or_add lo0 hl.1 hl.2 u3, u32w]
    omega
  rw [eL, eN]
  omega
def mR0 (F : Func) : List Code := [cFst (cBody F), cFst (cSnd (cBody F))]
def mL (F : Func) : Code := cIn (cIn (cSnd (cSnd (cBody F))))
theorem mup_body : Tryz.f119.body = some (seqs (mR0 Tryz.f119) (.block 0 (.loop (mL Tryz.f119)))) := by kernel_rfl
def mF (w k l i x s n j : Value) : List Value := [w, k, undef, undef, l, i, x, s, n, j]
def hU (S la : List Value) : Hp := ⟨2, [(S, tU), (la, tR)]⟩
theorem mup_pre (b o n c : Nat) (k : Value) (h : Hp) : GoesT (evL (tabOf Tryz.prog extY conN true) 100 (mR0 Tryz.f119) ([sl b o n c, k] ++ List.replicate 25 undef, h, []) ⟨[], [], []⟩) 10 17 none (mF (sl b o n c) k (uu 0) undef undef (sl b o n c) (i6' n) (i6' 0)) h [] := ⟨by kernel_rfl, by kernel_rfl, by kernel_rfl⟩
theorem mup_out (w k l i x s : Value) (n : Nat) (j : Int) (h : Hp) (g : Nat → Value) : GoesT (evC (tabOf Tryz.prog extY conN true) 100 false (mL Tryz.f119) (mF w k l i x s (i6' n) (i6' j) ++ tl 17 g, h, [cmp false]) ⟨[], [], []⟩) 10 17 (some (some 0)) (mF w k l i x s (i6' n) (i6' j)) h [(decide (j < n), false)] := ⟨by kernel_rfl, by kernel_rfl, by kernel_rfl⟩
theorem mup_go (o n c : Nat) (k l j x : Int) (i0 x0 : Value) (la S : List Value) (g : Nat → Value) : GoesT (evC (tabOf Tryz.prog extY conN true) 100 false (mL Tryz.f119) (mF (sl 1 o n c) (i6' k) (uu l) i0 x0 (sl 1 o n c) (i6' n) (i6' j) ++ tl 17 g, hU S la, [cmp true, at_, val (uu x), at_, at_]) ⟨[], [], []⟩) 10 17 none
    (mF (sl 1 o n c) (i6' k) (uu (lowU x k)) (i6' j) (uu x) (sl 1 o n c) (i6' n) (i6' (IntKind.i64.wrap (j + 1)))) (hU (S.set (o + j.toNat * 1) (uu (newU x k l))) la) [(decide (IntKind.i64.wrap (32 - k) < 0), false), (decide (o + j.toNat * 1 < S.length), true), inR j n, (decide (k < 0), false), celR S o j x, inR j n, (decide (j < n), true)] := ⟨by kernel_rfl, by kernel_rfl, by kernel_rfl⟩
theorem mup_res (w k l i x s n j : Value) (h : Hp) (g : Nat → Value) : resS Tryz.prog Tryz.f119 (mF w k l i x s n j ++ tl 17 g) h = some (.tuple #[]) := by kernel_rfl
/-- the table of the library: how many bits a byte has -/
def lenTab : List UInt8 := (List.range 256).map fun i => UInt8.ofNat (bitLen i)
def byteLen (z : Int) : Int := ((lenTab.getD (IntKind.u8.wrap z).toNat 0).toNat : Int)
def lt8 (z : Int) : Bool × Bool := (decide (0 ≤ IntKind.u8.wrap z ∧ (IntKind.u8.wrap z).toNat < lenTab.length), true)
def shd (z : Int) (k : Nat) : Int := z.fdiv (2 ^ k)
def geq (z k : Int) (d : Bool) : Bool × Bool := (decide (z ≥ k), d)
def lenE (m z : Int) : Value := .int .i64 (IntKind.i64.wrap (m + IntKind.i64.wrap (byteLen z)))
def nz : Bool × Bool := (false, false)
theorem len_00 (u : Int) : Fits (reckon (tabOf Tryz.prog extY conN true) 3000 118 [uu u] [tst false, tst false]) (lenE 0 u) [lt8 u, geq u 256 false, geq u 65536 false] := ⟨by kernel_rfl, by kernel_rfl, by kernel_rfl, by kernel_rfl⟩
theorem len_01 (u : Int) : Fits (reckon (tabOf Tryz.prog extY conN true) 3000 118 [uu u] [tst false, tst true]) (lenE 8 (shd u 8)) [lt8 (shd u 8), nz, geq u 256 true, geq u 65536 false] := ⟨by kernel_rfl, by kernel_rfl, by kernel_rfl, by kernel_rfl⟩
theorem len_10 (u : Int) : Fits (reckon (tabOf Tryz.prog extY conN true) 3000 118 [uu u] [tst true, tst false]) (lenE 16 (shd u 16)) [lt8 (shd u 16), geq (shd u 16) 256 false, nz, geq u 65536 true] := ⟨by kernel_rfl, by kernel_rfl, by kernel_rfl, by kernel_rfl⟩
theorem len_11 (u : Int) : Fits (reckon (tabOf Tryz.prog extY conN true) 3000 118 [uu u] [tst true, tst true]) (lenE 24 (shd (shd u 16) 8)) [lt8 (shd (shd u 16) 8), nz, geq (shd u 16) 256 true, nz, geq u 65536 true] := ⟨by kernel_rfl, by kernel_rfl, by kernel_rfl, by kernel_rfl⟩
theorem lenTab_len : lenTab.length = 256 := by unfold lenTab; rw [List.length_map, List.length_range]
theorem lenTab_get (b : Nat) (h : b < 256) : (lenTab.getD b 0).toNat = bitLen b := by
  have h1 : lenTab.getD b 0 = UInt8.ofNat (bitLen b) := by
    unfold lenTab
    rw [List.getD, List.getElem?_map, List.getElem?_range h]
    rfl
  have h2 := bitLen_le8 b h
  rw [h1, UInt8.toNat_ofNat']
  omega
theorem u8_wrap {z : Int} (h0 : 0 ≤ z) (h1 : z < 256) : IntKind.u8.wrap z = z := by
  simp [IntKind.wrap, IntKind.bits, IntKind.signed]; omega
theorem lenE_eq {m : Int} {Z : Nat} (hm : 0 ≤ m) (hm' : m ≤ 56) (h1 : Z < 256) : lenE m (Z : Int) = .int .i64 (m + bitLen Z) ∧ (lt8 (Z : Int)).1 = (lt8 (Z : Int)).2 := by
  have hb := bitLen_le8 Z h1
  have e := u8_wrap (z := (Z : Int)) (by omega) (by omega)
  refine ⟨?_, ?_⟩
  · unfold lenE byteLen
    rw [e, Int.toNat_natCast, lenTab_get Z h1, wrapI (n := ((bitLen Z : Nat) : Int)) (by omega) (by omega), wrapI (by omega) (by omega)]
  · unfold lt8
    rw [e, Int.toNat_natCast]
    rw [lenTab_len]
    exact decide_eq_true (And.intro (by omega) h1)
theorem shd_eq (Z k : Nat) : shd (Z : Int) k = ((Z / 2 ^ k : Nat) : Int) := by
  unfold shd
  rw [Int.fdiv_eq_ediv_of_nonneg _ (Int.le_of_lt (Int.pow_pos (by omega)))]
  simp
theorem geq_t {z k : Int} (h : k ≤ z) : (geq z k true).1 = (geq z k true).2 := decide_eq_true h
theorem geq_f {z k : Int} (h : z < k) : (geq z k false).1 = (geq z k false).2 := decide_eq_false (by omega)
theorem nz_ok : nz.1 = nz.2 := rfl
theorem len_up (x b : Nat) (h : 2 ^ b ≤ x) : bitLen x = b + bitLen (x / 2 ^ b) := bitLen_shift x b (by
  have : 0 < x / 2 ^ b := Nat.div_pos h (Nat.two_pow_pos b)
  omega)
def len32V (u : Int) : Value := .int .i64 (bitLen u.toNat : Nat)
theorem len32_calls (u : Int) (h0 : 0 ≤ u) (h1 : u < 4294967296) (w : World) : Calls Tryz.prog 118 #[uu u] w fun e w' => e = .returned (len32V u) ∧ Tidy w w' := by
  obtain ⟨U, rfl⟩ := Int.eq_ofNat_of_zero_le h0
  unfold len32V
  rw [Int.toNat_natCast]
  have p8 : (2 : Nat) ^ 8 = 256 := rfl
  have p16 : (2 : Nat) ^ 16 = 65536 := rfl
  have step : ∀ {v : Value} {s : List Dec} {cs : Log}, Fits (reckon (tabOf Tryz.prog extY conN true) 3000 118 [uu (U : Int)] s) v cs → okLog cs → v = .int .i64 (bitLen U : Nat) → Calls Tryz.prog 118 #[uu (U : Int)] w fun e w' => e = .returned (.int .i64 (bitLen U : Nat)) ∧ Tidy w w' :=
    fun {v s cs} hf hc hv => by subst hv; exact fits_calls (tabY_ok conN_ok) hf hc (by rfl) (by rfl) w
  by_cases b : U < 65536
  · by_cases c : U < 256
    · obtain ⟨e1, e2⟩ := lenE_eq (m := 0) (by omega) (by omega) c
      exact step (len_00 U) (okTwo e2 (okTwo (geq_f (by omega)) (okOne (geq_f (by omega))))) (by rw [e1]; congr 1; omega)
    · have l := len_up U 8 (by omega)
      obtain ⟨e1, e2⟩ := lenE_eq (m := 8) (Z := U / 2 ^ 8) (by omega) (by omega) (by omega)
      rw [← shd_eq] at e1 e2
      exact step (len_01 U) (okTwo e2 (okTwo nz_ok (okTwo (geq_t (by omega)) (okOne (geq_f (by omega)))))) (by rw [e1]; congr 1; omega)
  · have l := len_up U 16 (by omega)
    by_cases c : U / 2 ^ 16 < 256
    · obtain ⟨e1, e2⟩ := lenE_eq (m := 16) (Z := U / 2 ^ 16) (by omega) (by omega) c
      rw [← shd_eq] at e1 e2
      exact step (len_10 U) (okTwo e2 (okTwo (geq_f (by rw [shd_eq]; omega)) (okTwo nz_ok (okOne (geq_t (by omega)))))) (by rw [e1]; congr 1; omega)
    · have l2 := len_up (U / 2 ^ 16) 8 (by omega)
      obtain ⟨e1, e2⟩ := lenE_eq (m := 24) (Z := U / 2 ^ 16 / 2 ^ 8) (by omega) (by omega) (by omega)
      rw [← shd_eq, ← shd_eq] at e1 e2
      exact step (len_11 U) (okTwo e2 (okTwo nz_ok (okTwo (geq_t (by rw [shd_eq]; omega)) (okTwo nz_ok (okOne (geq_t (by omega))))))) (by rw [e1]; congr 1; omega)
def gLen32 : Ans := fun vals s =>
  match vals with
  | [.int .u32 x] => some (len32V x, s, [(decide (0 ≤ x ∧ x < 4294967296), true)])
  | _ => none
theorem gLen32_ok : AnsOk 118 gLen32 := by
  intro vals s v s' lg h hl w
  unfold gLen32 at h
  split at h
  · rename_i x
    cases h
    have hr := hl _ (List.mem_singleton.2 rfl)
    simp only [decide_eq_true_eq] at hr
    exact len32_calls x hr.1 hr.2 w
  · cases h
/-! ### Len -/
def conL : Con := alt 118 gLen32 conN
theorem conL_ok : ConOk conL := alt_ok Tryz.func118 rfl gLen32_ok conN_ok
theorem nlen_body : Tryz.f79.body = some (cBody Tryz.f79) := by kernel_rfl
theorem nlen_0 (p : Option Addr) (n c : Nat) (h : Hp) : GoesT (evC (tabH Tryz.prog extY conL hcK) 100 false (cBody Tryz.f79) ([.slice p n c] ++ List.replicate 22 undef, h, [cmp true]) ⟨[], [], []⟩) 3 20 (some none) [.slice p n c, undef, i6' 0] h [((n : Int) == 0, true)] := ⟨by kernel_rfl, by kernel_rfl, by kernel_rfl⟩
theorem nlen_bad (o n c : Nat) (l : List Value) : GoesT (evC (tabH Tryz.prog extY conL hcK) 100 false (cBody Tryz.f79) ([sl 0 o n c] ++ List.replicate 22 undef, ⟨1, [(l, tR)]⟩, [cmp false, cmp true]) ⟨[], [], []⟩) 3 20 (some none) [sl 0 o n c, undef, i6' 0] ⟨1, [(l, tR)]⟩ [chkL l o n c, (badL (cutI l o n), true), ((n : Int) == 0, false)] := ⟨by kernel_rfl, by kernel_rfl, by kernel_rfl⟩
theorem nlen_good (o n c : Nat) (x : Int) (l : List Value) : GoesT (evC (tabH Tryz.prog extY conL hcK) 100 false (cBody Tryz.f79) ([sl 0 o n c] ++ List.replicate 22 undef, ⟨1, [(l, tR)]⟩, [cmp false, cmp false, at_, val (uu x)]) ⟨[], [], []⟩) 3 20 (some none) [sl 0 o n c, undef, i6' (IntKind.i64.wrap (IntKind.i64.wrap (n1 n * 32) + (bitLen x.toNat : Nat)))] ⟨1, [(l, tR)]⟩ [(decide (0 ≤ x ∧ x < 4294967296), true), (cellIs (l[o + (n1 n).toNat * 1]?) (.int .u32 x), true), (decide (0 ≤ n1 n ∧ n1 n < n), true), chkL l o n c, (badL (cutI l o n), false), ((n : Int) == 0, false)] := ⟨by kernel_rfl, by kernel_rfl, by kernel_rfl⟩
def lenN (L : List Int) : Int := match (L.length == 0 || badL L) with | true => 0 | false => 32 * ((L.length - 1 : Nat) : Int) + (bitLen (L.getD (L.length - 1) 0).toNat : Nat)
theorem bitLen_32 {x : Int} (h0 : 0 ≤ x) (h1 : x < 4294967296) : bitLen x.toNat ≤ 32 := by
  by_cases h : 65536 ≤ x.toNat
  · have p8 : (2 : Nat) ^ 8 = 256 := rfl
    have p16 : (2 : Nat) ^ 16 = 65536 := rfl
    have l := len_up x.toNat 16 (by omega)
    by_cases h2 : 256 ≤ x.toNat / 2 ^ 16
    · have l2 := len_up (x.toNat / 2 ^ 16) 8 (by omega)
      have := bitLen_le8 (x.toNat / 2 ^ 16 / 2 ^ 8) (by omega)
      omega
    · have := bitLen_le8 (x.toNat / 2 ^ 16) (by omega)
      omega
  · have p8 : (2 : Nat) ^ 8 = 256 := rfl
    by_cases h2 : 256 ≤ x.toNat
    · have l2 := len_up x.toNat 8 (by omega)
      have := bitLen_le8 (x.toNat / 2 ^ 8) (by omega)
      omega
    · have := bitLen_le8 x.toNat (by omega)
      omega
theorem nlen_runs {l : List Value} {o n c : Nat} (ha : rowOk tR l o n c = true) :
    Runs (tabH Tryz.prog extY conL hcK) (cBody Tryz.f79) ([sl 0 o n c] ++ List.replicate 22 undef, ⟨1, [(l, tR)]⟩, []) fun e y => (e = none ∨ e = some none) ∧ resS Tryz.prog Tryz.f79 y.1 y.2.1 = some (i6' (lenN (cutI l o n))) := by
  obtain ⟨a1, a2, a3, a4, a5, a6, a7⟩ := row_of ha
  unfold lenN
  by_cases h0 : n = 0
  · have e0 : ((cutI l o n).length == 0) = true := by rw [a2, h0]; rfl
    rw [e0, Bool.true_or]
    refine (goesT_runs (tabH_ok conL_ok hcK_ok) (nlen_0 (some ⟨0, o, none⟩) n c _) (okOne (by rw [h0]; rfl))).mono fun e y he => ?_
    obtain ⟨rfl, ⟨g, e2⟩, e3⟩ := he
    refine ⟨.inr rfl, ?_⟩
    rw [e2, e3]
    rfl
  · have e0 : ((cutI l o n).length == 0) = false := by rw [a2]; simpa using h0
    have e1 : ((n : Int) == 0) = false := by simpa using h0
    rw [e0, Bool.false_or]
    cases hb : badL (cutI l o n) with
    | true =>
      refine (goesT_runs (tabH_ok conL_ok hcK_ok) (nlen_bad o n c l) (okTwo ha (okTwo hb (okOne e1)))).mono fun e y he => ?_
      obtain ⟨rfl, ⟨g, e2⟩, e3⟩ := he
      refine ⟨.inr rfl, ?_⟩
      rw [e2, e3]
      rfl
    | false =>
      have h8 : n ≤ 8192 := by
        unfold badL at hb
        simp only [Bool.or_eq_false_iff, decide_eq_false_iff_not, a2] at hb
        omega
      have ek : n1 n = ((n - 1 : Nat) : Int) := by
        unfold n1
        rw [wrapI (by omega) (by omega)]
        omega
      rw [a2]
      have hx := a1.rng ((cutI l o n).getD (n - 1) 0) (by
        have hk' : n - 1 < (cutI l o n).length := by omega
        simp [List.getD, List.getElem?_eq_getElem hk'])
      have hc := a1.cell (k := n - 1) (by omega)
      have b32 := bitLen_32 hx.1 hx.2
      refine (goesT_runs (tabH_ok conL_ok hcK_ok) (nlen_good o n c ((cutI l o n).getD (n - 1) 0) l) (okTwo (decide_eq_true hx) (okTwo (by
        rw [ek, Int.toNat_natCast, Nat.mul_one, hc]; simp [cellIs]) (okTwo (by rw [ek]; exact decide_eq_true (by omega)) (okTwo ha (okTwo hb (okOne e1))))))).mono fun e y he => ?_
      obtain ⟨rfl, ⟨g, e2⟩, e3⟩ := he
      refine ⟨.inr rfl, ?_⟩
      have e4 : IntKind.i64.wrap (IntKind.i64.wrap (n1 n * 32) + (bitLen ((cutI l o n).getD (n - 1) 0).toNat : Nat)) = 32 * ((n - 1 : Nat) : Int) + (bitLen ((cutI l o n).getD (n - 1) 0).toNat : Nat) := by
        rw [ek, wrapI (n := ((n - 1 : Nat) : Int) * 32) (by omega) (by omega), wrapI (by omega) (by omega)]
        omega
      rw [e2, e3, e4]
      rfl
theorem nlen_nil : Fits (reckon (tabOf Tryz.prog extY conN true) 100 79 [nilS] []) (i6' 0) [] := ⟨by kernel_rfl, by kernel_rfl, by kernel_rfl, by kernel_rfl⟩
def gLen : AnsH := fun vals h s =>
  match vals with
  | [.slice none 0 0] => some (i6' 0, h, s, [])
  | [.slice (some ⟨b, o, none⟩) n c] =>
    match h.blk? b with
    | some x => some (i6' (lenN (cutI x.1 o n)), h, s, [(rowOk x.2 x.1 o n c, true)])
    | _ => none
  | _ => none
theorem gLen_ok : AnsHOk 79 gLen := by
  intro vals h s v h' s' lg hg hl m B w E hv
  unfold gLen at hg
  split at hg
  · cases hg
    refine (fits_calls (tabY_ok conN_ok) nlen_nil (fun x hx => by cases hx) (by rfl) (by rfl) w).mono fun e w' he => ?_
    obtain ⟨E', hb⟩ := clean_emb E he.2
    exact ⟨m, he.1, ⟨Agree.refl _ _, E', hb, Nat.le_refl _, rfl⟩⟩
  · rename_i b o n c
    split at hg
    · rename_i x hx
      cases hg
      have ra := hl _ (List.mem_singleton.2 rfl)
      obtain ⟨h1, h2, h3, h4, h5, h6, h7⟩ := row_of ra
      have hlt := Hp.blk_lt hx
      have r := nlen_runs (rowOk_R ra)
      have := row_calls (T := tabH Tryz.prog extY conL hcK) Tryz.func79 nlen_body (rows1 h7) (vals := [sl 0 o n c]) (fun v hv => by rw [List.mem_singleton.1 hv]; rfl) (by rfl) r E (s := fun _ => b) (fun i _ => hlt) (fitsR1 hx h5 h6 rfl)
      exact this.mono fun e w' he => ⟨m, he.1, he.2⟩
    · cases hg
  · cases hg
theorem fU_get {F : List Value} {o : Nat} (hF : F.length = o) (dx : List Int) (x : Int) (px : List Int) : (F ++ wU (dx ++ x :: px))[o + dx.length]? = some (uu x) := by
  rw [List.getElem?_append_right (by omega), hF, Nat.add_sub_cancel_left]
  exact wU_get dx x px
theorem fU_set {F : List Value} {o : Nat} (hF : F.length = o) (dx : List Int) (x d : Int) (px : List Int) : (F ++ wU (dx ++ x :: px)).set (o + dx.length) (uu d) = F ++ wU ((dx ++ [d]) ++ px) := by
  rw [List.set_append_right _ _ (by omega), hF, Nat.add_sub_cancel_left, wU_set]
theorem mup_runs {F la : List Value} {o c k : Nat} {L : List Int} (hF : F.length = o) (hL : wds L) (hk : k < 32) (hN : L.length < 4611686018427387904) :
    Runs (tabOf Tryz.prog extY conN true) (seqs (mR0 Tryz.f119) (.block 0 (.loop (mL Tryz.f119)))) ([sl 1 o L.length c, i6' k] ++ List.replicate 25 undef, hU (F ++ wU L) la, []) fun e y => (e = none ∨ e = some none) ∧ resS Tryz.prog Tryz.f119 y.1 y.2.1 = some (.tuple #[]) ∧ y.2.1.cut 2 = hU (F ++ wU (dg L.length (vN L * 2 ^ k))) la := by
  refine goesT_list (tabY_ok conN_ok) (mup_pre 1 o L.length c (i6' k) _) (fun x hx => by cases hx) fun g => ?_
  refine (Runs.forLoop (R := fun _ => False) (P := fun y => ∃ (l i x j : Value) (g : Nat → Value), y.1 = mF (sl 1 o L.length c) (i6' k) l i x (sl 1 o L.length c) (i6' L.length) j ++ tl 17 g ∧ y.2.1 = hU (F ++ wU (dg L.length (vN L * 2 ^ k))) la)
    (fun r y => ∃ (dx px : List Int) (l : Int) (i0 x0 : Value) (g : Nat → Value), px.length = r ∧ dx.length + px.length = L.length ∧ wds dx ∧ wds px ∧ (0 ≤ l ∧ l < 2 ^ k) ∧ y.1 = mF (sl 1 o L.length c) (i6' k) (uu l) i0 x0 (sl 1 o L.length c) (i6' L.length) (i6' dx.length) ++ tl 17 g ∧ y.2.1 = hU (F ++ wU (dx ++ px)) la ∧ vN dx + 4294967296 ^ dx.length * (vN px * 2 ^ k + l) = vN L * 2 ^ k)
    ?_ (n := L.length) ⟨[], L, 0, undef, undef, g, rfl, by simp, (fun x hx => by cases hx), hL, ⟨by omega, Int.pow_pos (by omega)⟩, rfl, rfl, by simp [vN]⟩).mono fun e' y he => ?_
  · rintro r ⟨t, h', s'⟩ ⟨dx, px, l, i0, x0, g, hr, hl, wd1, wd2, hlo, ht, hh, hv⟩
    simp only at ht hh
    subst ht hh
    match px, hr, hl, wd2, hv with
    | [], hr, hl, wd2, hv =>
      have hl' : dx.length = L.length := by simpa using hl
      refine (goesT_runs (tabY_ok conN_ok) (mup_out _ _ _ _ _ _ L.length dx.length _ g) (okOne (decide_eq_false (by omega)))).mono fun e' y he => ?_
      obtain ⟨rfl, ⟨g1, e2⟩, e3⟩ := he
      refine ⟨rfl, _, _, _, _, g1, e2, ?_⟩
      simp only [vN] at hv
      rw [Int.zero_mul, Int.zero_add] at hv
      have e5 := dg_mod dx.length (vN dx) l
      rw [hv, dg_vN dx wd1, hl'] at e5
      rw [e3, e5, List.append_nil]
    | x :: px, hr, hl, wd2, hv =>
      obtain ⟨wx, wd2⟩ := wds_tail wd2
      obtain ⟨k1, k2, k3⟩ := up32 wx hlo hk
      have cS := fU_get hF dx x px
      have lS : (F ++ wU (dx ++ x :: px)).length = o + L.length := by
        unfold wU
        simp at hl ⊢
        omega
      have hl' : dx.length < L.length := by simp at hl; omega
      have l1 : decide (o + ((dx.length : Int)).toNat * 1 < (F ++ wU (dx ++ x :: px)).length) = true := by
        rw [lS, Int.toNat_natCast]
        exact decide_eq_true (by omega)
      have l2 : (inR dx.length L.length).1 = (inR dx.length L.length).2 := decide_eq_true (by omega)
      have l4 : (celR (F ++ wU (dx ++ x :: px)) o dx.length x).1 = (celR (F ++ wU (dx ++ x :: px)) o dx.length x).2 := cel_ok cS
      have e32 : IntKind.i64.wrap (32 - (k : Int)) = 32 - (k : Int) := wrapI (by omega) (by omega)
      have l5 : decide (IntKind.i64.wrap (32 - (k : Int)) < 0) = false := by
        rw [e32]
        exact decide_eq_false (by omega)
      have l6 : decide ((k : Int) < 0) = false := decide_eq_false (by omega)
      have l7 : decide ((dx.length : Int) < (L.length : Nat)) = true := decide_eq_true (by omega)
      refine (goesT_runs (tabY_ok conN_ok) (mup_go o L.length c k l dx.length x i0 x0 la (F ++ wU (dx ++ x :: px)) g) (okTwo l5 (okTwo l1 (okTwo l2 (okTwo l6 (okTwo l4 (okTwo l2 (okOne l7)))))))).mono fun e' y he => ?_
      obtain ⟨rfl, ⟨g1, e2⟩, e3⟩ := he
      refine ⟨px.length, by simp at hr; omega, dx ++ [newU x k l], px, lowU x k, i6' dx.length, uu x, g1, rfl, by simp at hl ⊢; omega, wds_app wd1 (fun z hz => by rw [List.mem_singleton.1 hz]; exact k1), wd2, k2, ?_, ?_, ?_⟩
      · rw [e2, wrapI (by omega) (by omega)]
        simp
      · rw [e3, Int.toNat_natCast, Nat.mul_one, fU_set hF]
      · simp only [vN] at hv
        rw [vN_snoc, List.length_append, List.length_singleton, pw]
        exact up_step k3 hv
  · match e', he with
    | none, he =>
      obtain ⟨l, i, x, j, g, e1, e2⟩ := he
      refine ⟨.inl rfl, ?_, ?_⟩
      · rw [e1]; exact mup_res _ _ _ _ _ _ _ _ _ _
      · rw [e2]; rfl
    | some none, he => exact he.elim
    | some (some _), he => exact he.elim
def upS (S : List Value) (o n : Nat) (k : Int) : List Value := S.take o ++ wU (dg n (vN (cutI S o n) * 2 ^ k.toNat))
def gMup : AnsH := fun vals h s =>
  match vals, h with
  | [.slice (some ⟨1, o, none⟩) n c, .int .i64 k], ⟨2, [(S, t), (la, t')]⟩ => some (.tuple #[], ⟨2, [(upS S o n k, tU), (la, tR)]⟩, s, [(Nat.beq t tU, true), (Nat.beq t' tR, true), (rowOk t S o n c, true), (Nat.beq (o + n) S.length, true), (la.all still, true), (decide (0 ≤ k ∧ k < 32), true)])
  | _, _ => none
theorem wU_tight (L : List Int) (n : Nat) : (wU L).all (lt1 n) = true := by
  unfold wU
  rw [List.all_eq_true]
  intro v hv
  obtain ⟨x, _, rfl⟩ := List.mem_map.1 hv
  rfl
theorem all_mono {l : List Value} {n : Nat} (hn : 0 < n) (h : l.all still = true) : l.all (lt1 n) = true := by
  rw [List.all_eq_true] at *
  exact fun v hv => still_lt hn (h v hv)
theorem gMup_ok : AnsHOk 119 gMup := by
  intro vals h s v h' s' lg hg hl m B w E hv
  unfold gMup at hg
  split at hg
  · rename_i o n c k S t la t'
    cases hg
    have q1 := Nat.eq_of_beq_eq_true (hl _ (List.mem_cons_self))
    have q2 := Nat.eq_of_beq_eq_true (hl _ (List.mem_cons_of_mem _ List.mem_cons_self))
    have ra := hl _ (List.mem_cons_of_mem _ (List.mem_cons_of_mem _ List.mem_cons_self))
    have q4 := Nat.eq_of_beq_eq_true (hl _ (List.mem_cons_of_mem _ (List.mem_cons_of_mem _ (List.mem_cons_of_mem _ List.mem_cons_self))))
    have q5 := hl _ (List.mem_cons_of_mem _ (List.mem_cons_of_mem _ (List.mem_cons_of_mem _ (List.mem_cons_of_mem _ List.mem_cons_self))))
    have q6 := of_decide_eq_true (hl _ (List.mem_cons_of_mem _ (List.mem_cons_of_mem _ (List.mem_cons_of_mem _ (List.mem_cons_of_mem _ (List.mem_cons_of_mem _ (List.mem_singleton.2 rfl)))))))
    simp only at q1 q2 q4 q5
    subst q1 q2
    obtain ⟨a1, a2, a3, a4, a5, a6, a7⟩ := row_of ra
    obtain ⟨K, rfl⟩ := Int.eq_ofNat_of_zero_le q6.1
    have hc : c < 4611686018427387904 := blt_iff.1 a4
    have eS : S = S.take o ++ wU (cutI S o n) := by
      have h1 := a1.cut
      rw [a2] at h1
      rw [← h1]
      unfold cutV
      rw [show n = (S.drop o).length from by simp; omega, List.take_length, List.take_append_drop]
    have hF : (S.take o).length = o := by simp; omega
    have r := mup_runs (la := la) (c := c) (k := K) hF a1.rng (by omega) (by omega)
    rw [a2, ← eS] at r
    have ht : (Hp.tight ⟨2, [(upS S o n K, tU), (la, tR)]⟩) = true := by
      unfold Hp.tight upS
      simp only [List.all_cons, List.all_nil, List.all_append, Bool.and_true, Bool.and_eq_true]
      refine ⟨⟨?_, wU_tight _ _⟩, all_mono (by omega) q5⟩
      rw [List.all_eq_true]
      exact fun v hv => still_lt (by omega) (a7 v (List.mem_of_mem_take hv))
    exact hcalls_of_runs (T := tabOf Tryz.prog extY conN true) Tryz.func119 mup_body (vals := [sl 1 o n c, i6' K]) (v := .tuple #[]) (h := hU S la) (by rfl) ht r m B w E hv
  · cases hg
end Go.Proofs.YtjlponbdflkbjaaGreatDoor.Na
