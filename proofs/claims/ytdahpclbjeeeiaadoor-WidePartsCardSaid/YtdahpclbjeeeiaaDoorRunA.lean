/-
  A RUN THAT THE KERNEL RECKONS, I: a small heap of its own (blocks numbered from 0), how it lies in a world (each small block at a block of the world's, by an injective map), and single operations on it.
  What is proved here is of every program: an operation that the reckoner carries out on the small heap is carried out by the model's run on every world in which the small heap lies.
-/
import Derived.Orders
import Derived.Scope
import Derived.Below
import Derived.Laws.CopyRow
import Derived.Laws.Rows
import Derived.LoopN
import Derived.KernelRfl
namespace Go.KRun
open Go.RowKit

/-! ### values moved from the small heap into a world -/
def mvA (m : Nat → Nat) (a : Addr) : Addr := { a with block := m a.block }
def mv1 (m : Nat → Nat) : Value → Value
  | .pointer (some a) => .pointer (some (mvA m a))
  | .slice (some a) l c => .slice (some (mvA m a)) l c
  | v => v
def mv2 (m : Nat → Nat) : Value → Value
  | .agg cs => .agg (cs.map (mv1 m))
  | v => mv1 m v
def mv (m : Nat → Nat) : Value → Value
  | .tuple vs => .tuple (vs.map (mv2 m))
  | v => mv2 m v

def lt1 (n : Nat) : Value → Bool
  | .pointer (some a) => Nat.blt a.block n
  | .slice (some a) _ _ => Nat.blt a.block n
  | _ => true
def lt2 (n : Nat) : Value → Bool
  | .agg cs => cs.toList.all (lt1 n)
  | v => lt1 n v
def lt (n : Nat) : Value → Bool
  | .tuple vs => vs.toList.all (lt2 n)
  | v => lt2 n v
/-- one cell's value -/
def one : Value → Bool
  | .agg _ | .tuple _ => false
  | _ => true
def noT : Value → Bool
  | .tuple _ => false
  | _ => true
def cellsL : Value → List Value
  | .agg cs => cs.toList
  | v => [v]

def Agree (m m' : Nat → Nat) (n : Nat) : Prop := ∀ b, b < n → m' b = m b
theorem Agree.refl (m : Nat → Nat) (n : Nat) : Agree m m n := fun _ _ => rfl
theorem Agree.trans {m m' m'' : Nat → Nat} {n n' : Nat} (h : Agree m m' n) (h' : Agree m' m'' n') (hn : n ≤ n') : Agree m m'' n :=
  fun b hb => (h' b (by omega)).trans (h b hb)
theorem Agree.mono {m m' : Nat → Nat} {n n' : Nat} (h : Agree m m' n') (hn : n ≤ n') : Agree m m' n := fun b hb => h b (by omega)

theorem blt_iff {a b : Nat} : Nat.blt a b = true ↔ a < b := by simp [Nat.blt_eq]

theorem mv1_agree {m m' : Nat → Nat} {n : Nat} (h : Agree m m' n) {v : Value} (hv : lt1 n v = true) : mv1 m' v = mv1 m v := by
  unfold mv1
  split
  · simp only [lt1, blt_iff] at hv; simp [mvA, h _ hv]
  · simp only [lt1, blt_iff] at hv; simp [mvA, h _ hv]
  · rfl
theorem mv2_agree {m m' : Nat → Nat} {n : Nat} (h : Agree m m' n) {v : Value} (hv : lt2 n v = true) : mv2 m' v = mv2 m v := by
  unfold mv2
  split
  · rename_i cs
    simp only [lt2, List.all_eq_true] at hv
    congr 1
    exact Array.map_congr_left fun x hx => mv1_agree h (hv x (by simpa using hx))
  · rename_i hna
    refine mv1_agree h ?_
    unfold lt2 at hv
    split at hv
    · rename_i cs; exact absurd rfl (hna cs)
    · exact hv
theorem mv_agree {m m' : Nat → Nat} {n : Nat} (h : Agree m m' n) {v : Value} (hv : lt n v = true) : mv m' v = mv m v := by
  unfold mv
  split
  · rename_i vs
    simp only [lt, List.all_eq_true] at hv
    congr 1
    exact Array.map_congr_left fun x hx => mv2_agree h (hv x (by simpa using hx))
  · rename_i hna
    refine mv2_agree h ?_
    unfold lt at hv
    split at hv
    · rename_i cs; exact absurd rfl (hna cs)
    · exact hv
theorem mv1_id (v : Value) : mv1 (fun b => b) v = v := by
  unfold mv1; split <;> rfl
theorem mv2_id (v : Value) : mv2 (fun b => b) v = v := by
  unfold mv2
  split
  · rename_i cs
    congr 1
    have : (mv1 fun b => b) = id := funext mv1_id
    simp [this]
  · exact mv1_id v
theorem mv_id (v : Value) : mv (fun b => b) v = v := by
  unfold mv
  split
  · rename_i cs
    congr 1
    have : (mv2 fun b => b) = id := funext mv2_id
    simp [this]
  · exact mv2_id v
theorem mv_still {m : Nat → Nat} {v : Value} (hv : lt 0 v = true) : mv m v = v := by
  rw [← mv_id v]
  rw [mv_id v]
  have := mv_agree (m := fun b => b) (m' := m) (n := 0) (fun b hb => absurd hb (Nat.not_lt_zero b)) hv
  rw [this, mv_id]
theorem lt1_mono {n n' : Nat} (hn : n ≤ n') {v : Value} (hv : lt1 n v = true) : lt1 n' v = true := by
  unfold lt1 at *
  split at hv <;> simp only [blt_iff] at * <;> first | omega | rfl
theorem lt2_mono {n n' : Nat} (hn : n ≤ n') {v : Value} (hv : lt2 n v = true) : lt2 n' v = true := by
  unfold lt2 at *
  split at hv
  · simp only [List.all_eq_true] at *; exact fun x hx => lt1_mono hn (hv x hx)
  · exact lt1_mono hn hv
theorem lt_mono {n n' : Nat} (hn : n ≤ n') {v : Value} (hv : lt n v = true) : lt n' v = true := by
  unfold lt at *
  split at hv
  · simp only [List.all_eq_true] at *; exact fun x hx => lt2_mono hn (hv x hx)
  · exact lt2_mono hn hv
theorem mv_undef (m : Nat → Nat) : mv m undef = undef := by simp [mv, undef]
theorem mv_one {m : Nat → Nat} {v : Value} (h : one v = true) : mv m v = mv1 m v := by
  cases v <;> simp_all [one, mv, mv2]
theorem lt_one {n : Nat} {v : Value} (h : one v = true) : lt n v = lt1 n v := by
  cases v <;> simp_all [one, lt, lt2]
theorem map_toL (f : Value → Value) (cs : Array Value) : cs.map f = (cs.toList.map f).toArray := by
  cases cs; simp
theorem cells_mv {m : Nat → Nat} {v : Value} (h : noT v = true) : (mv m v).cells = ((cellsL v).map (mv1 m)).toArray := by
  cases v with
  | agg cs => exact map_toL (mv1 m) cs
  | tuple vs => simp [noT] at h
  | pointer a => cases a <;> simp [mv, mv2, mv1, Value.cells, cellsL]
  | slice a l c => cases a <;> simp [mv, mv2, mv1, Value.cells, cellsL]
  | _ => simp [mv, mv2, mv1, Value.cells, cellsL]
theorem lt_cells {n : Nat} {v : Value} (h : noT v = true) (hv : lt n v = true) : ∀ x ∈ cellsL v, lt1 n x = true := by
  cases v with
  | agg cs => simpa only [lt, lt2, cellsL, List.all_eq_true] using hv
  | tuple vs => simp [noT] at h
  | _ => simpa [lt, lt2, cellsL] using hv

/-! ### the small heap: the newest block first -/
structure Hp where
  n : Nat
  l : List (List Value × TypeId)
def Hp.blk? (h : Hp) (b : Nat) : Option (List Value × TypeId) := if Nat.blt b h.n = true then h.l[h.n - 1 - b]? else none
def Hp.push (h : Hp) (cs : List Value) (e : TypeId) : Hp := ⟨h.n + 1, (cs, e) :: h.l⟩
def Hp.put (h : Hp) (b : Nat) (x : List Value × TypeId) : Hp := ⟨h.n, h.l.set (h.n - 1 - b) x⟩
def Hp.cut (h : Hp) (n : Nat) : Hp := ⟨n, h.l.drop (h.n - n)⟩

structure Emb (m : Nat → Nat) (B : Nat) (h : Hp) (w : World) : Prop where
  len : h.l.length = h.n
  lies : ∀ b x, h.blk? b = some x → w.heap[m b]? = some (.cells (x.1.map (mv1 m)).toArray x.2 (0, 0))
  low : ∀ b, b < h.n → B ≤ m b
  inj : ∀ b b', b < h.n → b' < h.n → m b = m b' → b = b'
  wf : ∀ b x, h.blk? b = some x → ∀ v ∈ x.1, lt1 h.n v = true
  base : B ≤ w.heap.size
  ice : ∀ k, B ≤ k → k < w.heap.size → ∃ c e, w.heap[k]? = some (.cells c e (0, 0))

theorem Hp.blk_lt {h : Hp} {b : Nat} {x : List Value × TypeId} (hb : h.blk? b = some x) : b < h.n := by
  unfold Hp.blk? at hb
  split at hb
  · rename_i hlt; exact blt_iff.1 hlt
  · cases hb

theorem Emb.here {m : Nat → Nat} {B : Nat} {h : Hp} {w : World} (E : Emb m B h w) {b : Nat} (hb : b < h.n) : m b < w.heap.size := by
  have hl : h.n - 1 - b < h.l.length := by rw [E.len]; omega
  have : h.blk? b = some (h.l[h.n - 1 - b]) := by
    unfold Hp.blk?
    rw [if_pos (blt_iff.2 hb), List.getElem?_eq_getElem hl]
  exact (Array.getElem?_eq_some_iff.1 (E.lies b _ this)).1

def upd (m : Nat → Nat) (n k : Nat) : Nat → Nat := fun b => if b = n then k else m b
theorem upd_agree (m : Nat → Nat) (n k : Nat) : Agree m (upd m n k) n := fun b hb => by simp [upd, Nat.ne_of_lt hb]

theorem map_agree {m m' : Nat → Nat} {n : Nat} (h : Agree m m' n) {l : List Value} (hl : ∀ v ∈ l, lt1 n v = true) : l.map (mv1 m') = l.map (mv1 m) :=
  List.map_congr_left fun v hv => mv1_agree h (hl v hv)

theorem Hp.blk_push {h : Hp} {cs : List Value} {e : TypeId} {b : Nat} (_hl : h.l.length = h.n) :
    (h.push cs e).blk? b = if b = h.n then some (cs, e) else h.blk? b := by
  unfold Hp.blk? Hp.push
  simp only [blt_iff]
  by_cases h1 : b = h.n
  · subst h1; simp
  · by_cases h2 : b < h.n
    · have e1 : h.n + 1 - 1 - b = (h.n - 1 - b) + 1 := by omega
      rw [if_pos (by omega : b < h.n + 1), if_neg h1, if_pos h2, e1, List.getElem?_cons_succ]
    · rw [if_neg (by omega : ¬ b < h.n + 1), if_neg h1, if_neg h2]

theorem size_alloc' (w : World) (o : Obj) : (w.alloc o).heap.size = w.heap.size + 1 := by unfold World.alloc; exact Array.size_push _
theorem heap_alloc_at (w : World) (o : Obj) : (w.alloc o).heap[w.heap.size]? = some o := by unfold World.alloc; exact Array.getElem?_push_size
theorem heap_alloc_ne (w : World) (o : Obj) (k : Nat) (h : k ≠ w.heap.size) : (w.alloc o).heap[k]? = w.heap[k]? := by
  unfold World.alloc
  show (w.heap.push o)[k]? = w.heap[k]?
  rw [Array.getElem?_push, if_neg h]
theorem Emb.push {m : Nat → Nat} {B : Nat} {h : Hp} {w : World} (E : Emb m B h w) (cs : List Value) (e : TypeId) (hcs : ∀ v ∈ cs, lt1 h.n v = true) :
    Emb (upd m h.n w.heap.size) B (h.push cs e) (w.alloc (.cells (cs.map (mv1 m)).toArray e (0, 0))) where
  len := by simp [Hp.push, E.len]
  lies := by
    intro b x hb
    rw [Hp.blk_push E.len] at hb
    by_cases h1 : b = h.n
    · rw [if_pos h1] at hb
      cases hb
      subst h1
      have e1 : upd m h.n w.heap.size h.n = w.heap.size := by simp [upd]
      rw [e1, heap_alloc_at, map_agree (upd_agree m h.n w.heap.size) hcs]
    · rw [if_neg h1] at hb
      have hlt := Hp.blk_lt hb
      have h2 := E.lies b x hb
      have h3 := E.here hlt
      have e1 : upd m h.n w.heap.size b = m b := by simp [upd, h1]
      rw [e1, heap_alloc_ne _ _ _ (Nat.ne_of_lt h3), h2, map_agree (upd_agree m h.n w.heap.size) (E.wf b x hb)]
  low := by
    intro b hb
    simp only [Hp.push] at hb
    unfold upd
    split
    · exact E.base
    · exact E.low b (by omega)
  inj := by
    intro b b' hb hb' heq
    simp only [Hp.push] at hb hb'
    unfold upd at heq
    split at heq <;> split at heq
    · omega
    · rename_i h1 h2
      have := E.here (b := b') (by omega)
      omega
    · rename_i h1 h2
      have := E.here (b := b) (by omega)
      omega
    · exact E.inj b b' (by omega) (by omega) heq
  wf := by
    intro b x hb v hv
    rw [Hp.blk_push E.len] at hb
    simp only [Hp.push]
    by_cases h1 : b = h.n
    · rw [if_pos h1] at hb
      cases hb
      exact lt1_mono (Nat.le_succ _) (hcs v hv)
    · rw [if_neg h1] at hb
      exact lt1_mono (Nat.le_succ _) (E.wf b x hb v hv)
  base := by have := E.base; rw [size_alloc']; omega
  ice := by
    intro k hk hk'
    rw [size_alloc'] at hk'
    by_cases h1 : k = w.heap.size
    · subst h1; exact ⟨_, _, heap_alloc_at _ _⟩
    · obtain ⟨c, e', h2⟩ := E.ice k hk (by omega)
      exact ⟨c, e', by rw [heap_alloc_ne _ _ _ h1, h2]⟩

theorem setRow_other (w : World) (g k : Nat) (cs : Array Value) (h : g ≠ k) : (w.setRow g cs).heap[k]? = w.heap[k]? := by
  simp [World.setRow, Array.getElem?_modify, h]
theorem setRow_size (w : World) (g : Nat) (cs : Array Value) : (w.setRow g cs).heap.size = w.heap.size := by simp [World.setRow]

theorem Hp.blk_put {h : Hp} {b c : Nat} {x : List Value × TypeId} (hl : h.l.length = h.n) (hb : b < h.n) :
    (h.put b x).blk? c = if c = b then some x else h.blk? c := by
  unfold Hp.blk? Hp.put
  simp only [blt_iff]
  by_cases h1 : c = b
  · subst h1
    rw [if_pos hb, if_pos rfl, List.getElem?_set]
    simp
    omega
  · rw [if_neg h1]
    by_cases h2 : c < h.n
    · rw [if_pos h2, List.getElem?_set_ne (by omega), if_pos h2]
    · rw [if_neg h2, if_neg h2]

theorem Emb.put {m : Nat → Nat} {B : Nat} {h : Hp} {w : World} (E : Emb m B h w) {b : Nat} {x : List Value × TypeId} (hb : h.blk? b = some x) (cs : List Value)
    (hcs : ∀ v ∈ cs, lt1 h.n v = true) : Emb m B (h.put b (cs, x.2)) (w.setRow (m b) (cs.map (mv1 m)).toArray) where
  len := by simp [Hp.put, E.len]
  lies := by
    intro c y hc
    rw [Hp.blk_put E.len (Hp.blk_lt hb)] at hc
    by_cases h1 : c = b
    · rw [if_pos h1] at hc
      cases hc
      rw [h1]
      exact setRow_heap w _ _ _ _ _ (E.lies b x hb)
    · rw [if_neg h1] at hc
      rw [setRow_other _ _ _ _ (fun heq => h1 (E.inj _ _ (Hp.blk_lt hc) (Hp.blk_lt hb) heq.symm))]
      exact E.lies c y hc
  low := E.low
  inj := E.inj
  wf := by
    intro c y hc v hv
    rw [Hp.blk_put E.len (Hp.blk_lt hb)] at hc
    by_cases h1 : c = b
    · rw [if_pos h1] at hc; cases hc; exact hcs v hv
    · rw [if_neg h1] at hc; exact E.wf c y hc v hv
  base := by rw [setRow_size]; exact E.base
  ice := by
    intro k hk hk'
    rw [setRow_size] at hk'
    by_cases h1 : m b = k
    · subst h1; exact ⟨_, _, setRow_heap w _ _ _ _ _ (E.lies b x hb)⟩
    · rw [setRow_other _ _ _ _ h1]; exact E.ice k hk hk'

theorem below_setRow {B : Nat} {a w : World} (h : Below B a w) {g : Nat} (hg : B ≤ g) (cs : Array Value) : Below B a (w.setRow g cs) :=
  ⟨h.os, h.tape, h.output, by rw [setRow_size]; exact h.size, fun k hk => by rw [setRow_other _ _ _ _ (by omega)]; exact h.block k hk⟩

theorem Hp.blk_cut {h : Hp} {n b : Nat} (hn : n ≤ h.n) (hb : b < n) : (h.cut n).blk? b = h.blk? b := by
  unfold Hp.blk? Hp.cut
  simp only [blt_iff]
  rw [if_pos hb, if_pos (by omega), List.getElem?_drop]
  congr 1
  omega
def Hp.tight (h : Hp) : Bool := h.l.all fun x => x.1.all (lt1 h.n)
theorem Hp.tight_spec {h : Hp} (ht : h.tight = true) {b : Nat} {x : List Value × TypeId} (hb : h.blk? b = some x) : ∀ v ∈ x.1, lt1 h.n v = true := by
  unfold Hp.tight at ht
  simp only [List.all_eq_true] at ht
  unfold Hp.blk? at hb
  split at hb
  · exact ht x (List.mem_of_getElem? hb)
  · cases hb

/-- Behind a call: what it made is let go. -/
theorem Emb.cut {m m' : Nat → Nat} {B : Nat} {h : Hp} {w : World} {n : Nat} (E : Emb m' B h w) (hm : Agree m m' n) (hn : n ≤ h.n) (ht : (h.cut n).tight = true) : Emb m B (h.cut n) w where
  len := by simp [Hp.cut, E.len]; omega
  lies := by
    intro b x hb
    have hlt : b < n := Hp.blk_lt hb
    have hwf := Hp.tight_spec ht hb
    rw [Hp.blk_cut hn hlt] at hb
    rw [← hm b hlt, E.lies b x hb]
    rw [map_agree (m := m) (m' := m') hm hwf]
  low := fun b hb => by rw [← hm b hb]; exact E.low b (Nat.lt_of_lt_of_le hb hn)
  inj := fun b b' hb hb' heq => by
    rw [← hm b hb, ← hm b' hb'] at heq
    exact E.inj b b' (Nat.lt_of_lt_of_le hb hn) (Nat.lt_of_lt_of_le hb' hn) heq
  wf := fun b x hb => Hp.tight_spec ht hb
  base := E.base
  ice := E.ice
end Go.KRun
