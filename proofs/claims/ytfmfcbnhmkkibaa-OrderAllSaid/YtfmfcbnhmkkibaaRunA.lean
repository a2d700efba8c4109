/-
  A RUN THAT THE KERNEL RECKONS, I: a small heap of its own (blocks numbered from 0), how it lies in a world (each small block at a block of the world's, by an injective map), and single operations on it.
  What is proved here is of every program: an operation that the reckoner carries out on the small heap is carried out by the model's run on every world in which the small heap lies.
-/
import Derived.Orders
import Derived.Scope
import Derived.Below
import Derived.Laws.CopyRow
import Derived.Laws.Rows
import Derived.LoopN
import Derived.KernelRfl
namespace Go.KRun
open Go.RowKit

/-! ### values moved from the small heap into a world -/
/-- a value of the world's own, of which nothing is known: '.iface dead v' stands for v -/
def dead : Nat := 4611686018427387904
/-- where a small block lies in the world, and how many cells it has there -/
abbrev Mp := Nat → Nat × Nat
def mvA (m : Mp) (a : Addr) : Addr := { a with block := (m a.block).1 }
/-- a capacity of which nothing is known but that it is the whole block's: 'dead + k', k the cells of an element -/
def cap (n c : Nat) : Nat := if Nat.ble dead c = true then n / (c - dead) else c
def mv1 (m : Mp) : Value → Value
  | .pointer (some a) => .pointer (some (mvA m a))
  | .slice (some a) l c => .slice (some (mvA m a)) l (cap (m a.block).2 c)
  | .iface t v => if Nat.beq t dead = true then v else .iface t v
  | v => v
def mv2 (m : Mp) : Value → Value
  | .agg cs => .agg (cs.map (mv1 m))
  | v => mv1 m v
def mv (m : Mp) : Value → Value
  | .tuple vs => .tuple (vs.map (mv2 m))
  | v => mv2 m v

def lt1 (n : Nat) : Value → Bool
  | .pointer (some a) => Nat.blt a.block n
  | .slice (some a) _ _ => Nat.blt a.block n
  | .iface t _ => if Nat.beq t dead = true then Nat.blt 0 n else true
  | _ => true
def lt2 (n : Nat) : Value → Bool
  | .agg cs => cs.toList.all (lt1 n)
  | v => lt1 n v
def lt (n : Nat) : Value → Bool
  | .tuple vs => vs.toList.all (lt2 n)
  | v => lt2 n v
/-- one cell's value -/
def one : Value → Bool
  | .agg _ | .tuple _ => false
  | .iface t _ => !(Nat.beq t dead)
  | _ => true
def noT : Value → Bool
  | .tuple _ => false
  | .iface t _ => !(Nat.beq t dead)
  | _ => true
def cellsL : Value → List Value
  | .agg cs => cs.toList
  | v => [v]

def Agree (m m' : Mp) (n : Nat) : Prop := ∀ b, b < n → m' b = m b
theorem Agree.refl (m : Mp) (n : Nat) : Agree m m n := fun _ _ => rfl
theorem Agree.trans {m m' m'' : Mp} {n n' : Nat} (h : Agree m m' n) (h' : Agree m' m'' n') (hn : n ≤ n') : Agree m m'' n :=
  fun b hb => (h' b (by omega)).trans (h b hb)
theorem Agree.mono {m m' : Mp} {n n' : Nat} (h : Agree m m' n') (hn : n ≤ n') : Agree m m' n := fun b hb => h b (by omega)

theorem blt_iff {a b : Nat} : Nat.blt a b = true ↔ a < b := by simp [Nat.blt_eq]

theorem mv1_agree {m m' : Mp} {n : Nat} (h : Agree m m' n) {v : Value} (hv : lt1 n v = true) : mv1 m' v = mv1 m v := by
  unfold mv1
  split
  · simp only [lt1, blt_iff] at hv; simp [mvA, h _ hv]
  · simp only [lt1, blt_iff] at hv; simp [mvA, h _ hv]
  · rfl
  · rfl
theorem mv2_agree {m m' : Mp} {n : Nat} (h : Agree m m' n) {v : Value} (hv : lt2 n v = true) : mv2 m' v = mv2 m v := by
  unfold mv2
  split
  · rename_i cs
    simp only [lt2, List.all_eq_true] at hv
    congr 1
    exact Array.map_congr_left fun x hx => mv1_agree h (hv x (by simpa using hx))
  · rename_i hna
    refine mv1_agree h ?_
    unfold lt2 at hv
    split at hv
    · rename_i cs; exact absurd rfl (hna cs)
    · exact hv
theorem mv_agree {m m' : Mp} {n : Nat} (h : Agree m m' n) {v : Value} (hv : lt n v = true) : mv m' v = mv m v := by
  unfold mv
  split
  · rename_i vs
    simp only [lt, List.all_eq_true] at hv
    congr 1
    exact Array.map_congr_left fun x hx => mv2_agree h (hv x (by simpa using hx))
  · rename_i hna
    refine mv2_agree h ?_
    unfold lt at hv
    split at hv
    · rename_i cs; exact absurd rfl (hna cs)
    · exact hv
theorem mv1_still {m : Mp} {v : Value} (hv : lt1 0 v = true) : mv1 m v = v := by
  unfold mv1
  split
  · simp [lt1] at hv
  · simp [lt1] at hv
  · rename_i t u
    split
    · rename_i h; simp [lt1, h] at hv
    · rfl
  · rfl
theorem mv2_still {m : Mp} {v : Value} (hv : lt2 0 v = true) : mv2 m v = v := by
  unfold mv2
  split
  · rename_i cs
    simp only [lt2, List.all_eq_true] at hv
    congr 1
    have : cs.map (mv1 m) = cs.map id := Array.map_congr_left fun x hx => mv1_still (hv x (by simpa using hx))
    rw [this, Array.map_id]
  · rename_i hna
    refine mv1_still ?_
    unfold lt2 at hv
    split at hv
    · rename_i cs; exact absurd rfl (hna cs)
    · exact hv
theorem mv_still {m : Mp} {v : Value} (hv : lt 0 v = true) : mv m v = v := by
  unfold mv
  split
  · rename_i cs
    simp only [lt, List.all_eq_true] at hv
    congr 1
    have : cs.map (mv2 m) = cs.map id := Array.map_congr_left fun x hx => mv2_still (hv x (by simpa using hx))
    rw [this, Array.map_id]
  · rename_i hna
    refine mv2_still ?_
    unfold lt at hv
    split at hv
    · rename_i cs; exact absurd rfl (hna cs)
    · exact hv
theorem lt1_mono {n n' : Nat} (hn : n ≤ n') {v : Value} (hv : lt1 n v = true) : lt1 n' v = true := by
  unfold lt1 at *
  split at hv
  · simp only [blt_iff] at *; omega
  · simp only [blt_iff] at *; omega
  · split at hv
    · rename_i h; simp only [h, if_true, blt_iff] at *; omega
    · rename_i h; simp [h]
  · rfl
theorem lt2_mono {n n' : Nat} (hn : n ≤ n') {v : Value} (hv : lt2 n v = true) : lt2 n' v = true := by
  unfold lt2 at *
  split at hv
  · simp only [List.all_eq_true] at *; exact fun x hx => lt1_mono hn (hv x hx)
  · exact lt1_mono hn hv
theorem lt_mono {n n' : Nat} (hn : n ≤ n') {v : Value} (hv : lt n v = true) : lt n' v = true := by
  unfold lt at *
  split at hv
  · simp only [List.all_eq_true] at *; exact fun x hx => lt2_mono hn (hv x hx)
  · exact lt2_mono hn hv
theorem mv_undef (m : Mp) : mv m undef = undef := by simp [mv, undef]
theorem mv_one {m : Mp} {v : Value} (h : one v = true) : mv m v = mv1 m v := by
  cases v <;> simp_all [one, mv, mv2]
theorem lt_one {n : Nat} {v : Value} (h : one v = true) : lt n v = lt1 n v := by
  cases v <;> simp_all [one, lt, lt2]
theorem map_toL (f : Value → Value) (cs : Array Value) : cs.map f = (cs.toList.map f).toArray := by
  cases cs; simp
theorem cells_mv {m : Mp} {v : Value} (h : noT v = true) : (mv m v).cells = ((cellsL v).map (mv1 m)).toArray := by
  cases v with
  | agg cs => exact map_toL (mv1 m) cs
  | tuple vs => simp [noT] at h
  | pointer a => cases a <;> simp [mv, mv2, mv1, Value.cells, cellsL]
  | slice a l c => cases a <;> simp [mv, mv2, mv1, Value.cells, cellsL]
  | iface t u =>
    simp only [noT, Bool.not_eq_true'] at h
    simp [mv, mv2, mv1, Value.cells, cellsL, h]
  | _ => simp [mv, mv2, mv1, Value.cells, cellsL]
theorem lt_cells {n : Nat} {v : Value} (h : noT v = true) (hv : lt n v = true) : ∀ x ∈ cellsL v, lt1 n x = true := by
  cases v with
  | agg cs => simpa only [lt, lt2, cellsL, List.all_eq_true] using hv
  | tuple vs => simp [noT] at h
  | _ => simpa [lt, lt2, cellsL] using hv

/-- a cell that holds no address -/
def still : Value → Bool
  | .pointer (some _) => false
  | .slice (some _) _ _ => false
  | _ => true
theorem still_mv {m m' : Mp} {v : Value} (h : still v = true) : mv1 m v = mv1 m' v := by
  cases v with
  | pointer a => cases a <;> simp_all [still, mv1]
  | slice a l c => cases a <;> simp_all [still, mv1]
  | _ => rfl
theorem still_lt {n : Nat} (hn : 0 < n) {v : Value} (h : still v = true) : lt1 n v = true := by
  cases v with
  | pointer a => cases a <;> simp_all [still, lt1]
  | slice a l c => cases a <;> simp_all [still, lt1]
  | iface t u =>
    simp only [lt1]
    split
    · exact blt_iff.2 hn
    · rfl
  | _ => rfl
theorem still_map {m m' : Mp} {l : List Value} (h : ∀ v ∈ l, still v = true) : l.map (mv1 m) = l.map (mv1 m') := List.map_congr_left fun v hv => still_mv (h v hv)

/-! ### the small heap: the newest block first -/
structure Hp where
  n : Nat
  l : List (List Value × TypeId)
def Hp.blk? (h : Hp) (b : Nat) : Option (List Value × TypeId) := if Nat.blt b h.n = true then h.l[h.n - 1 - b]? else none
def Hp.push (h : Hp) (cs : List Value) (e : TypeId) : Hp := ⟨h.n + 1, (cs, e) :: h.l⟩
def Hp.put (h : Hp) (b : Nat) (x : List Value × TypeId) : Hp := ⟨h.n, h.l.set (h.n - 1 - b) x⟩
def Hp.cut (h : Hp) (n : Nat) : Hp := ⟨n, h.l.drop (h.n - n)⟩

/-- a block that is only read (it was there before): its type's number bears this mark -/
def ro (e : TypeId) : Bool := Nat.ble dead e
/-- a block of which nothing is known any more -/
def tomb (e : TypeId) : Bool := Nat.ble (2 * dead) e
theorem tomb_ro {e : TypeId} (h : ro e = false) : tomb e = false := by
  unfold tomb ro at *
  cases h1 : Nat.ble (2 * dead) e
  · rfl
  · have h2 := Nat.le_of_ble_eq_true h1
    have h3 : Nat.ble dead e = true := Nat.ble_eq_true_of_le (by omega)
    rw [h3] at h
    cases h
/-- a world's block that is known by its own number: '3 * dead + number'; it is never written, and no piece of code reaches it by the small memory -/
def ab (e : TypeId) : Bool := Nat.ble (3 * dead) e
theorem ab_ro {e : TypeId} (h : ro e = false) : ab e = false := by
  unfold ab ro at *
  cases h1 : Nat.ble (3 * dead) e
  · rfl
  · have h2 := Nat.le_of_ble_eq_true h1
    have h3 : Nat.ble dead e = true := Nat.ble_eq_true_of_le (by unfold dead at *; omega)
    rw [h3] at h
    cases h
def rt (e : TypeId) : TypeId := if Nat.ble dead e = true then e - dead else e
theorem rt_own {e : TypeId} (h : ro e = false) : rt e = e := by unfold rt; unfold ro at h; simp [h]
/-- what is known of a world's block: its first cells -/
def lie (w : World) (k : Nat × Nat) (cs : List Value) (e : TypeId) : Prop := ∃ r, ∃ z : TypeId × Nat × Nat, cs.length + r.length = k.2 ∧ w.heap[k.1]? = some (.cells (cs ++ r).toArray z.1 z.2) ∧ (ro e = false → z.1 = rt e ∧ z.2 = (0, 0))
theorem lie.congr {w w' : World} {k : Nat × Nat} {cs : List Value} {e : TypeId} (h : w'.heap[k.1]? = w.heap[k.1]?) (hl : lie w k cs e) : lie w' k cs e := by
  obtain ⟨r, z, h0, h1, h2⟩ := hl
  exact ⟨r, z, h0, by rw [h, h1], h2⟩
theorem lie.lt {w : World} {k : Nat × Nat} {cs : List Value} {e : TypeId} (hl : lie w k cs e) : k.1 < w.heap.size := by
  obtain ⟨r, z, _, h1, _⟩ := hl
  exact (Array.getElem?_eq_some_iff.1 h1).1
/-- what is there is not frozen -/
def iced (o : Option Obj) : Prop := ∀ c e z, o = some (.cells c e z) → z = (0, 0)
theorem iced_cells {o : Option Obj} {c : Array Value} {e : TypeId} (h : o = some (.cells c e (0, 0))) : iced o := by
  intro c' e' z hz
  rw [h] at hz
  cases hz
  rfl
structure Emb (m : Mp) (B : Nat) (h : Hp) (w : World) : Prop where
  len : h.l.length = h.n
  lies : ∀ b x, h.blk? b = some x → tomb x.2 = false → lie w (m b) (x.1.map (mv1 m)) x.2
  low : ∀ b x, h.blk? b = some x → ro x.2 = false → B ≤ (m b).1
  ros : ∀ b x, h.blk? b = some x → tomb x.2 = false → ro x.2 = true → (m b).1 < B
  inj : ∀ b b' x x', h.blk? b = some x → h.blk? b' = some x' → ro x.2 = false → ro x'.2 = false → (m b).1 = (m b').1 → b = b'
  wf : ∀ b x, h.blk? b = some x → ∀ v ∈ x.1, lt1 h.n v = true
  base : B ≤ w.heap.size
  ice : ∀ k, B ≤ k → k < w.heap.size → iced w.heap[k]?
  abs : ∀ b x, h.blk? b = some x → ab x.2 = true → x.2 - 3 * dead < B ∧ ∃ r t z, w.heap[x.2 - 3 * dead]? = some (.cells (x.1.map (mv1 m) ++ r).toArray t z)

theorem Hp.blk_lt {h : Hp} {b : Nat} {x : List Value × TypeId} (hb : h.blk? b = some x) : b < h.n := by
  unfold Hp.blk? at hb
  split at hb
  · rename_i hlt; exact blt_iff.1 hlt
  · cases hb

theorem Emb.blk {m : Mp} {B : Nat} {h : Hp} {w : World} (E : Emb m B h w) {b : Nat} (hb : b < h.n) : ∃ x, h.blk? b = some x := by
  have hl : h.n - 1 - b < h.l.length := by rw [E.len]; omega
  exact ⟨h.l[h.n - 1 - b], by unfold Hp.blk?; rw [if_pos (blt_iff.2 hb), List.getElem?_eq_getElem hl]⟩
theorem Emb.here {m : Mp} {B : Nat} {h : Hp} {w : World} (E : Emb m B h w) {b : Nat} {x : List Value × TypeId} (hb : h.blk? b = some x) (hx : tomb x.2 = false) : (m b).1 < w.heap.size := (E.lies b x hb hx).lt

/-- nothing lies yet -/
theorem Emb.none (w : World) : Emb (fun b => (b, 0)) w.heap.size ⟨0, []⟩ w :=
  ⟨rfl, fun b x hb => absurd (Hp.blk_lt hb) (Nat.not_lt_zero _), fun b x hb => absurd (Hp.blk_lt hb) (Nat.not_lt_zero _), fun b x hb => absurd (Hp.blk_lt hb) (Nat.not_lt_zero _), fun b b' x x' hb => absurd (Hp.blk_lt hb) (Nat.not_lt_zero _), fun b x hb => absurd (Hp.blk_lt hb) (Nat.not_lt_zero _), Nat.le_refl _, fun k h1 h2 => by omega, fun b x hb => absurd (Hp.blk_lt hb) (Nat.not_lt_zero _)⟩
def upd (m : Mp) (n : Nat) (k : Nat × Nat) : Mp := fun b => if b = n then k else m b
theorem upd_agree (m : Mp) (n : Nat) (k : Nat × Nat) : Agree m (upd m n k) n := fun b hb => by simp [upd, Nat.ne_of_lt hb]

theorem map_agree {m m' : Mp} {n : Nat} (h : Agree m m' n) {l : List Value} (hl : ∀ v ∈ l, lt1 n v = true) : l.map (mv1 m') = l.map (mv1 m) :=
  List.map_congr_left fun v hv => mv1_agree h (hl v hv)

theorem Hp.blk_push {h : Hp} {cs : List Value} {e : TypeId} {b : Nat} (_hl : h.l.length = h.n) :
    (h.push cs e).blk? b = if b = h.n then some (cs, e) else h.blk? b := by
  unfold Hp.blk? Hp.push
  simp only [blt_iff]
  by_cases h1 : b = h.n
  · subst h1; simp
  · by_cases h2 : b < h.n
    · have e1 : h.n + 1 - 1 - b = (h.n - 1 - b) + 1 := by omega
      rw [if_pos (by omega : b < h.n + 1), if_neg h1, if_pos h2, e1, List.getElem?_cons_succ]
    · rw [if_neg (by omega : ¬ b < h.n + 1), if_neg h1, if_neg h2]

theorem size_alloc' (w : World) (o : Obj) : (w.alloc o).heap.size = w.heap.size + 1 := by unfold World.alloc; exact Array.size_push _
theorem heap_alloc_at (w : World) (o : Obj) : (w.alloc o).heap[w.heap.size]? = some o := by unfold World.alloc; exact Array.getElem?_push_size
theorem heap_alloc_ne (w : World) (o : Obj) (k : Nat) (h : k ≠ w.heap.size) : (w.alloc o).heap[k]? = w.heap[k]? := by
  unfold World.alloc
  show (w.heap.push o)[k]? = w.heap[k]?
  rw [Array.getElem?_push, if_neg h]
theorem Emb.push {m : Mp} {B : Nat} {h : Hp} {w : World} (E : Emb m B h w) (cs : List Value) (r : List Value) (e : TypeId) (he : ro e = false) (hcs : ∀ v ∈ cs, lt1 h.n v = true) {k : Nat} (hk : cs.length + r.length = k) :
    Emb (upd m h.n (w.heap.size, k)) B (h.push cs e) (w.alloc (.cells (cs.map (mv1 m) ++ r).toArray e (0, 0))) where
  len := by simp [Hp.push, E.len]
  lies := by
    intro b x hb hx
    rw [Hp.blk_push E.len] at hb
    by_cases h1 : b = h.n
    · rw [if_pos h1] at hb
      cases hb
      subst h1
      have e1 : upd m h.n (w.heap.size, k) h.n = (w.heap.size, k) := by simp [upd]
      have e2 : rt e = e := by unfold rt; unfold ro at he; simp [he]
      rw [e1, map_agree (upd_agree m h.n (w.heap.size, k)) hcs]
      exact ⟨r, (e, 0, 0), by simpa using hk, by rw [heap_alloc_at], fun _ => ⟨e2.symm, rfl⟩⟩
    · rw [if_neg h1] at hb
      have h2 := E.lies b x hb hx
      have e1 : upd m h.n (w.heap.size, k) b = m b := by simp [upd, h1]
      rw [e1, map_agree (upd_agree m h.n (w.heap.size, k)) (E.wf b x hb)]
      exact h2.congr (heap_alloc_ne _ _ _ (Nat.ne_of_lt h2.lt))
  low := by
    intro b x hb hx
    rw [Hp.blk_push E.len] at hb
    unfold upd
    split at hb
    · rename_i h1; rw [if_pos h1]; exact E.base
    · rename_i h1; rw [if_neg h1]; exact E.low b x hb hx
  ros := by
    intro b x hb hx hr
    rw [Hp.blk_push E.len] at hb
    unfold upd
    split at hb
    · cases hb; rw [he] at hr; cases hr
    · rename_i h1; rw [if_neg h1]; exact E.ros b x hb hx hr
  inj := by
    intro b b' x x' hb hb' hx hx' heq
    rw [Hp.blk_push E.len] at hb hb'
    unfold upd at heq
    split at hb <;> split at hb'
    · omega
    · rename_i h1 h2
      rw [if_pos h1, if_neg h2] at heq
      have := E.here hb' (tomb_ro hx')
      omega
    · rename_i h1 h2
      rw [if_neg h1, if_pos h2] at heq
      have := E.here hb (tomb_ro hx)
      omega
    · rename_i h1 h2
      rw [if_neg h1, if_neg h2] at heq
      exact E.inj b b' x x' hb hb' hx hx' heq
  wf := by
    intro b x hb v hv
    rw [Hp.blk_push E.len] at hb
    simp only [Hp.push]
    by_cases h1 : b = h.n
    · rw [if_pos h1] at hb
      cases hb
      exact lt1_mono (Nat.le_succ _) (hcs v hv)
    · rw [if_neg h1] at hb
      exact lt1_mono (Nat.le_succ _) (E.wf b x hb v hv)
  base := by have := E.base; rw [size_alloc']; omega
  ice := by
    intro k hk hk'
    rw [size_alloc'] at hk'
    by_cases h1 : k = w.heap.size
    · subst h1; exact iced_cells (heap_alloc_at _ _)
    · rw [heap_alloc_ne _ _ _ h1]; exact E.ice k hk (by omega)
  abs := by
    intro b x hb hx
    rw [Hp.blk_push E.len] at hb
    split at hb
    · cases hb
      rw [ab_ro he] at hx
      cases hx
    · obtain ⟨k1, r', t, z, k2⟩ := E.abs b x hb hx
      have hB := E.base
      have hne : x.2 - 3 * dead ≠ w.heap.size := Nat.ne_of_lt (Nat.lt_of_lt_of_le k1 hB)
      refine ⟨k1, r', t, z, ?_⟩
      rw [map_agree (upd_agree m h.n _) (E.wf b x hb), heap_alloc_ne _ _ _ hne, k2]

theorem setRow_other (w : World) (g k : Nat) (cs : Array Value) (h : g ≠ k) : (w.setRow g cs).heap[k]? = w.heap[k]? := by
  simp [World.setRow, Array.getElem?_modify, h]
theorem setRow_size (w : World) (g : Nat) (cs : Array Value) : (w.setRow g cs).heap.size = w.heap.size := by simp [World.setRow]

theorem Hp.blk_put {h : Hp} {b c : Nat} {x : List Value × TypeId} (hl : h.l.length = h.n) (hb : b < h.n) :
    (h.put b x).blk? c = if c = b then some x else h.blk? c := by
  unfold Hp.blk? Hp.put
  simp only [blt_iff]
  by_cases h1 : c = b
  · subst h1
    rw [if_pos hb, if_pos rfl, List.getElem?_set]
    simp
    omega
  · rw [if_neg h1]
    by_cases h2 : c < h.n
    · rw [if_pos h2, List.getElem?_set_ne (by omega), if_pos h2]
    · rw [if_neg h2, if_neg h2]

theorem Emb.put {m : Mp} {B : Nat} {h : Hp} {w : World} (E : Emb m B h w) {b : Nat} {x : List Value × TypeId} (hb : h.blk? b = some x) (hx : ro x.2 = false) {r0 : Array Value} (hl : w.heap[(m b).1]? = some (.cells r0 (rt x.2) (0, 0))) (cs r : List Value)
    (hcs : ∀ v ∈ cs, lt1 h.n v = true) (hk : cs.length + r.length = (m b).2) : Emb m B (h.put b (cs, x.2)) (w.setRow (m b).1 (cs.map (mv1 m) ++ r).toArray) where
  len := by simp [Hp.put, E.len]
  lies := by
    intro c y hc hy
    rw [Hp.blk_put E.len (Hp.blk_lt hb)] at hc
    by_cases h1 : c = b
    · rw [if_pos h1] at hc
      cases hc
      rw [h1]
      exact ⟨r, (rt x.2, 0, 0), by simpa using hk, setRow_heap w _ _ _ _ _ hl, fun _ => ⟨rfl, rfl⟩⟩
    · rw [if_neg h1] at hc
      refine (E.lies c y hc hy).congr (setRow_other _ _ _ _ fun heq => ?_)
      cases hr : ro y.2
      · exact h1 (E.inj _ _ _ _ hc hb hr hx heq.symm)
      · have k1 := E.ros c y hc hy hr
        have k2 := E.low b x hb hx
        omega
  low := by
    intro c y hc hy
    rw [Hp.blk_put E.len (Hp.blk_lt hb)] at hc
    split at hc
    · rename_i h1; subst h1; exact E.low _ x hb hx
    · exact E.low c y hc hy
  ros := by
    intro c y hc hy hr
    rw [Hp.blk_put E.len (Hp.blk_lt hb)] at hc
    split at hc
    · cases hc; rw [hx] at hr; cases hr
    · exact E.ros c y hc hy hr
  inj := by
    have back : ∀ c y, (h.put b (cs, x.2)).blk? c = some y → ro y.2 = false → ∃ y', h.blk? c = some y' ∧ ro y'.2 = false := by
      intro c y hc hy
      rw [Hp.blk_put E.len (Hp.blk_lt hb)] at hc
      split at hc
      · rename_i h1; subst h1; exact ⟨x, hb, hx⟩
      · exact ⟨y, hc, hy⟩
    intro c c' y y' hc hc' hy hy' heq
    obtain ⟨z, hz, k⟩ := back c y hc hy
    obtain ⟨z', hz', k'⟩ := back c' y' hc' hy'
    exact E.inj c c' z z' hz hz' k k' heq
  wf := by
    intro c y hc v hv
    rw [Hp.blk_put E.len (Hp.blk_lt hb)] at hc
    by_cases h1 : c = b
    · rw [if_pos h1] at hc; cases hc; exact hcs v hv
    · rw [if_neg h1] at hc; exact E.wf c y hc v hv
  base := by rw [setRow_size]; exact E.base
  ice := by
    intro k hk hk'
    rw [setRow_size] at hk'
    by_cases h1 : (m b).1 = k
    · subst h1; exact iced_cells (setRow_heap w _ _ _ _ _ hl)
    · rw [setRow_other _ _ _ _ h1]; exact E.ice k hk hk'
  abs := by
    intro c y hc hy
    rw [Hp.blk_put E.len (Hp.blk_lt hb)] at hc
    split at hc
    · cases hc
      rw [ab_ro hx] at hy
      cases hy
    · obtain ⟨k1, r', t, z, k2⟩ := E.abs c y hc hy
      have hB := E.low b x hb hx
      have hne : (m b).1 ≠ y.2 - 3 * dead := Nat.ne_of_gt (Nat.lt_of_lt_of_le k1 hB)
      exact ⟨k1, r', t, z, by rw [setRow_other _ _ _ _ hne, k2]⟩
/-- a block is let be: nothing is known of it from now on -/
theorem Emb.bury {m : Mp} {B : Nat} {h : Hp} {w : World} (E : Emb m B h w) {b : Nat} (hb : b < h.n) : Emb m B (h.put b ([], 2 * dead)) w where
  len := by simp [Hp.put, E.len]
  lies := by
    intro c y hc hy
    rw [Hp.blk_put E.len hb] at hc
    split at hc
    · cases hc; cases hy
    · exact E.lies c y hc hy
  low := by
    intro c y hc hy
    rw [Hp.blk_put E.len hb] at hc
    split at hc
    · cases hc; cases hy
    · exact E.low c y hc hy
  ros := by
    intro c y hc hy hr
    rw [Hp.blk_put E.len hb] at hc
    split at hc
    · cases hc; cases hy
    · exact E.ros c y hc hy hr
  inj := by
    have back : ∀ c y, (h.put b ([], 2 * dead)).blk? c = some y → ro y.2 = false → h.blk? c = some y := by
      intro c y hc hy
      rw [Hp.blk_put E.len hb] at hc
      split at hc
      · cases hc; cases hy
      · exact hc
    intro c c' y y' hc hc' hy hy' heq
    exact E.inj c c' y y' (back c y hc hy) (back c' y' hc' hy') hy hy' heq
  wf := by
    intro c y hc v hv
    rw [Hp.blk_put E.len hb] at hc
    split at hc
    · cases hc; cases hv
    · exact E.wf c y hc v hv
  base := E.base
  ice := E.ice
  abs := by
    intro c y hc hy
    rw [Hp.blk_put E.len hb] at hc
    split at hc
    · cases hc; cases hy
    · exact E.abs c y hc hy
/-- a block that is there and is no small one becomes a small one -/
theorem Emb.adopt {m : Mp} {B : Nat} {h : Hp} {w : World} (E : Emb m B h w) (cs : List Value) (e : TypeId) (he : ro e = false) (hcs : ∀ v ∈ cs, lt1 h.n v = true) {k : Nat × Nat} (hk : lie w k (cs.map (mv1 m)) e) (hB : B ≤ k.1)
    (hf : ∀ b x, h.blk? b = some x → ro x.2 = false → (m b).1 ≠ k.1) : Emb (upd m h.n k) B (h.push cs e) w where
  len := by simp [Hp.push, E.len]
  lies := by
    intro b x hb hx
    rw [Hp.blk_push E.len] at hb
    by_cases h1 : b = h.n
    · rw [if_pos h1] at hb
      cases hb
      subst h1
      have e1 : upd m h.n k h.n = k := by simp [upd]
      rw [e1, map_agree (upd_agree m h.n k) hcs]
      exact hk
    · rw [if_neg h1] at hb
      have e1 : upd m h.n k b = m b := by simp [upd, h1]
      rw [e1, map_agree (upd_agree m h.n k) (E.wf b x hb)]
      exact E.lies b x hb hx
  low := by
    intro b x hb hx
    rw [Hp.blk_push E.len] at hb
    unfold upd
    split at hb
    · rename_i h1; rw [if_pos h1]; exact hB
    · rename_i h1; rw [if_neg h1]; exact E.low b x hb hx
  ros := by
    intro b x hb hx hr
    rw [Hp.blk_push E.len] at hb
    unfold upd
    split at hb
    · cases hb; rw [he] at hr; cases hr
    · rename_i h1; rw [if_neg h1]; exact E.ros b x hb hx hr
  inj := by
    intro b b' x x' hb hb' hx hx' heq
    rw [Hp.blk_push E.len] at hb hb'
    unfold upd at heq
    split at hb <;> split at hb'
    · omega
    · rename_i h1 h2
      rw [if_pos h1, if_neg h2] at heq
      exact absurd heq.symm (hf b' x' hb' hx')
    · rename_i h1 h2
      rw [if_neg h1, if_pos h2] at heq
      exact absurd heq (hf b x hb hx)
    · rename_i h1 h2
      rw [if_neg h1, if_neg h2] at heq
      exact E.inj b b' x x' hb hb' hx hx' heq
  wf := by
    intro b x hb v hv
    rw [Hp.blk_push E.len] at hb
    simp only [Hp.push]
    by_cases h1 : b = h.n
    · rw [if_pos h1] at hb
      cases hb
      exact lt1_mono (Nat.le_succ _) (hcs v hv)
    · rw [if_neg h1] at hb
      exact lt1_mono (Nat.le_succ _) (E.wf b x hb v hv)
  base := E.base
  ice := E.ice
  abs := by
    intro b x hb hx
    rw [Hp.blk_push E.len] at hb
    split at hb
    · cases hb
      rw [ab_ro he] at hx
      cases hx
    · obtain ⟨k1, r', t, z, k2⟩ := E.abs b x hb hx
      exact ⟨k1, r', t, z, by rw [map_agree (upd_agree m h.n _) (E.wf b x hb), k2]⟩

theorem below_setRow {B : Nat} {a w : World} (h : Below B a w) {g : Nat} (hg : B ≤ g) (cs : Array Value) : Below B a (w.setRow g cs) :=
  ⟨h.os, h.tape, h.output, by rw [setRow_size]; exact h.size, fun k hk => by rw [setRow_other _ _ _ _ (by omega)]; exact h.block k hk⟩

theorem Hp.blk_cut {h : Hp} {n b : Nat} (hn : n ≤ h.n) (hb : b < n) : (h.cut n).blk? b = h.blk? b := by
  unfold Hp.blk? Hp.cut
  simp only [blt_iff]
  rw [if_pos hb, if_pos (by omega), List.getElem?_drop]
  congr 1
  omega
def Hp.tight (h : Hp) : Bool := h.l.all fun x => x.1.all (lt1 h.n)
theorem Hp.tight_spec {h : Hp} (ht : h.tight = true) {b : Nat} {x : List Value × TypeId} (hb : h.blk? b = some x) : ∀ v ∈ x.1, lt1 h.n v = true := by
  unfold Hp.tight at ht
  simp only [List.all_eq_true] at ht
  unfold Hp.blk? at hb
  split at hb
  · exact ht x (List.mem_of_getElem? hb)
  · cases hb

/-- Behind a call: what it made is let go. -/
theorem Emb.cut {m m' : Mp} {B : Nat} {h : Hp} {w : World} {n : Nat} (E : Emb m' B h w) (hm : Agree m m' n) (hn : n ≤ h.n) (ht : (h.cut n).tight = true) : Emb m B (h.cut n) w where
  len := by simp [Hp.cut, E.len]; omega
  lies := by
    intro b x hb hx
    have hlt : b < n := Hp.blk_lt hb
    have hwf := Hp.tight_spec ht hb
    rw [Hp.blk_cut hn hlt] at hb
    rw [← hm b hlt, ← map_agree (m := m) (m' := m') hm hwf]
    exact E.lies b x hb hx
  low := fun b x hb hx => by
    have hlt : b < n := Hp.blk_lt hb
    rw [Hp.blk_cut hn hlt] at hb
    rw [← hm b hlt]
    exact E.low b x hb hx
  ros := fun b x hb hx hr => by
    have hlt : b < n := Hp.blk_lt hb
    rw [Hp.blk_cut hn hlt] at hb
    rw [← hm b hlt]
    exact E.ros b x hb hx hr
  inj := fun b b' x x' hb hb' hx hx' heq => by
    have hlt : b < n := Hp.blk_lt hb
    have hlt' : b' < n := Hp.blk_lt hb'
    rw [Hp.blk_cut hn hlt] at hb
    rw [Hp.blk_cut hn hlt'] at hb'
    rw [← hm b hlt, ← hm b' hlt'] at heq
    exact E.inj b b' x x' hb hb' hx hx' heq
  wf := fun b x hb => Hp.tight_spec ht hb
  base := E.base
  ice := E.ice
  abs := fun b x hb hx => by
    have hlt : b < n := Hp.blk_lt hb
    have hwf := Hp.tight_spec ht hb
    rw [Hp.blk_cut hn hlt] at hb
    rw [← map_agree (m := m) (m' := m') hm hwf]
    exact E.abs b x hb hx
end Go.KRun
