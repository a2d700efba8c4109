/-
  RunA, RunB
-/
import Derived.Orders
import Derived.Scope
import Derived.Below
import Derived.Laws.CopyRow
import Derived.Laws.Rows
import Derived.LoopN
import Derived.KernelRfl
namespace Go.KRun
open Go.RowKit
/-! ### values moved from the small heap into a world -/
/-- a value of the world's own, of which nothing is known: '.iface dead v' stands for v -/
def dead : Nat := 4611686018427387904
/-- where a small block lies in the world, and how many cells it has there -/
abbrev Mp := Nat → Nat × Nat
def mvA (m : Mp) (a : Addr) : Addr := { a with block := (m a.block).1 }
/-- a capacity of which nothing is known but that it is the whole block's: 'dead + k', k the cells of an element -/
def cap (n c : Nat) : Nat := if Nat.ble dead c = true then n / (c - dead) else c
def mv1 (m : Mp) : Value → Value
  | .pointer (some a) => .pointer (some (mvA m a))
  | .slice (some a) l c => .slice (some (mvA m a)) l (cap (m a.block).2 c)
  | .iface t v => if Nat.beq t dead = true then v else .iface t v
  | v => v
def mv2 (m : Mp) : Value → Value
  | .agg cs => .agg (cs.map (mv1 m))
  | v => mv1 m v
def mv (m : Mp) : Value → Value
  | .tuple vs => .tuple (vs.map (mv2 m))
  | v => mv2 m v
def lt1 (n : Nat) : Value → Bool
  | .pointer (some a) => Nat.blt a.block n
  | .slice (some a) _ _ => Nat.blt a.block n
  | .iface t _ => if Nat.beq t dead = true then Nat.blt 0 n else true
  | _ => true
def lt2 (n : Nat) : Value → Bool
  | .agg cs => cs.toList.all (lt1 n)
  | v => lt1 n v
def lt (n : Nat) : Value → Bool
  | .tuple vs => vs.toList.all (lt2 n)
  | v => lt2 n v
/-- one cell's value -/
def one : Value → Bool
  | .agg _ | .tuple _ => false
  | .iface t _ => !(Nat.beq t dead)
  | _ => true
def noT : Value → Bool
  | .tuple _ => false
  | .iface t _ => !(Nat.beq t dead)
  | _ => true
def cellsL : Value → List Value
  | .agg cs => cs.toList
  | v => [v]
def Agree (m m' : Mp) (n : Nat) : Prop := ∀ b, b < n → m' b = m b
theorem Agree.refl (m : Mp) (n : Nat) : Agree m m n := fun _ _ => rfl
theorem Agree.trans {m m' m'' : Mp} {n n' : Nat} (h : Agree m m' n) (h' : Agree m' m'' n') (hn : n ≤ n') : Agree m m'' n :=
  fun b hb => (h' b (by omega)).trans (h b hb)
theorem blt_iff {a b : Nat} : Nat.blt a b = true ↔ a < b := by simp [Nat.blt_eq]
theorem mv1_agree {m m' : Mp} {n : Nat} (h : Agree m m' n) {v : Value} (hv : lt1 n v = true) : mv1 m' v = mv1 m v := by
  unfold mv1
  split
  · simp only [lt1, blt_iff] at hv; simp [mvA, h _ hv]
  · simp only [lt1, blt_iff] at hv; simp [mvA, h _ hv]
  · rfl
  · rfl
theorem mv2_agree {m m' : Mp} {n : Nat} (h : Agree m m' n) {v : Value} (hv : lt2 n v = true) : mv2 m' v = mv2 m v := by
  unfold mv2
  split
  · rename_i cs
    simp only [lt2, List.all_eq_true] at hv
    congr 1
    exact Array.map_congr_left fun x hx => mv1_agree h (hv x (by simpa using hx))
  · rename_i hna
    refine mv1_agree h ?_
    unfold lt2 at hv
    split at hv
    · rename_i cs; exact absurd rfl (hna cs)
    · exact hv
theorem mv_agree {m m' : Mp} {n : Nat} (h : Agree m m' n) {v : Value} (hv : lt n v = true) : mv m' v = mv m v := by
  unfold mv
  split
  · rename_i vs
    simp only [lt, List.all_eq_true] at hv
    congr 1
    exact Array.map_congr_left fun x hx => mv2_agree h (hv x (by simpa using hx))
  · rename_i hna
    refine mv2_agree h ?_
    unfold lt at hv
    split at hv
    · rename_i cs; exact absurd rfl (hna cs)
    · exact hv
theorem mv1_still {m : Mp} {v : Value} (hv : lt1 0 v = true) : mv1 m v = v := by
  unfold mv1
  split
  · simp [lt1] at hv
  · simp [lt1] at hv
  · rename_i t u
    split
    · rename_i h; simp [lt1, h] at hv
    · rfl
  · rfl
theorem mv2_still {m : Mp} {v : Value} (hv : lt2 0 v = true) : mv2 m v = v := by
  unfold mv2
  split
  · rename_i cs
    simp only [lt2, List.all_eq_true] at hv
    congr 1
    have : cs.map (mv1 m) = cs.map id := Array.map_congr_left fun x hx => mv1_still (hv x (by simpa using hx))
    rw [this, Array.map_id]
  · rename_i hna
    refine mv1_still ?_
    unfold lt2 at hv
    split at hv
    · rename_i cs; exact absurd rfl (hna cs)
    · exact hv
theorem mv_still {m : Mp} {v : Value} (hv : lt 0 v = true) : mv m v = v := by
  unfold mv
  split
  · rename_i cs
    simp only [lt, List.all_eq_true] at hv
    congr 1
    have : cs.map (mv2 m) = cs.map id := Array.map_congr_left fun x hx => mv2_still (hv x (by simpa using hx))
    rw [this, Array.map_id]
  · rename_i hna
    refine mv2_still ?_
    unfold lt at hv
    split at hv
    · rename_i cs; exact absurd rfl (hna cs)
    · exact hv
theorem lt1_mono {n n' : Nat} (hn : n ≤ n') {v : Value} (hv : lt1 n v = true) : lt1 n' v = true := by
  unfold lt1 at *
  split at hv
  · simp only [blt_iff] at *; omega
  · simp only [blt_iff] at *; omega
  · split at hv
    · rename_i h; simp only [h, if_true, blt_iff] at *; omega
    · rename_i h; simp [h]
  · rfl
theorem lt2_mono {n n' : Nat} (hn : n ≤ n') {v : Value} (hv : lt2 n v = true) : lt2 n' v = true := by
  unfold lt2 at *
  split at hv
  · simp only [List.all_eq_true] at *; exact fun x hx => lt1_mono hn (hv x hx)
  · exact lt1_mono hn hv
theorem lt_mono {n n' : Nat} (hn : n ≤ n') {v : Value} (hv : lt n v = true) : lt n' v = true := by
  unfold lt at *
  split at hv
  · simp only [List.all_eq_true] at *; exact fun x hx => lt2_mono hn (hv x hx)
  · exact lt2_mono hn hv
theorem mv_undef (m : Mp) : mv m undef = undef := by simp [mv, undef]
theorem mv_one {m : Mp} {v : Value} (h : one v = true) : mv m v = mv1 m v := by
  cases v <;> simp_all [one, mv, mv2]
theorem lt_one {n : Nat} {v : Value} (h : one v = true) : lt n v = lt1 n v := by
  cases v <;> simp_all [one, lt, lt2]
theorem map_toL (f : Value → Value) (cs : Array Value) : cs.map f = (cs.toList.map f).toArray := by
  cases cs; simp
theorem cells_mv {m : Mp} {v : Value} (h : noT v = true) : (mv m v).cells = ((cellsL v).map (mv1 m)).toArray := by
  cases v with
  | agg cs => exact map_toL (mv1 m) cs
  | tuple vs => simp [noT] at h
  | pointer a => cases a <;> simp [mv, mv2, mv1, Value.cells, cellsL]
  | slice a l c => cases a <;> simp [mv, mv2, mv1, Value.cells, cellsL]
  | iface t u =>
    simp only [noT, Bool.not_eq_true'] at h
    simp [mv, mv2, mv1, Value.cells, cellsL, h]
  | _ => simp [mv, mv2, mv1, Value.cells, cellsL]
theorem lt_cells {n : Nat} {v : Value} (h : noT v = true) (hv : lt n v = true) : ∀ x ∈ cellsL v, lt1 n x = true := by
  cases v with
  | agg cs => simpa only [lt, lt2, cellsL, List.all_eq_true] using hv
  | tuple vs => simp [noT] at h
  | _ => simpa [lt, lt2, cellsL] using hv
/-! ### the small heap: the newest block first -/
structure Hp where
  n : Nat
  l : List (List Value × TypeId)
def Hp.blk? (h : Hp) (b : Nat) : Option (List Value × TypeId) := if Nat.blt b h.n = true then h.l[h.n - 1 - b]? else none
def Hp.push (h : Hp) (cs : List Value) (e : TypeId) : Hp := ⟨h.n + 1, (cs, e) :: h.l⟩
def Hp.put (h : Hp) (b : Nat) (x : List Value × TypeId) : Hp := ⟨h.n, h.l.set (h.n - 1 - b) x⟩
def Hp.cut (h : Hp) (n : Nat) : Hp := ⟨n, h.l.drop (h.n - n)⟩
/-- a block that is only read (it was there before): its type's number bears this mark -/
def ro (e : TypeId) : Bool := Nat.ble dead e
/-- a block of which nothing is known any more -/
def tomb (e : TypeId) : Bool := Nat.ble (2 * dead) e
theorem tomb_ro {e : TypeId} (h : ro e = false) : tomb e = false := by
  unfold tomb ro at *
  cases h1 : Nat.ble (2 * dead) e
  · rfl
  · have h2 := Nat.le_of_ble_eq_true h1
    have h3 : Nat.ble dead e = true := Nat.ble_eq_true_of_le (by omega)
    rw [h3] at h
    cases h
/-- a world's block that is known by its own number: '3 * dead + number'; it is never written, and no piece of code reaches it by the small memory -/
def ab (e : TypeId) : Bool := Nat.ble (3 * dead) e
theorem ab_ro {e : TypeId} (h : ro e = false) : ab e = false := by
  unfold ab ro at *
  cases h1 : Nat.ble (3 * dead) e
  · rfl
  · have h2 := Nat.le_of_ble_eq_true h1
    have h3 : Nat.ble dead e = true := Nat.ble_eq_true_of_le (by unfold dead at *; omega)
    rw [h3] at h
    cases h
def rt (e : TypeId) : TypeId := if Nat.ble dead e = true then e - dead else e
theorem rt_own {e : TypeId} (h : ro e = false) : rt e = e := by unfold rt; unfold ro at h; simp [h]
/-- what is known of a world's block: its first cells -/
def lie (w : World) (k : Nat × Nat) (cs : List Value) (e : TypeId) : Prop := ∃ r, ∃ z : TypeId × Nat × Nat, cs.length + r.length = k.2 ∧ w.heap[k.1]? = some (.cells (cs ++ r).toArray z.1 z.2) ∧ (ro e = false → z.1 = rt e ∧ z.2 = (0, 0))
theorem lie.congr {w w' : World} {k : Nat × Nat} {cs : List Value} {e : TypeId} (h : w'.heap[k.1]? = w.heap[k.1]?) (hl : lie w k cs e) : lie w' k cs e := by
  obtain ⟨r, z, h0, h1, h2⟩ := hl
  exact ⟨r, z, h0, by rw [h, h1], h2⟩
theorem lie.lt {w : World} {k : Nat × Nat} {cs : List Value} {e : TypeId} (hl : lie w k cs e) : k.1 < w.heap.size := by
  obtain ⟨r, z, _, h1, _⟩ := hl
  exact (Array.getElem?_eq_some_iff.1 h1).1
/-- what is there is not frozen -/
def iced (o : Option Obj) : Prop := ∀ c e z, o = some (.cells c e z) → z = (0, 0)
theorem iced_cells {o : Option Obj} {c : Array Value} {e : TypeId} (h : o = some (.cells c e (0, 0))) : iced o := by
  intro c' e' z hz
  rw [h] at hz
  cases hz
  rfl
/-- a block known by the world's own number: which one it is, and how many cells it has there, if that is told (0: it is not) -/
def nbA (e : TypeId) : Nat := (e - 3 * dead) % 1048576
def lnA (e : TypeId) : Nat := (e - 3 * dead) / 1048576
def absR (w : World) (L : List Value) (e : TypeId) : Prop := ∃ r t z, w.heap[nbA e]? = some (.cells (L ++ r).toArray t z) ∧ (lnA e = 0 ∨ L.length + r.length = lnA e)
theorem absR.congr {w w' : World} {L : List Value} {e : TypeId} (h : w'.heap[nbA e]? = w.heap[nbA e]?) (hl : absR w L e) : absR w' L e := by
  obtain ⟨r, t, z, h1, h2⟩ := hl
  exact ⟨r, t, z, by rw [h, h1], h2⟩
structure Emb (m : Mp) (B : Nat) (h : Hp) (w : World) : Prop where
  len : h.l.length = h.n
  lies : ∀ b x, h.blk? b = some x → tomb x.2 = false → lie w (m b) (x.1.map (mv1 m)) x.2
  low : ∀ b x, h.blk? b = some x → ro x.2 = false → B ≤ (m b).1
  ros : ∀ b x, h.blk? b = some x → tomb x.2 = false → ro x.2 = true → (m b).1 < B
  inj : ∀ b b' x x', h.blk? b = some x → h.blk? b' = some x' → ro x.2 = false → ro x'.2 = false → (m b).1 = (m b').1 → b = b'
  wf : ∀ b x, h.blk? b = some x → ∀ v ∈ x.1, lt1 h.n v = true
  base : B ≤ w.heap.size
  ice : ∀ k, B ≤ k → k < w.heap.size → iced w.heap[k]?
  abs : ∀ b x, h.blk? b = some x → ab x.2 = true → nbA x.2 < B ∧ absR w (x.1.map (mv1 m)) x.2
theorem Hp.blk_lt {h : Hp} {b : Nat} {x : List Value × TypeId} (hb : h.blk? b = some x) : b < h.n := by
  unfold Hp.blk? at hb
  split at hb
  · rename_i hlt; exact blt_iff.1 hlt
  · cases hb
theorem Emb.blk {m : Mp} {B : Nat} {h : Hp} {w : World} (E : Emb m B h w) {b : Nat} (hb : b < h.n) : ∃ x, h.blk? b = some x := by
  have hl : h.n - 1 - b < h.l.length := by rw [E.len]; omega
  exact ⟨h.l[h.n - 1 - b], by unfold Hp.blk?; rw [if_pos (blt_iff.2 hb), List.getElem?_eq_getElem hl]⟩
theorem Emb.here {m : Mp} {B : Nat} {h : Hp} {w : World} (E : Emb m B h w) {b : Nat} {x : List Value × TypeId} (hb : h.blk? b = some x) (hx : tomb x.2 = false) : (m b).1 < w.heap.size := (E.lies b x hb hx).lt
/-- nothing lies yet -/
theorem Emb.none (w : World) : Emb (fun b => (b, 0)) w.heap.size ⟨0, []⟩ w :=
  ⟨rfl, fun b x hb => absurd (Hp.blk_lt hb) (Nat.not_lt_zero _), fun b x hb => absurd (Hp.blk_lt hb) (Nat.not_lt_zero _), fun b x hb => absurd (Hp.blk_lt hb) (Nat.not_lt_zero _), fun b b' x x' hb => absurd (Hp.blk_lt hb) (Nat.not_lt_zero _), fun b x hb => absurd (Hp.blk_lt hb) (Nat.not_lt_zero _), Nat.le_refl _, fun k h1 h2 => by omega, fun b x hb => absurd (Hp.blk_lt hb) (Nat.not_lt_zero _)⟩
def upd (m : Mp) (n : Nat) (k : Nat × Nat) : Mp := fun b => if b = n then k else m b
theorem upd_agree (m : Mp) (n : Nat) (k : Nat × Nat) : Agree m (upd m n k) n := fun b hb => by simp [upd, Nat.ne_of_lt hb]
theorem map_agree {m m' : Mp} {n : Nat} (h : Agree m m' n) {l : List Value} (hl : ∀ v ∈ l, lt1 n v = true) : l.map (mv1 m') = l.map (mv1 m) :=
  List.map_congr_left fun v hv => mv1_agree h (hl v hv)
theorem Hp.blk_push {h : Hp} {cs : List Value} {e : TypeId} {b : Nat} (_hl : h.l.length = h.n) :
    (h.push cs e).blk? b = if b = h.n then some (cs, e) else h.blk? b := by
  unfold Hp.blk? Hp.push
  simp only [blt_iff]
  by_cases h1 : b = h.n
  · subst h1; simp
  · by_cases h2 : b < h.n
    · have e1 : h.n + 1 - 1 - b = (h.n - 1 - b) + 1 := by omega
      rw [if_pos (by omega : b < h.n + 1), if_neg h1, if_pos h2, e1, List.getElem?_cons_succ]
    · rw [if_neg (by omega : ¬ b < h.n + 1), if_neg h1, if_neg h2]
theorem size_alloc' (w : World) (o : Obj) : (w.alloc o).heap.size = w.heap.size + 1 := by unfold World.alloc; exact Array.size_push _
theorem heap_alloc_at (w : World) (o : Obj) : (w.alloc o).heap[w.heap.size]? = some o := by unfold World.alloc; exact Array.getElem?_push_size
theorem heap_alloc_ne (w : World) (o : Obj) (k : Nat) (h : k ≠ w.heap.size) : (w.alloc o).heap[k]? = w.heap[k]? := by
  unfold World.alloc
  show (w.heap.push o)[k]? = w.heap[k]?
  rw [Array.getElem?_push, if_neg h]
theorem Emb.push {m : Mp} {B : Nat} {h : Hp} {w : World} (E : Emb m B h w) (cs : List Value) (r : List Value) (e : TypeId) (he : ro e = false) (hcs : ∀ v ∈ cs, lt1 h.n v = true) {k : Nat} (hk : cs.length + r.length = k) :
    Emb (upd m h.n (w.heap.size, k)) B (h.push cs e) (w.alloc (.cells (cs.map (mv1 m) ++ r).toArray e (0, 0))) where
  len := by simp [Hp.push, E.len]
  lies := by
    intro b x hb hx
    rw [Hp.blk_push E.len] at hb
    by_cases h1 : b = h.n
    · rw [if_pos h1] at hb
      cases hb
      subst h1
      have e1 : upd m h.n (w.heap.size, k) h.n = (w.heap.size, k) := by simp [upd]
      have e2 : rt e = e := by unfold rt; unfold ro at he; simp [he]
      rw [e1, map_agree (upd_agree m h.n (w.heap.size, k)) hcs]
      exact ⟨r, (e, 0, 0), by simpa using hk, by rw [heap_alloc_at], fun _ => ⟨e2.symm, rfl⟩⟩
    · rw [if_neg h1] at hb
      have h2 := E.lies b x hb hx
      have e1 : upd m h.n (w.heap.size, k) b = m b := by simp [upd, h1]
      rw [e1, map_agree (upd_agree m h.n (w.heap.size, k)) (E.wf b x hb)]
      exact h2.congr (heap_alloc_ne _ _ _ (Nat.ne_of_lt h2.lt))
  low := by
    intro b x hb hx
    rw [Hp.blk_push E.len] at hb
    unfold upd
    split at hb
    · rename_i h1; rw [if_pos h1]; exact E.base
    · rename_i h1; rw [if_neg h1]; exact E.low b x hb hx
  ros := by
    intro b x hb hx hr
    rw [Hp.blk_push E.len] at hb
    unfold upd
    split at hb
    · cases hb; rw [he] at hr; cases hr
    · rename_i h1; rw [if_neg h1]; exact E.ros b x hb hx hr
  inj := by
    intro b b' x x' hb hb' hx hx' heq
    rw [Hp.blk_push E.len] at hb hb'
    unfold upd at heq
    split at hb <;> split at hb'
    · omega
    · rename_i h1 h2
      rw [if_pos h1, if_neg h2] at heq
      have := E.here hb' (tomb_ro hx')
      omega
    · rename_i h1 h2
      rw [if_neg h1, if_pos h2] at heq
      have := E.here hb (tomb_ro hx)
      omega
    · rename_i h1 h2
      rw [if_neg h1, if_neg h2] at heq
      exact E.inj b b' x x' hb hb' hx hx' heq
  wf := by
    intro b x hb v hv
    rw [Hp.blk_push E.len] at hb
    simp only [Hp.push]
    by_cases h1 : b = h.n
    · rw [if_pos h1] at hb
      cases hb
      exact lt1_mono (Nat.le_succ _) (hcs v hv)
    · rw [if_neg h1] at hb
      exact lt1_mono (Nat.le_succ _) (E.wf b x hb v hv)
  base := by have := E.base; rw [size_alloc']; omega
  ice := by
    intro k hk hk'
    rw [size_alloc'] at hk'
    by_cases h1 : k = w.heap.size
    · subst h1; exact iced_cells (heap_alloc_at _ _)
    · rw [heap_alloc_ne _ _ _ h1]; exact E.ice k hk (by omega)
  abs := by
    intro b x hb hx
    rw [Hp.blk_push E.len] at hb
    split at hb
    · cases hb
      rw [ab_ro he] at hx
      cases hx
    · obtain ⟨k1, k2⟩ := E.abs b x hb hx
      have hB := E.base
      have hne : nbA x.2 ≠ w.heap.size := Nat.ne_of_lt (Nat.lt_of_lt_of_le k1 hB)
      refine ⟨k1, ?_⟩
      rw [map_agree (upd_agree m h.n _) (E.wf b x hb)]
      exact k2.congr (heap_alloc_ne _ _ _ hne)
theorem setRow_other (w : World) (g k : Nat) (cs : Array Value) (h : g ≠ k) : (w.setRow g cs).heap[k]? = w.heap[k]? := by
  simp [World.setRow, Array.getElem?_modify, h]
theorem setRow_size (w : World) (g : Nat) (cs : Array Value) : (w.setRow g cs).heap.size = w.heap.size := by simp [World.setRow]
theorem Hp.blk_put {h : Hp} {b c : Nat} {x : List Value × TypeId} (hl : h.l.length = h.n) (hb : b < h.n) :
    (h.put b x).blk? c = if c = b then some x else h.blk? c := by
  unfold Hp.blk? Hp.put
  simp only [blt_iff]
  by_cases h1 : c = b
  · subst h1
    rw [if_pos hb, if_pos rfl, List.getElem?_set]
    simp
    omega
  · rw [if_neg h1]
    by_cases h2 : c < h.n
    · rw [if_pos h2, List.getElem?_set_ne (by omega), if_pos h2]
    · rw [if_neg h2, if_neg h2]
theorem Emb.put {m : Mp} {B : Nat} {h : Hp} {w : World} (E : Emb m B h w) {b : Nat} {x : List Value × TypeId} (hb : h.blk? b = some x) (hx : ro x.2 = false) {r0 : Array Value} (hl : w.heap[(m b).1]? = some (.cells r0 (rt x.2) (0, 0))) (cs r : List Value)
    (hcs : ∀ v ∈ cs, lt1 h.n v = true) (hk : cs.length + r.length = (m b).2) : Emb m B (h.put b (cs, x.2)) (w.setRow (m b).1 (cs.map (mv1 m) ++ r).toArray) where
  len := by simp [Hp.put, E.len]
  lies := by
    intro c y hc hy
    rw [Hp.blk_put E.len (Hp.blk_lt hb)] at hc
    by_cases h1 : c = b
    · rw [if_pos h1] at hc
      cases hc
      rw [h1]
      exact ⟨r, (rt x.2, 0, 0), by simpa using hk, setRow_heap w _ _ _ _ _ hl, fun _ => ⟨rfl, rfl⟩⟩
    · rw [if_neg h1] at hc
      refine (E.lies c y hc hy).congr (setRow_other _ _ _ _ fun heq => ?_)
      cases hr : ro y.2
      · exact h1 (E.inj _ _ _ _ hc hb hr hx heq.symm)
      · have k1 := E.ros c y hc hy hr
        have k2 := E.low b x hb hx
        omega
  low := by
    intro c y hc hy
    rw [Hp.blk_put E.len (Hp.blk_lt hb)] at hc
    split at hc
    · rename_i h1; subst h1; exact E.low _ x hb hx
    · exact E.low c y hc hy
  ros := by
    intro c y hc hy hr
    rw [Hp.blk_put E.len (Hp.blk_lt hb)] at hc
    split at hc
    · cases hc; rw [hx] at hr; cases hr
    · exact E.ros c y hc hy hr
  inj := by
    have back : ∀ c y, (h.put b (cs, x.2)).blk? c = some y → ro y.2 = false → ∃ y', h.blk? c = some y' ∧ ro y'.2 = false := by
      intro c y hc hy
      rw [Hp.blk_put E.len (Hp.blk_lt hb)] at hc
      split at hc
      · rename_i h1; subst h1; exact ⟨x, hb, hx⟩
      · exact ⟨y, hc, hy⟩
    intro c c' y y' hc hc' hy hy' heq
    obtain ⟨z, hz, k⟩ := back c y hc hy
    obtain ⟨z', hz', k'⟩ := back c' y' hc' hy'
    exact E.inj c c' z z' hz hz' k k' heq
  wf := by
    intro c y hc v hv
    rw [Hp.blk_put E.len (Hp.blk_lt hb)] at hc
    by_cases h1 : c = b
    · rw [if_pos h1] at hc; cases hc; exact hcs v hv
    · rw [if_neg h1] at hc; exact E.wf c y hc v hv
  base := by rw [setRow_size]; exact E.base
  ice := by
    intro k hk hk'
    rw [setRow_size] at hk'
    by_cases h1 : (m b).1 = k
    · subst h1; exact iced_cells (setRow_heap w _ _ _ _ _ hl)
    · rw [setRow_other _ _ _ _ h1]; exact E.ice k hk hk'
  abs := by
    intro c y hc hy
    rw [Hp.blk_put E.len (Hp.blk_lt hb)] at hc
    split at hc
    · cases hc
      rw [ab_ro hx] at hy
      cases hy
    · obtain ⟨k1, k2⟩ := E.abs c y hc hy
      have hB := E.low b x hb hx
      have hne : (m b).1 ≠ nbA y.2 := Nat.ne_of_gt (Nat.lt_of_lt_of_le k1 hB)
      exact ⟨k1, k2.congr (setRow_other _ _ _ _ hne)⟩
/-- a block is let be: nothing is known of it from now on -/
theorem Emb.bury {m : Mp} {B : Nat} {h : Hp} {w : World} (E : Emb m B h w) {b : Nat} (hb : b < h.n) : Emb m B (h.put b ([], 2 * dead)) w where
  len := by simp [Hp.put, E.len]
  lies := by
    intro c y hc hy
    rw [Hp.blk_put E.len hb] at hc
    split at hc
    · cases hc; cases hy
    · exact E.lies c y hc hy
  low := by
    intro c y hc hy
    rw [Hp.blk_put E.len hb] at hc
    split at hc
    · cases hc; cases hy
    · exact E.low c y hc hy
  ros := by
    intro c y hc hy hr
    rw [Hp.blk_put E.len hb] at hc
    split at hc
    · cases hc; cases hy
    · exact E.ros c y hc hy hr
  inj := by
    have back : ∀ c y, (h.put b ([], 2 * dead)).blk? c = some y → ro y.2 = false → h.blk? c = some y := by
      intro c y hc hy
      rw [Hp.blk_put E.len hb] at hc
      split at hc
      · cases hc; cases hy
      · exact hc
    intro c c' y y' hc hc' hy hy' heq
    exact E.inj c c' y y' (back c y hc hy) (back c' y' hc' hy') hy hy' heq
  wf := by
    intro c y hc v hv
    rw [Hp.blk_put E.len hb] at hc
    split at hc
    · cases hc; cases hv
    · exact E.wf c y hc v hv
  base := E.base
  ice := E.ice
  abs := by
    intro c y hc hy
    rw [Hp.blk_put E.len hb] at hc
    split at hc
    · cases hc; cases hy
    · exact E.abs c y hc hy
/-- a block that is there and is no small one becomes a small one -/
theorem Emb.adopt {m : Mp} {B : Nat} {h : Hp} {w : World} (E : Emb m B h w) (cs : List Value) (e : TypeId) (he : ro e = false) (hcs : ∀ v ∈ cs, lt1 h.n v = true) {k : Nat × Nat} (hk : lie w k (cs.map (mv1 m)) e) (hB : B ≤ k.1)
    (hf : ∀ b x, h.blk? b = some x → ro x.2 = false → (m b).1 ≠ k.1) : Emb (upd m h.n k) B (h.push cs e) w where
  len := by simp [Hp.push, E.len]
  lies := by
    intro b x hb hx
    rw [Hp.blk_push E.len] at hb
    by_cases h1 : b = h.n
    · rw [if_pos h1] at hb
      cases hb
      subst h1
      have e1 : upd m h.n k h.n = k := by simp [upd]
      rw [e1, map_agree (upd_agree m h.n k) hcs]
      exact hk
    · rw [if_neg h1] at hb
      have e1 : upd m h.n k b = m b := by simp [upd, h1]
      rw [e1, map_agree (upd_agree m h.n k) (E.wf b x hb)]
      exact E.lies b x hb hx
  low := by
    intro b x hb hx
    rw [Hp.blk_push E.len] at hb
    unfold upd
    split at hb
    · rename_i h1; rw [if_pos h1]; exact hB
    · rename_i h1; rw [if_neg h1]; exact E.low b x hb hx
  ros := by
    intro b x hb hx hr
    rw [Hp.blk_push E.len] at hb
    unfold upd
    split at hb
    · cases hb; rw [he] at hr; cases hr
    · rename_i h1; rw [if_neg h1]; exact E.ros b x hb hx hr
  inj := by
    intro b b' x x' hb hb' hx hx' heq
    rw [Hp.blk_push E.len] at hb hb'
    unfold upd at heq
    split at hb <;> split at hb'
    · omega
    · rename_i h1 h2
      rw [if_pos h1, if_neg h2] at heq
      exact absurd heq.symm (hf b' x' hb' hx')
    · rename_i h1 h2
      rw [if_neg h1, if_pos h2] at heq
      exact absurd heq (hf b x hb hx)
    · rename_i h1 h2
      rw [if_neg h1, if_neg h2] at heq
      exact E.inj b b' x x' hb hb' hx hx' heq
  wf := by
    intro b x hb v hv
    rw [Hp.blk_push E.len] at hb
    simp only [Hp.push]
    by_cases h1 : b = h.n
    · rw [if_pos h1] at hb
      cases hb
      exact lt1_mono (Nat.le_succ _) (hcs v hv)
    · rw [if_neg h1] at hb
      exact lt1_mono (Nat.le_succ _) (E.wf b x hb v hv)
  base := E.base
  ice := E.ice
  abs := by
    intro b x hb hx
    rw [Hp.blk_push E.len] at hb
    split at hb
    · cases hb
      rw [ab_ro he] at hx
      cases hx
    · obtain ⟨k1, k2⟩ := E.abs b x hb hx
      exact ⟨k1, by rw [map_agree (upd_agree m h.n _) (E.wf b x hb)]; exact k2⟩
theorem below_setRow {B : Nat} {a w : World} (h : Below B a w) {g : Nat} (hg : B ≤ g) (cs : Array Value) : Below B a (w.setRow g cs) :=
  ⟨h.os, h.tape, h.output, by rw [setRow_size]; exact h.size, fun k hk => by rw [setRow_other _ _ _ _ (by omega)]; exact h.block k hk⟩
theorem Hp.blk_cut {h : Hp} {n b : Nat} (hn : n ≤ h.n) (hb : b < n) : (h.cut n).blk? b = h.blk? b := by
  unfold Hp.blk? Hp.cut
  simp only [blt_iff]
  rw [if_pos hb, if_pos (by omega), List.getElem?_drop]
  congr 1
  omega
def Hp.tight (h : Hp) : Bool := h.l.all fun x => x.1.all (lt1 h.n)
theorem Hp.tight_spec {h : Hp} (ht : h.tight = true) {b : Nat} {x : List Value × TypeId} (hb : h.blk? b = some x) : ∀ v ∈ x.1, lt1 h.n v = true := by
  unfold Hp.tight at ht
  simp only [List.all_eq_true] at ht
  unfold Hp.blk? at hb
  split at hb
  · exact ht x (List.mem_of_getElem? hb)
  · cases hb
/-- Behind a call: what it made is let go. -/
theorem Emb.cut {m m' : Mp} {B : Nat} {h : Hp} {w : World} {n : Nat} (E : Emb m' B h w) (hm : Agree m m' n) (hn : n ≤ h.n) (ht : (h.cut n).tight = true) : Emb m B (h.cut n) w where
  len := by simp [Hp.cut, E.len]; omega
  lies := by
    intro b x hb hx
    have hlt : b < n := Hp.blk_lt hb
    have hwf := Hp.tight_spec ht hb
    rw [Hp.blk_cut hn hlt] at hb
    rw [← hm b hlt, ← map_agree (m := m) (m' := m') hm hwf]
    exact E.lies b x hb hx
  low := fun b x hb hx => by
    have hlt : b < n := Hp.blk_lt hb
    rw [Hp.blk_cut hn hlt] at hb
    rw [← hm b hlt]
    exact E.low b x hb hx
  ros := fun b x hb hx hr => by
    have hlt : b < n := Hp.blk_lt hb
    rw [Hp.blk_cut hn hlt] at hb
    rw [← hm b hlt]
    exact E.ros b x hb hx hr
  inj := fun b b' x x' hb hb' hx hx' heq => by
    have hlt : b < n := Hp.blk_lt hb
    have hlt' : b' < n := Hp.blk_lt hb'
    rw [Hp.blk_cut hn hlt] at hb
    rw [Hp.blk_cut hn hlt'] at hb'
    rw [← hm b hlt, ← hm b' hlt'] at heq
    exact E.inj b b' x x' hb hb' hx hx' heq
  wf := fun b x hb => Hp.tight_spec ht hb
  base := E.base
  ice := E.ice
  abs := fun b x hb hx => by
    have hlt : b < n := Hp.blk_lt hb
    have hwf := Hp.tight_spec ht hb
    rw [Hp.blk_cut hn hlt] at hb
    rw [← map_agree (m := m) (m' := m') hm hwf]
    exact E.abs b x hb hx
abbrev Log := List (Bool × Bool)
def okLog (c : Log) : Prop := ∀ x ∈ c, x.1 = x.2
/-- what is decided ahead: a test's outcome, a number's value, whether two arrays are the same, how two numbers compare, that an index is in range (a store's, too), what a cell holds -/
abbrev Dec := Sum Bool (Sum Int (Sum Bool (Sum Bool (Sum Unit Value))))
abbrev tst (d : Bool) : Dec := .inl d
abbrev num (k : Int) : Dec := .inr (.inl k)
abbrev sam (d : Bool) : Dec := .inr (.inr (.inl d))
abbrev cmp (d : Bool) : Dec := .inr (.inr (.inr (.inl d)))
/-- What the reckoner is given: the program, its functions with bodies, what is known of calls. -/
structure Tab where
  P : Program
  fn : Nat → Option Func
  ext : Nat → List Value → Option (Value × Log)
  con : Nat → List Value → List Dec → Option (Value × List Dec × Log)
  sym : Bool
  hc : Nat → List Value → Hp → List Dec → Option (Value × Hp × List Dec × Log) := fun _ _ _ _ => none
def ev (t : List Value) : Operand → Value
  | .tmp i => t.getD i undef
  | .const v => v
  | .global g => .pointer (some ⟨g, 0, none⟩)
  | .func f => .func (.func f) #[] #[]
def okX : Operand → Bool
  | .tmp _ => true
  | .const v => lt 0 v
  | .global _ => false
  | .func _ => true
theorem eval_mv {m : Mp} {t : List Value} {a : Act} (ha : a.tmps = (t.map (mv m)).toArray) {x : Operand} (hx : okX x = true) : a.eval x = mv m (ev t x) := by
  cases x with
  | tmp i =>
    simp only [Act.eval, ev, ha]
    cases h : t[i]? with
    | none => simp [List.getD, h, mv_undef]
    | some v => simp [List.getD, h]
  | const v => simp only [Act.eval, ev]; exact (mv_still hx).symm
  | global g => simp [okX] at hx
  | func f => simp [Act.eval, ev, mv, mv2, mv1]
theorem ev_lt {n : Nat} {t : List Value} (ht : ∀ v ∈ t, lt n v = true) {x : Operand} (hx : okX x = true) : lt n (ev t x) = true := by
  cases x with
  | tmp i =>
    simp only [ev, List.getD]
    cases h : t[i]? with
    | none => simp [undef, lt]
    | some v => exact ht v (List.mem_of_getElem? h)
  | const v => exact lt_mono (Nat.zero_le _) hx
  | global g => simp [okX] at hx
  | func f => simp [ev, lt, lt2, lt1]
def runP (P : Program) {α : Type} : Sem α → Option α
  | .pure a => some a
  | .program k => runP P (k P)
  | .mark _ k => runP P k
  | _ => none
theorem runP_run {P : Program} {α : Type} {s : Sem α} {v : α} (h : runP P s = some v) (w : World) : s.run P w = .ok v w := by
  induction s with
  | pure a => simp [runP] at h; subst h; rfl
  | program k ih => simp only [runP] at h; exact ih P h
  | mark x k ih => simp only [runP] at h; simp only [Sem.run]; exact ih h
  | _ => simp [runP] at h
def pickB (b : Bool) : List Dec → Bool × List Dec × Log
  | .inl d :: s => (d, s, [(b, d)])
  | s => (b, s, [])
theorem pickB_ok {b : Bool} {s : List Dec} (h : okLog (pickB b s).2.2) : (pickB b s).1 = b := by
  unfold pickB at *
  split at h
  · rename_i d s
    exact (h (b, d) (List.mem_singleton.2 rfl)).symm
  · rfl
/-! ### a load, a store, an address -/
def loadS (P : Program) (ty : TypeId) (a : Addr) (h : Hp) : Option Value :=
  match a.spot with
  | some _ => none
  | none =>
    match h.blk? a.block with
    | none => none
    | some x =>
      match (if tomb x.2 = true then none else P.underlying ty) with
      | none => none
      | some (.struct _) | some (.array _ _) =>
        match P.info? ty with
        | none => none
        | some i => if Nat.beq ((x.1.drop a.off).take i.size).length i.size = true then some (.agg ((x.1.drop a.off).take i.size).toArray) else none
      | some _ =>
        match x.1[a.off]? with
        | some v => if one v = true then some v else none
        | none => none
theorem mvA_none {m : Mp} {a : Addr} (h : a.spot = none) : mvA m a = ⟨(m a.block).1, a.off, none⟩ := by cases a; simp_all [mvA]
theorem cell_lies {m : Mp} {w : World} {b : Nat} {x : List Value × TypeId} (E : lie w (m b) (x.1.map (mv1 m)) x.2) {o : Nat} {v : Value} (hv : x.1[o]? = some v) :
    w.cell? ⟨(m b).1, o, none⟩ = some (mv1 m v) := by
  obtain ⟨r, z, _, h1, _⟩ := E
  have ho : o < x.1.length := (List.getElem?_eq_some_iff.1 hv).1
  have e : (x.1.map (mv1 m) ++ r)[o]? = some (mv1 m v) := by
    rw [List.getElem?_append_left (by simpa using ho), List.getElem?_map, hv]
    rfl
  simp only [World.cell?, h1]
  simpa using e
def aggD : TypeDesc → Bool
  | .struct _ | .array _ _ => true
  | _ => false
theorem isAgg_run {P : Program} {ty : TypeId} {d : TypeDesc} (h : P.underlying ty = some d) (w : World) :
    (isAgg ty).run P w = .ok (aggD d) w := by
  cases d <;> simp [isAgg, underlying, h, aggD]
theorem loadAgg_run {m : Mp} {w : World} {P : Program} {ty : TypeId} {b o : Nat} {x : List Value × TypeId} (E : lie w (m b) (x.1.map (mv1 m)) x.2) {i : TypeInfo} (hi : P.info? ty = some i)
    {d : TypeDesc} (hd : P.underlying ty = some d) (hda : (aggD d) = true)
    (hn : ((x.1.drop o).take i.size).length = i.size) :
    (Instr.loadAt ty (.pointer (some ⟨(m b).1, o, none⟩))).run P w = .ok (mv m (.agg ((x.1.drop o).take i.size).toArray)) w := by
  have hl := run_loadCells_list (P := P) w ⟨(m b).1, o, none⟩ (((x.1.drop o).take i.size).map (mv1 m)) (fun j v hj => by
    have e : (⟨(m b).1, o, none⟩ : Addr).add j = ⟨(m b).1, o + j, none⟩ := by unfold Addr.add; split <;> simp_all
    rw [e]
    rw [List.getElem?_map, List.getElem?_take] at hj
    split at hj
    · rw [List.getElem?_drop] at hj
      obtain ⟨u, hu, rfl⟩ := Option.map_eq_some_iff.1 hj
      exact cell_lies E hu
    · simp at hj)
  rw [List.length_map, hn] at hl
  simp only [Instr.loadAt, Instr.sureAddr, loadVar, Sem.run_bind, Sem.run_pure, Result.andThen_ok, isAgg_run hd, hda, if_true, sizeOf, typeInfo, run_program, hi]
  simp [hl, mv, mv2]
theorem loadS_at {m : Mp} {h : Hp} {w : World} {P : Program} {ty : TypeId} {a : Addr} {v : Value} (E0 : ∀ x, h.blk? a.block = some x → tomb x.2 = false → lie w (m a.block) (x.1.map (mv1 m)) x.2)
    (W0 : ∀ x, h.blk? a.block = some x → ∀ v ∈ x.1, lt1 h.n v = true) (hl : loadS P ty a h = some v) :
    (Instr.loadAt ty (.pointer (some (mvA m a)))).run P w = .ok (mv m v) w ∧ lt h.n v = true := by
  unfold loadS at hl
  split at hl
  · cases hl
  · rename_i hsp
    rw [mvA_none hsp]
    split at hl
    · cases hl
    · rename_i x hx
      have wf := W0 _ hx
      cases htb : tomb x.2 with
      | true =>
        rw [htb] at hl
        simp at hl
      | false =>
      rw [htb] at hl
      simp only [Bool.false_eq_true, if_false] at hl
      have E := E0 _ hx htb
      have agg : ∀ d, P.underlying ty = some d → (aggD d) = true →
          (match P.info? ty with
            | none => none
            | some i => if Nat.beq ((x.1.drop a.off).take i.size).length i.size = true then some (Value.agg ((x.1.drop a.off).take i.size).toArray) else none) = some v →
          (Instr.loadAt ty (.pointer (some ⟨(m a.block).1, a.off, none⟩))).run P w = .ok (mv m v) w ∧ lt h.n v = true := by
        intro d hd hda hq
        split at hq
        · cases hq
        · rename_i i hi
          split at hq
          · rename_i hbe
            cases hq
            refine ⟨loadAgg_run E hi hd hda (Nat.eq_of_beq_eq_true hbe), ?_⟩
            simp only [lt, lt2, List.all_eq_true]
            intro y hy
            exact wf y (List.mem_of_mem_drop (List.mem_of_mem_take (by simpa using hy)))
          · cases hq
      split at hl
      · cases hl
      · rename_i hd; exact agg _ hd rfl hl
      · rename_i hd; exact agg _ hd rfl hl
      · rename_i d hns hna hd
        split at hl
        · rename_i y hy
          split at hl
          · rename_i h1
            cases hl
            have hda : (aggD d) = false := by
              cases d <;> first | rfl | (exact absurd rfl (hns _)) | (exact absurd rfl (hna _ _))
            refine ⟨?_, by rw [lt_one h1]; exact wf _ (List.mem_of_getElem? hy)⟩
            simp only [Instr.loadAt, Instr.sureAddr, loadVar, Sem.run_bind, Sem.run_pure, Result.andThen_ok, isAgg_run hd, hda]
            simp [cell_lies E hy, mv_one h1]
          · cases hl
        · cases hl
theorem loadS_run {m : Mp} {B : Nat} {h : Hp} {w : World} {P : Program} {ty : TypeId} {a : Addr} {v : Value} (E : Emb m B h w) (hl : loadS P ty a h = some v) :
    (Instr.loadAt ty (.pointer (some (mvA m a)))).run P w = .ok (mv m v) w ∧ lt h.n v = true :=
  loadS_at (fun x hx => E.lies _ x hx) (fun x hx => E.wf _ x hx) hl
def storeS (P : Program) (ty : TypeId) (a : Addr) (v : Value) (h : Hp) : Option Hp :=
  match a.spot with
  | some _ => none
  | none =>
    match h.blk? a.block with
    | none => none
    | some x =>
      match P.info? ty with
      | none => none
      | some i =>
        if (noT v && Nat.beq (cellsL v).length i.size && Nat.ble (a.off + (cellsL v).length) x.1.length && (cellsL v).all one && !(ro x.2)) = true
        then some (h.put a.block (x.1.take a.off ++ cellsL v ++ x.1.drop (a.off + (cellsL v).length), x.2)) else none
theorem one_mv1 {m : Mp} {v : Value} (h : one v = true) : (mv1 m v).oneCell' = true := by
  cases v with
  | pointer a => cases a <;> rfl
  | slice a l c => cases a <;> rfl
  | agg cs => simp [one] at h
  | tuple cs => simp [one] at h
  | iface t u =>
    simp only [one, Bool.not_eq_true'] at h
    simp only [mv1, h]
    rfl
  | _ => rfl
theorem storeS_run {m : Mp} {B : Nat} {h h' : Hp} {w : World} {P : Program} {ty : TypeId} {a : Addr} {v : Value} (E : Emb m B h w) (hv : lt h.n v = true) (hs : storeS P ty a v h = some h') :
    ∃ w', (Instr.storeAt ty (.pointer (some (mvA m a))) (mv m v)).run P w = .ok () w' ∧ Emb m B h' w' ∧ Below B w w' ∧ h'.n = h.n := by
  unfold storeS at hs
  split at hs
  · cases hs
  · rename_i hsp
    split at hs
    · cases hs
    · rename_i x hx
      split at hs
      · cases hs
      · rename_i i hi
        split at hs
        · rename_i hc
          cases hs
          simp only [Bool.and_eq_true, List.all_eq_true, Bool.not_eq_true'] at hc
          obtain ⟨⟨⟨⟨hT, hsz⟩, hle⟩, hone⟩, hro⟩ := hc
          obtain ⟨r, z, hl0, hl1, hl2⟩ := E.lies _ _ hx (tomb_ro hro)
          rw [(hl2 hro).1, (hl2 hro).2] at hl1
          have hsz := Nat.eq_of_beq_eq_true hsz
          have hle := Nat.le_of_ble_eq_true hle
          have hcells := cells_mv (m := m) hT
          have hlt := lt_cells hT hv
          have wf := E.wf _ _ hx
          rw [mvA_none hsp]
          have hst := run_storeCells_at P (m a.block).1 a.off (rt x.2) ((cellsL v).map (mv1 m)) 0 (x.1.map (mv1 m) ++ r).toArray w hl1 (by simp; omega)
            (fun y hy => by obtain ⟨z, hz, rfl⟩ := List.mem_map.1 hy; exact one_mv1 (hone z hz))
          have esp : (x.1.map (mv1 m) ++ r).take a.off ++ (cellsL v).map (mv1 m) ++ (x.1.map (mv1 m) ++ r).drop (a.off + (cellsL v).length) = (x.1.take a.off ++ cellsL v ++ x.1.drop (a.off + (cellsL v).length)).map (mv1 m) ++ r := by
            rw [List.take_append_of_le_length (by simp; omega), List.drop_append_of_le_length (by simpa using hle)]
            simp
          refine ⟨_, ?_, E.put hx hro hl1 (x.1.take a.off ++ cellsL v ++ x.1.drop (a.off + (cellsL v).length)) r (fun y hy => ?_) (by simp at hl0 ⊢; omega), below_setRow (Below.refl _ _) (E.low _ _ hx hro) _, rfl⟩
          · simp only [Instr.storeAt, Instr.sureAddr, storeVar, Sem.run_bind, Sem.run_pure, Result.andThen_ok, sizeOf, typeInfo, run_program, hi, hcells]
            simp only [List.size_toArray, List.length_map, hsz, ne_eq, not_true, if_false]
            rw [hst]
            simp only [hsz] at esp
            simp only [Nat.add_zero, List.length_map, hsz, esp]
          · simp only [List.mem_append] at hy
            rcases hy with (hy | hy) | hy
            · exact wf y (List.mem_of_mem_take hy)
            · exact hlt y hy
            · exact wf y (List.mem_of_mem_drop hy)
        · cases hs
theorem mvA_add (m : Mp) (a : Addr) (k : Nat) : mvA m (a.add k) = (mvA m a).add k := by
  unfold Addr.add mvA; split <;> rfl
theorem add_block (a : Addr) (k : Nat) : (a.add k).block = a.block := by unfold Addr.add; split <;> rfl
def indexS (P : Program) (ty : TypeId) (x i : Value) : Option Value :=
  match i with
  | .int _ n =>
    match P.underlying ty, x with
    | some (.array len elem), .pointer (some a) =>
      match P.info? elem with
      | some ie => if 0 ≤ n ∧ n < (len : Int) then some (.pointer (some (a.add (n.toNat * ie.size)))) else none
      | none => none
    | some (.slice elem), .slice (some a) len _ =>
      match P.info? elem with
      | some ie => if 0 ≤ n ∧ n < (len : Int) then some (.pointer (some (a.add (n.toNat * ie.size)))) else none
      | none => none
    | _, _ => none
  | _ => none
theorem indexS_run {m : Mp} {P : Program} {ty : TypeId} {x i v : Value} {n : Nat} (hx : lt n x = true) (hs : indexS P ty x i = some v) (w : World) :
    (Instr.indexAt ty (mv m x) (mv m i)).run P w = .ok (mv m v) w ∧ lt n v = true := by
  unfold indexS at hs
  split at hs
  · rename_i k j
    split at hs
    · rename_i len elem a hu
      split at hs
      · rename_i ie hie
        split at hs
        · rename_i hlt
          cases hs
          refine ⟨?_, ?_⟩
          · simp [Instr.indexAt, mv, mv2, mv1, asIntOf, underlying, hu, Instr.sureAddr, hlt, sizeOf, typeInfo, hie, mvA_add]
          · simpa [lt, lt2, lt1, add_block] using hx
        · cases hs
      · cases hs
    · rename_i elem a len cap hu
      split at hs
      · rename_i ie hie
        split at hs
        · rename_i hlt
          cases hs
          refine ⟨?_, ?_⟩
          · simp [Instr.indexAt, mv, mv2, mv1, asIntOf, underlying, hu, hlt, sizeOf, typeInfo, hie, mvA_add]
          · simpa [lt, lt2, lt1, add_block] using hx
        · cases hs
      · cases hs
    · cases hs
  · cases hs
/-- a field's address -/
def fieldS (P : Program) (ty : TypeId) (x : Value) (k : Nat) : Option Value :=
  match P.underlying ty, x with
  | some (.struct fs), .pointer (some a) =>
    match fs[k]? with
    | some f =>
      match P.info? f.type with
      | some i => if Nat.beq i.size 0 = true then none else some (.pointer (some (a.add f.offset)))
      | none => none
    | none => none
  | _, _ => none
theorem fieldS_run {m : Mp} {P : Program} {ty : TypeId} {x v : Value} {k n : Nat} (hx : lt n x = true) (hs : fieldS P ty x k = some v) (w : World) :
    (Instr.fieldAt ty (mv m x) k).run P w = .ok (mv m v) w ∧ lt n v = true := by
  unfold fieldS at hs
  split at hs
  · rename_i fs a hu
    split at hs
    · rename_i f hf
      split at hs
      · rename_i i hi
        split at hs
        · cases hs
        · rename_i hz
          cases hs
          have hz' : ¬ i.size = 0 := fun h => hz (by rw [h]; rfl)
          refine ⟨?_, ?_⟩
          · simp [Instr.fieldAt, mv, mv2, mv1, underlying, hu, hf, Instr.sureAddr, fieldPlace, sizeOf, typeInfo, hi, hz', mvA_add]
          · simpa [lt, lt2, lt1, add_block] using hx
      · cases hs
    · cases hs
  · cases hs
/-! ### addresses, loads and stores at letters: that they are in range, and what a cell holds, is told ahead -/
def cellIs : Option Value → Value → Bool
  | some (.int k m), .int k' n => decide (k = k' ∧ m = n)
  | some (.bool b), .bool b' => b == b'
  | _, _ => false
theorem cellIs_spec {c : Option Value} {v : Value} (h : cellIs c v = true) : c = some v ∧ one v = true := by
  unfold cellIs at h
  split at h
  · simp only [decide_eq_true_eq] at h
    obtain ⟨rfl, rfl⟩ := h
    exact ⟨rfl, rfl⟩
  · simp only [beq_iff_eq] at h
    subst h
    exact ⟨rfl, rfl⟩
  · cases h
def indexY (P : Program) (ty : TypeId) (x i : Value) : Option (Value × Log) :=
  match i with
  | .int _ n =>
    match P.underlying ty, x with
    | some (.array len elem), .pointer (some ⟨b, o, none⟩) =>
      match P.info? elem with
      | some ie => some (.pointer (some ⟨b, o + n.toNat * ie.size, none⟩), [(decide (0 ≤ n ∧ n < (len : Int)), true)])
      | none => none
    | some (.slice elem), .slice (some ⟨b, o, none⟩) len _ =>
      match P.info? elem with
      | some ie => some (.pointer (some ⟨b, o + n.toNat * ie.size, none⟩), [(decide (0 ≤ n ∧ n < (len : Int)), true)])
      | none => none
    | _, _ => none
  | _ => none
theorem add_plain (b o k : Nat) : (⟨b, o, none⟩ : Addr).add k = ⟨b, o + k, none⟩ := by unfold Addr.add; split <;> simp_all
theorem indexY_run {m : Mp} {P : Program} {ty : TypeId} {x i v : Value} {lg : Log} {n : Nat} (hx : lt n x = true) (hs : indexY P ty x i = some (v, lg)) (hlg : okLog lg) (w : World) :
    (Instr.indexAt ty (mv m x) (mv m i)).run P w = .ok (mv m v) w ∧ lt n v = true := by
  unfold indexY at hs
  split at hs
  · rename_i k j
    split at hs
    · rename_i len elem b o hu
      split at hs
      · rename_i ie hie
        cases hs
        have hlt := hlg _ (List.mem_singleton.2 rfl)
        simp only [decide_eq_true_eq] at hlt
        refine ⟨?_, ?_⟩
        · simp [Instr.indexAt, mv, mv2, mv1, mvA, asIntOf, underlying, hu, Instr.sureAddr, hlt, sizeOf, typeInfo, hie, add_plain]
        · simpa [lt, lt2, lt1] using hx
      · cases hs
    · rename_i elem b o len cap hu
      split at hs
      · rename_i ie hie
        cases hs
        have hlt := hlg _ (List.mem_singleton.2 rfl)
        simp only [decide_eq_true_eq] at hlt
        refine ⟨?_, ?_⟩
        · simp [Instr.indexAt, mv, mv2, mv1, mvA, asIntOf, underlying, hu, hlt, sizeOf, typeInfo, hie, add_plain]
        · simpa [lt, lt2, lt1] using hx
      · cases hs
    · cases hs
  · cases hs
def loadY (P : Program) (ty : TypeId) (a : Addr) (h : Hp) (v : Value) : Option Log :=
  match a.spot with
  | some _ => none
  | none =>
    match h.blk? a.block with
    | none => none
    | some x =>
      match (if tomb x.2 = true then none else P.underlying ty) with
      | some d => if aggD d = true then none else some [(cellIs (x.1[a.off]?) v, true)]
      | none => none
theorem loadY_at {m : Mp} {h : Hp} {w : World} {P : Program} {ty : TypeId} {a : Addr} {v : Value} {lg : Log} (E0 : ∀ x, h.blk? a.block = some x → tomb x.2 = false → lie w (m a.block) (x.1.map (mv1 m)) x.2)
    (W0 : ∀ x, h.blk? a.block = some x → ∀ v ∈ x.1, lt1 h.n v = true) (hl : loadY P ty a h v = some lg) (hlg : okLog lg) :
    (Instr.loadAt ty (.pointer (some (mvA m a)))).run P w = .ok (mv m v) w ∧ lt h.n v = true := by
  unfold loadY at hl
  split at hl
  · cases hl
  · rename_i hsp
    rw [mvA_none hsp]
    split at hl
    · cases hl
    · rename_i x hx
      cases htb : tomb x.2 with
      | true =>
        rw [htb] at hl
        simp at hl
      | false =>
      rw [htb] at hl
      simp only [Bool.false_eq_true, if_false] at hl
      split at hl
      · rename_i d hd
        split at hl
        · cases hl
        · rename_i hda
          cases hl
          obtain ⟨hy, h1⟩ := cellIs_spec (hlg _ (List.mem_singleton.2 rfl))
          refine ⟨?_, by rw [lt_one h1]; exact W0 _ hx _ (List.mem_of_getElem? hy)⟩
          simp only [Instr.loadAt, Instr.sureAddr, loadVar, Sem.run_bind, Sem.run_pure, Result.andThen_ok, isAgg_run hd, hda]
          simp [cell_lies (E0 _ hx htb) hy, mv_one h1]
      · cases hl
def storeY (P : Program) (ty : TypeId) (a : Addr) (v : Value) (h : Hp) : Option (Hp × Log) :=
  match a.spot with
  | some _ => none
  | none =>
    match h.blk? a.block with
    | none => none
    | some x =>
      match P.info? ty with
      | none => none
      | some i => if (one v && Nat.beq i.size 1 && !(ro x.2)) = true then some (h.put a.block (x.1.set a.off v, x.2), [(decide (a.off < x.1.length), true)]) else none
theorem set_splice (l : List Value) (o : Nat) (v : Value) (h : o < l.length) : l.set o v = l.take o ++ [v] ++ l.drop (o + 1) := by
  rw [List.set_eq_take_append_cons_drop, if_pos h]
  simp
theorem storeY_run {m : Mp} {B : Nat} {h h' : Hp} {w : World} {P : Program} {ty : TypeId} {a : Addr} {v : Value} {lg : Log} (E : Emb m B h w) (hv : lt h.n v = true) (hs : storeY P ty a v h = some (h', lg)) (hlg : okLog lg) :
    ∃ w', (Instr.storeAt ty (.pointer (some (mvA m a))) (mv m v)).run P w = .ok () w' ∧ Emb m B h' w' ∧ Below B w w' ∧ h'.n = h.n := by
  unfold storeY at hs
  split at hs
  · cases hs
  · rename_i hsp
    split at hs
    · cases hs
    · rename_i x hx
      split at hs
      · cases hs
      · rename_i i hi
        split at hs
        · rename_i hc
          cases hs
          simp only [Bool.and_eq_true, Bool.not_eq_true'] at hc
          obtain ⟨⟨h1, hsz⟩, hro⟩ := hc
          have hlt := hlg _ (List.mem_singleton.2 rfl)
          simp only [decide_eq_true_eq] at hlt
          have e1 : cellsL v = [v] := by cases v <;> simp_all [one, cellsL]
          have e2 : noT v = true := by cases v <;> simp_all [one, noT]
          refine storeS_run (ty := ty) E hv ?_
          unfold storeS
          rw [hsp]
          simp only [hx, hi, e1, e2, List.length_singleton]
          have hsz' := Nat.eq_of_beq_eq_true hsz
          rw [if_pos (by simp [hsz', h1, hro]; exact hlt), set_splice _ _ _ hlt]
        · cases hs
def stillO : Option Operand → List Value → Bool
  | none, _ => true
  | some x, t => okX x && lt 0 (ev t x)
theorem stillO_map {m : Mp} {t : List Value} {a : Act} (ha : a.tmps = (t.map (mv m)).toArray) {x : Option Operand} (hx : stillO x t = true) : x.map a.eval = x.map (ev t) := by
  cases x with
  | none => rfl
  | some x =>
    simp only [stillO, Bool.and_eq_true] at hx
    simp [eval_mv ha hx.1, mv_still hx.2]
def smallC (c : Nat) : Bool := Nat.blt c dead
theorem cap_small {n c : Nat} (h : smallC c = true) : cap n c = c := by
  unfold cap
  rw [if_neg]
  intro h1
  have h2 := Nat.le_of_ble_eq_true h1
  have h3 := blt_iff.1 h
  omega
def sliceS (P : Program) (ty : TypeId) (x : Value) (lo hi mx : Option Value) : Option Value :=
  match P.underlying ty, x with
  | some (.array n elem), .pointer (some a) =>
    match runP P (Instr.sliceBounds false n n lo hi mx), P.info? elem with
    | some b, some ie => if smallC (b.2.2 - b.1) = true then some (.slice (some (if b.2.2 = b.1 then a else a.add (b.1 * ie.size))) (b.2.1 - b.1) (b.2.2 - b.1)) else none
    | _, _ => none
  | some (.slice elem), .slice (some a) len c =>
    if smallC c = true then
      match runP P (Instr.sliceBounds true len c lo hi mx), P.info? elem with
      | some b, some ie => if smallC (b.2.2 - b.1) = true then some (.slice (some (if b.2.2 = b.1 then a else a.add (b.1 * ie.size))) (b.2.1 - b.1) (b.2.2 - b.1)) else none
      | _, _ => none
    else none
  | some (.slice elem), .slice none len c =>
    match runP P (Instr.sliceBounds true len c lo hi mx), P.info? elem with
    | some b, some _ => some (.slice none (b.2.1 - b.1) (b.2.2 - b.1))
    | _, _ => none
  | _, _ => none
theorem sliceS_run {m : Mp} {P : Program} {ty : TypeId} {x v : Value} {lo hi mx : Option Value} {n : Nat} (hx : lt n x = true) (hs : sliceS P ty x lo hi mx = some v) (w : World) :
    (Instr.sliceAt ty (mv m x) lo hi mx).run P w = .ok (mv m v) w ∧ lt n v = true := by
  unfold sliceS at hs
  split at hs
  · rename_i len elem a hu
    split at hs
    · rename_i b ie hb hie
      split at hs
      · rename_i hsm
        cases hs
        have hr := runP_run hb w
        refine ⟨?_, ?_⟩
        · simp only [Instr.sliceAt, mv, mv2, mv1, underlying, Sem.run_bind, run_program, Result.andThen_ok, hu, Sem.run_pure, Instr.sureAddr, hr, sizeOf, typeInfo, hie, cap_small hsm]
          split
          · rename_i h1; simp [h1]
          · simp [mvA_add]
        · simp only [lt, lt2, lt1] at hx ⊢
          split
          · exact hx
          · rw [add_block]; exact hx
      · cases hs
    · cases hs
  · rename_i elem a len c hu
    split at hs
    · rename_i hc
      split at hs
      · rename_i b ie hb hie
        split at hs
        · rename_i hsm
          cases hs
          have hr := runP_run hb w
          refine ⟨?_, ?_⟩
          · simp only [Instr.sliceAt, Instr.slice, mv, mv2, mv1, cap_small hc, underlying, Sem.run_bind, run_program, Result.andThen_ok, hu, Sem.run_pure, hr, sizeOf, typeInfo, hie, cap_small hsm]
            split
            · rename_i h1; simp [h1]
            · simp [mvA_add]
          · simp only [lt, lt2, lt1] at hx ⊢
            split
            · exact hx
            · rw [add_block]; exact hx
        · cases hs
      · cases hs
    · cases hs
  · rename_i elem len c hu
    split at hs
    · rename_i b ie hb hie
      cases hs
      have hr := runP_run hb w
      refine ⟨?_, by simp [lt, lt2, lt1]⟩
      simp [Instr.sliceAt, Instr.slice, mv, mv2, mv1, underlying, hu, hr, sizeOf, typeInfo, hie]
    · cases hs
  · cases hs
end Go.KRun
