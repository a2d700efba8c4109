/-
  RunA
-/
import Derived.Orders
import Derived.Scope
import Derived.Below
import Derived.Laws.CopyRow
import Derived.Laws.Rows
import Derived.LoopN
import Derived.KernelRfl
namespace Go.KRun
open Go.RowKit
/-! ### values moved from the small heap into a world -/
/-- a value of the world's own, of which nothing is known: '.iface dead v' stands for v -/
def dead : Nat := 4611686018427387904
/-- where a small block lies in the world, and how many cells it has there -/
abbrev Mp := Nat → Nat × Nat
def mvA (m : Mp) (a : Addr) : Addr := { a with block := (m a.block).1 }
/-- a capacity of which nothing is known but that it is all that the block has from the cell o on: 'dead * (1 + o) + k', k the cells of an element -/
def cap (n c : Nat) : Nat := if Nat.ble dead c = true then (n - (c / dead - 1)) / (c % dead) else c
def mv1 (m : Mp) : Value → Value
  | .pointer (some a) => .pointer (some (mvA m a))
  | .slice (some a) l c => .slice (some (mvA m a)) l (cap (m a.block).2 c)
  | .map (some b) => .map (some (m b).1)
  | .iface t v => if Nat.beq t dead = true then v else .iface t v
  | v => v
def mv2 (m : Mp) : Value → Value
  | .agg cs => .agg (cs.map (mv1 m))
  | v => mv1 m v
def mv (m : Mp) : Value → Value
  | .tuple vs => .tuple (vs.map (mv2 m))
  | v => mv2 m v
def lt1 (n : Nat) : Value → Bool
  | .pointer (some a) => Nat.blt a.block n
  | .slice (some a) _ _ => Nat.blt a.block n
  | .map (some b) => Nat.blt b n
  | .iface t _ => if Nat.beq t dead = true then Nat.blt 0 n else true
  | _ => true
def lt2 (n : Nat) : Value → Bool
  | .agg cs => cs.toList.all (lt1 n)
  | v => lt1 n v
def lt (n : Nat) : Value → Bool
  | .tuple vs => vs.toList.all (lt2 n)
  | v => lt2 n v
/-- one cell's value -/
def one : Value → Bool
  | .agg _ | .tuple _ => false
  | .iface t _ => !(Nat.beq t dead)
  | _ => true
def noT : Value → Bool
  | .tuple _ => false
  | .iface t _ => !(Nat.beq t dead)
  | _ => true
def cellsL : Value → List Value
  | .agg cs => cs.toList
  | v => [v]
def Agree (m m' : Mp) (n : Nat) : Prop := ∀ b, b < n → m' b = m b
theorem Agree.refl (m : Mp) (n : Nat) : Agree m m n := fun _ _ => rfl
theorem Agree.trans {m m' m'' : Mp} {n n' : Nat} (h : Agree m m' n) (h' : Agree m' m'' n') (hn : n ≤ n') : Agree m m'' n :=
  fun b hb => (h' b (by omega)).trans (h b hb)
theorem blt_iff {a b : Nat} : Nat.blt a b = true ↔ a < b := by simp [Nat.blt_eq]
theorem mv1_agree {m m' : Mp} {n : Nat} (h : Agree m m' n) {v : Value} (hv : lt1 n v = true) : mv1 m' v = mv1 m v := by
  unfold mv1
  split
  · simp only [lt1, blt_iff] at hv; simp [mvA, h _ hv]
  · simp only [lt1, blt_iff] at hv; simp [mvA, h _ hv]
  · simp only [lt1, blt_iff] at hv; simp [h _ hv]
  · rfl
  · rfl
theorem mv2_agree {m m' : Mp} {n : Nat} (h : Agree m m' n) {v : Value} (hv : lt2 n v = true) : mv2 m' v = mv2 m v := by
  unfold mv2
  split
  · rename_i cs
    simp only [lt2, List.all_eq_true] at hv
    congr 1
    exact Array.map_congr_left fun x hx => mv1_agree h (hv x (by simpa using hx))
  · rename_i hna
    refine mv1_agree h ?_
    unfold lt2 at hv
    split at hv
    · rename_i cs; exact absurd rfl (hna cs)
    · exact hv
theorem mv_agree {m m' : Mp} {n : Nat} (h : Agree m m' n) {v : Value} (hv : lt n v = true) : mv m' v = mv m v := by
  unfold mv
  split
  · rename_i vs
    simp only [lt, List.all_eq_true] at hv
    congr 1
    exact Array.map_congr_left fun x hx => mv2_agree h (hv x (by simpa using hx))
  · rename_i hna
    refine mv2_agree h ?_
    unfold lt at hv
    split at hv
    · rename_i cs; exact absurd rfl (hna cs)
    · exact hv
theorem mv1_still {m : Mp} {v : Value} (hv : lt1 0 v = true) : mv1 m v = v := by
  unfold mv1
  split
  · simp [lt1] at hv
  · simp [lt1] at hv
  · simp [lt1] at hv
  · rename_i t u
    split
    · rename_i h; simp [lt1, h] at hv
    · rfl
  · rfl
theorem mv2_still {m : Mp} {v : Value} (hv : lt2 0 v = true) : mv2 m v = v := by
  unfold mv2
  split
  · rename_i cs
    simp only [lt2, List.all_eq_true] at hv
    congr 1
    have : cs.map (mv1 m) = cs.map id := Array.map_congr_left fun x hx => mv1_still (hv x (by simpa using hx))
    rw [this, Array.map_id]
  · rename_i hna
    refine mv1_still ?_
    unfold lt2 at hv
    split at hv
    · rename_i cs; exact absurd rfl (hna cs)
    · exact hv
theorem mv_still {m : Mp} {v : Value} (hv : lt 0 v = true) : mv m v = v := by
  unfold mv
  split
  · rename_i cs
    simp only [lt, List.all_eq_true] at hv
    congr 1
    have : cs.map (mv2 m) = cs.map id := Array.map_congr_left fun x hx => mv2_still (hv x (by simpa using hx))
    rw [this, Array.map_id]
  · rename_i hna
    refine mv2_still ?_
    unfold lt at hv
    split at hv
    · rename_i cs; exact absurd rfl (hna cs)
    · exact hv
theorem lt1_mono {n n' : Nat} (hn : n ≤ n') {v : Value} (hv : lt1 n v = true) : lt1 n' v = true := by
  unfold lt1 at *
  split at hv
  · simp only [blt_iff] at *; omega
  · simp only [blt_iff] at *; omega
  · simp only [blt_iff] at *; omega
  · split at hv
    · rename_i h; simp only [h, if_true, blt_iff] at *; omega
    · rename_i h; simp [h]
  · rfl
theorem lt2_mono {n n' : Nat} (hn : n ≤ n') {v : Value} (hv : lt2 n v = true) : lt2 n' v = true := by
  unfold lt2 at *
  split at hv
  · simp only [List.all_eq_true] at *; exact fun x hx => lt1_mono hn (hv x hx)
  · exact lt1_mono hn hv
theorem lt_mono {n n' : Nat} (hn : n ≤ n') {v : Value} (hv : lt n v = true) : lt n' v = true := by
  unfold lt at *
  split at hv
  · simp only [List.all_eq_true] at *; exact fun x hx => lt2_mono hn (hv x hx)
  · exact lt2_mono hn hv
theorem mv_undef (m : Mp) : mv m undef = undef := by simp [mv, undef]
theorem mv_one {m : Mp} {v : Value} (h : one v = true) : mv m v = mv1 m v := by
  cases v <;> simp_all [one, mv, mv2]
theorem lt_one {n : Nat} {v : Value} (h : one v = true) : lt n v = lt1 n v := by
  cases v <;> simp_all [one, lt, lt2]
theorem map_toL (f : Value → Value) (cs : Array Value) : cs.map f = (cs.toList.map f).toArray := by
  cases cs; simp
theorem cells_mv {m : Mp} {v : Value} (h : noT v = true) : (mv m v).cells = ((cellsL v).map (mv1 m)).toArray := by
  cases v with
  | agg cs => exact map_toL (mv1 m) cs
  | tuple vs => simp [noT] at h
  | pointer a => cases a <;> simp [mv, mv2, mv1, Value.cells, cellsL]
  | map a => cases a <;> simp [mv, mv2, mv1, Value.cells, cellsL]
  | slice a l c => cases a <;> simp [mv, mv2, mv1, Value.cells, cellsL]
  | iface t u =>
    simp only [noT, Bool.not_eq_true'] at h
    simp [mv, mv2, mv1, Value.cells, cellsL, h]
  | _ => simp [mv, mv2, mv1, Value.cells, cellsL]
theorem lt_cells {n : Nat} {v : Value} (h : noT v = true) (hv : lt n v = true) : ∀ x ∈ cellsL v, lt1 n x = true := by
  cases v with
  | agg cs => simpa only [lt, lt2, cellsL, List.all_eq_true] using hv
  | tuple vs => simp [noT] at h
  | _ => simpa [lt, lt2, cellsL] using hv
/-- a cell that holds no address -/
def still : Value → Bool
  | .pointer (some _) => false
  | .slice (some _) _ _ => false
  | .map (some _) => false
  | _ => true
theorem still_mv {m m' : Mp} {v : Value} (h : still v = true) : mv1 m v = mv1 m' v := by
  cases v with
  | pointer a => cases a <;> simp_all [still, mv1]
  | map a => cases a <;> simp_all [still, mv1]
  | slice a l c => cases a <;> simp_all [still, mv1]
  | _ => rfl
theorem still_lt {n : Nat} (hn : 0 < n) {v : Value} (h : still v = true) : lt1 n v = true := by
  cases v with
  | pointer a => cases a <;> simp_all [still, lt1]
  | map a => cases a <;> simp_all [still, lt1]
  | slice a l c => cases a <;> simp_all [still, lt1]
  | iface t u =>
    simp only [lt1]
    split
    · exact blt_iff.2 hn
    · rfl
  | _ => rfl
theorem still_map {m m' : Mp} {l : List Value} (h : ∀ v ∈ l, still v = true) : l.map (mv1 m) = l.map (mv1 m') := List.map_congr_left fun v hv => still_mv (h v hv)
/-! ### the small heap: the newest block first -/
structure Hp where
  n : Nat
  l : List (List Value × TypeId)
def Hp.blk? (h : Hp) (b : Nat) : Option (List Value × TypeId) := if Nat.blt b h.n = true then h.l[h.n - 1 - b]? else none
def Hp.push (h : Hp) (cs : List Value) (e : TypeId) : Hp := ⟨h.n + 1, (cs, e) :: h.l⟩
def Hp.put (h : Hp) (b : Nat) (x : List Value × TypeId) : Hp := ⟨h.n, h.l.set (h.n - 1 - b) x⟩
def Hp.cut (h : Hp) (n : Nat) : Hp := ⟨n, h.l.drop (h.n - n)⟩
/-- a block that is only read (it was there before): its type's number bears this mark -/
def ro (e : TypeId) : Bool := Nat.ble dead e
/-- a block of which nothing is known any more -/
def tomb (e : TypeId) : Bool := Nat.ble (2 * dead) e
theorem tomb_ro {e : TypeId} (h : ro e = false) : tomb e = false := by
  unfold tomb ro at *
  cases h1 : Nat.ble (2 * dead) e
  · rfl
  · have h2 := Nat.le_of_ble_eq_true h1
    have h3 : Nat.ble dead e = true := Nat.ble_eq_true_of_le (by omega)
    rw [h3] at h
    cases h
/-- a world's block that is known by its own number: '3 * dead + number'; it is never written, and no piece of code reaches it by the small memory -/
def ab (e : TypeId) : Bool := Nat.ble (3 * dead) e
theorem ab_ro {e : TypeId} (h : ro e = false) : ab e = false := by
  unfold ab ro at *
  cases h1 : Nat.ble (3 * dead) e
  · rfl
  · have h2 := Nat.le_of_ble_eq_true h1
    have h3 : Nat.ble dead e = true := Nat.ble_eq_true_of_le (by unfold dead at *; omega)
    rw [h3] at h
    cases h
def rt (e : TypeId) : TypeId := if Nat.ble dead e = true then e - dead else e
theorem rt_own {e : TypeId} (h : ro e = false) : rt e = e := by unfold rt; unfold ro at h; simp [h]
/-- what is known of a world's block: its first cells -/
def lie (w : World) (k : Nat × Nat) (cs : List Value) (e : TypeId) : Prop := ∃ r, ∃ z : TypeId × Nat × Nat, cs.length + r.length = k.2 ∧ w.heap[k.1]? = some (.cells (cs ++ r).toArray z.1 z.2) ∧ (ro e = false → z.1 = rt e ∧ z.2 = (0, 0))
theorem lie.congr {w w' : World} {k : Nat × Nat} {cs : List Value} {e : TypeId} (h : w'.heap[k.1]? = w.heap[k.1]?) (hl : lie w k cs e) : lie w' k cs e := by
  obtain ⟨r, z, h0, h1, h2⟩ := hl
  exact ⟨r, z, h0, by rw [h, h1], h2⟩
theorem lie.lt {w : World} {k : Nat × Nat} {cs : List Value} {e : TypeId} (hl : lie w k cs e) : k.1 < w.heap.size := by
  obtain ⟨r, z, _, h1, _⟩ := hl
  exact (Array.getElem?_eq_some_iff.1 h1).1
/-- (where a strings.Builder lets a block be frozen, nothing is said of it) -/
def iced (_ : Option Obj) : Prop := True
theorem iced_cells {o : Option Obj} {c : Array Value} {e : TypeId} (_h : o = some (.cells c e (0, 0))) : iced o := trivial
/-- a block known by the world's own number: which one it is, and how many cells it has there, if that is told (0: it is not) -/
def nbA (e : TypeId) : Nat := (e - 3 * dead) % 1048576
def lnA (e : TypeId) : Nat := (e - 3 * dead) / 1048576
def absR (w : World) (L : List Value) (e : TypeId) : Prop := ∃ r t z, w.heap[nbA e]? = some (.cells (L ++ r).toArray t z) ∧ (lnA e = 0 ∨ L.length + r.length = lnA e)
theorem absR.congr {w w' : World} {L : List Value} {e : TypeId} (h : w'.heap[nbA e]? = w.heap[nbA e]?) (hl : absR w L e) : absR w' L e := by
  obtain ⟨r, t, z, h1, h2⟩ := hl
  exact ⟨r, t, z, by rw [h, h1], h2⟩
/-! ### special blocks: maps (a map's keys and values, by turns), and objects that hold one -/
def mpT : TypeId := 4 * dead
def obT : TypeId := 4 * dead + 1
/-- blocks of the world that stay as they are, told one by one -/
def fmT : TypeId := 4 * dead + 2
def spK (e : TypeId) : Bool := Nat.beq e (4 * dead) || Nat.beq e (4 * dead + 1) || Nat.beq e (4 * dead + 2)
theorem spK_cases {e : TypeId} (h : spK e = true) : e = mpT ∨ e = obT ∨ e = fmT := by
  unfold spK at h
  rw [Bool.or_eq_true, Bool.or_eq_true] at h
  rcases h with (h | h) | h
  · exact .inl (Nat.eq_of_beq_eq_true h)
  · exact .inr (.inl (Nat.eq_of_beq_eq_true h))
  · exact .inr (.inr (Nat.eq_of_beq_eq_true h))
def obTy : TypeId := 0
theorem spK_own {e : TypeId} (h : ro e = false) : spK e = false := by
  cases h1 : spK e
  · rfl
  · exfalso
    rcases spK_cases h1 with rfl | rfl | rfl <;> cases h
theorem spK_ab {e : TypeId} (h : spK e = true) : ab e = true := by
  rcases spK_cases h with rfl | rfl | rfl <;> rfl
def flatE (es : List MapEntry) : List Value := es.flatMap fun e => [e.key, e.val]
/-- how many there are, and the keys and values -/
def headE (es : Array MapEntry) : List Value := .int .i64 (es.size : Nat) :: flatE es.toList
def mapAt (w : World) (g : Nat) (L : List Value) : Prop := ∃ es ck r, w.heap[g]? = some (.map es ck) ∧ headE es = L ++ r
def objAt (B : Nat) (w : World) (g : Nat) (L : List Value) : Prop := ∃ c q, w.heap[g]? = some (.cells (c :: q).toArray obTy (0, 0)) ∧ ((c = .map none ∧ ∃ r, headE #[] = L ++ r) ∨ ∃ g2, c = .map (some g2) ∧ B ≤ g2 ∧ mapAt w g2 L)
/-- one of these blocks: its number, its type, its cells -/
def frV : Value → Option (Nat × TypeId × Array Value)
  | .func (.func k) ⟨[.int _ t]⟩ cs => some (k, t.toNat, cs)
  | _ => none
def frAt (w : World) (L : List Value) : Prop := ∀ v ∈ L, ∀ k t cs, frV v = some (k, t, cs) → w.heap[k]? = some (.cells cs t (0, 0))
def Sp (B : Nat) (w : World) (g : Nat) (L : List Value) (e : TypeId) : Prop := (e = mpT → B ≤ g ∧ mapAt w g L) ∧ (e = obT → B ≤ g ∧ objAt B w g L) ∧ (e = fmT → frAt w L) ∧ (e ≠ fmT → g < w.heap.size)
/-- where such a block lies -/
def fpt (g : Nat) (L : List Value) (e : TypeId) (k : Nat) : Prop := (e ≠ fmT ∧ k = g) ∨ (e = fmT ∧ ∃ v ∈ L, ∃ t cs, frV v = some (k, t, cs))
theorem fpt_front {g k : Nat} {L r : List Value} {e : TypeId} (h : fpt g L e k) : fpt g (L ++ r) e k := by
  rcases h with h | ⟨h, v, hv, t, cs, hf⟩
  · exact .inl h
  · exact .inr ⟨h, v, List.mem_append_left _ hv, t, cs, hf⟩
theorem mapAt.front {w : World} {g : Nat} {L r : List Value} (h : mapAt w g (L ++ r)) : mapAt w g L := by
  obtain ⟨es, ck, r', h1, h2⟩ := h
  exact ⟨es, ck, r ++ r', h1, by rw [h2, List.append_assoc]⟩
theorem mapAt.congr {w w' : World} {g : Nat} {L : List Value} (h : w'.heap[g]? = w.heap[g]?) (hl : mapAt w g L) : mapAt w' g L := by
  obtain ⟨es, ck, r, h1, h2⟩ := hl
  exact ⟨es, ck, r, by rw [h, h1], h2⟩
theorem Sp.lt {B : Nat} {w : World} {g k : Nat} {L : List Value} {e : TypeId} (S : Sp B w g L e) (h : fpt g L e k) : k < w.heap.size := by
  obtain ⟨_, _, s3, s4⟩ := S
  rcases h with ⟨h, rfl⟩ | ⟨h, v, hv, t, cs, hf⟩
  · exact s4 h
  · exact (Array.getElem?_eq_some_iff.1 (s3 h v hv k t cs hf)).1
/-- the world's blocks there, and a map that is held, are as they were -/
theorem Sp.keep {B : Nat} {w w' : World} {g : Nat} {L : List Value} {e : TypeId} (S : Sp B w g L e) (hs : w.heap.size ≤ w'.heap.size) (h : ∀ k, fpt g L e k → w'.heap[k]? = w.heap[k]?) (hm : ∀ (g2 : Nat) (es : Array MapEntry) (ck : Nat), B ≤ g2 → w.heap[g2]? = some (.map es ck) → w'.heap[g2]? = w.heap[g2]?) : Sp B w' g L e := by
  obtain ⟨s1, s2, s3, s4⟩ := S
  have nf : ∀ q : TypeId, q ≠ fmT → e = q → fpt g L e g := fun q hq he => .inl ⟨by rw [he]; exact hq, rfl⟩
  refine ⟨fun he => ⟨(s1 he).1, (s1 he).2.congr (h _ (nf mpT (by decide) he))⟩, fun he => ?_, fun he v hv k t cs hf => ?_, fun he => Nat.lt_of_lt_of_le (s4 he) hs⟩
  · obtain ⟨b, c, q, h1, h2⟩ := s2 he
    refine ⟨b, c, q, by rw [h _ (nf obT (by decide) he), h1], ?_⟩
    rcases h2 with h2 | ⟨g2, a, b, d⟩
    · exact .inl h2
    · refine .inr ⟨g2, a, b, ?_⟩
      obtain ⟨es, ck, r, d1, d2⟩ := d
      exact ⟨es, ck, r, by rw [hm g2 es ck b d1, d1], d2⟩
  · rw [h k (.inr ⟨he, v, hv, t, cs, hf⟩)]
    exact s3 he v hv k t cs hf
theorem Sp.heap {B : Nat} {w w' : World} {g : Nat} {L : List Value} {e : TypeId} (S : Sp B w g L e) (hs : w.heap.size ≤ w'.heap.size) (h : ∀ k, k < w.heap.size → w'.heap[k]? = w.heap[k]?) : Sp B w' g L e :=
  S.keep hs (fun k hk => h k (S.lt hk)) fun g2 _ _ _ h1 => h g2 (Array.getElem?_eq_some_iff.1 h1).1
theorem Sp.cells {B : Nat} {w w' : World} {g k0 : Nat} {L : List Value} {e : TypeId} (S : Sp B w g L e) (hs : w.heap.size = w'.heap.size) (hk : ¬ fpt g L e k0) {r0 : Array Value} {ty : TypeId} {z : Nat × Nat} (hl : w.heap[k0]? = some (.cells r0 ty z)) (h : ∀ k, k ≠ k0 → w'.heap[k]? = w.heap[k]?) : Sp B w' g L e := by
  refine S.keep (Nat.le_of_eq hs) (fun k hf => h k ?_) fun g2 _ _ _ h1 => h g2 ?_
  · rintro rfl
    exact hk hf
  · rintro rfl
    rw [hl] at h1
    cases h1
theorem Sp.front {B : Nat} {w : World} {g : Nat} {L r : List Value} {e : TypeId} (S : Sp B w g (L ++ r) e) : Sp B w g L e := by
  obtain ⟨s1, s2, s3, s4⟩ := S
  refine ⟨fun he => ⟨(s1 he).1, (s1 he).2.front⟩, fun he => ?_, fun he v hv => s3 he v (List.mem_append_left _ hv), s4⟩
  obtain ⟨b, c, q, h1, h2⟩ := s2 he
  refine ⟨b, c, q, h1, ?_⟩
  rcases h2 with ⟨a, r', b⟩ | ⟨g2, a, b, d⟩
  · exact .inl ⟨a, r ++ r', by rw [b, List.append_assoc]⟩
  · exact .inr ⟨g2, a, b, d.front⟩
/-- what is known of a block that is told by a mark: a world's block by its own number, or a special one -/
def AbsOk (m : Mp) (B : Nat) (h : Hp) (w : World) (b : Nat) (x : List Value × TypeId) : Prop :=
  (spK x.2 = false → nbA x.2 < B ∧ absR w (x.1.map (mv1 m)) x.2) ∧
  (spK x.2 = true → Sp B w (m b).1 (x.1.map (mv1 m)) x.2 ∧ (∀ c y, h.blk? c = some y → ro y.2 = false → ¬ fpt (m b).1 (x.1.map (mv1 m)) x.2 (m c).1) ∧ ∀ c y, h.blk? c = some y → spK y.2 = true → Nat.beq y.2 fmT = Nat.beq x.2 fmT → c = b)
structure Emb (m : Mp) (B : Nat) (h : Hp) (w : World) : Prop where
  len : h.l.length = h.n
  lies : ∀ b x, h.blk? b = some x → tomb x.2 = false → lie w (m b) (x.1.map (mv1 m)) x.2
  low : ∀ b x, h.blk? b = some x → ro x.2 = false → B ≤ (m b).1
  ros : ∀ b x, h.blk? b = some x → tomb x.2 = false → ro x.2 = true → (m b).1 < B
  inj : ∀ b b' x x', h.blk? b = some x → h.blk? b' = some x' → ro x.2 = false → ro x'.2 = false → (m b).1 = (m b').1 → b = b'
  wf : ∀ b x, h.blk? b = some x → ∀ v ∈ x.1, lt1 h.n v = true
  base : B ≤ w.heap.size
  ice : ∀ k, B ≤ k → k < w.heap.size → iced w.heap[k]?
  abs : ∀ b x, h.blk? b = some x → ab x.2 = true → AbsOk m B h w b x
theorem Hp.blk_lt {h : Hp} {b : Nat} {x : List Value × TypeId} (hb : h.blk? b = some x) : b < h.n := by
  unfold Hp.blk? at hb
  split at hb
  · rename_i hlt; exact blt_iff.1 hlt
  · cases hb
theorem Emb.blk {m : Mp} {B : Nat} {h : Hp} {w : World} (E : Emb m B h w) {b : Nat} (hb : b < h.n) : ∃ x, h.blk? b = some x := by
  have hl : h.n - 1 - b < h.l.length := by rw [E.len]; omega
  exact ⟨h.l[h.n - 1 - b], by unfold Hp.blk?; rw [if_pos (blt_iff.2 hb), List.getElem?_eq_getElem hl]⟩
theorem Emb.here {m : Mp} {B : Nat} {h : Hp} {w : World} (E : Emb m B h w) {b : Nat} {x : List Value × TypeId} (hb : h.blk? b = some x) (hx : tomb x.2 = false) : (m b).1 < w.heap.size := (E.lies b x hb hx).lt
/-- nothing lies yet -/
theorem Emb.none (w : World) : Emb (fun b => (b, 0)) w.heap.size ⟨0, []⟩ w :=
  ⟨rfl, fun b x hb => absurd (Hp.blk_lt hb) (Nat.not_lt_zero _), fun b x hb => absurd (Hp.blk_lt hb) (Nat.not_lt_zero _), fun b x hb => absurd (Hp.blk_lt hb) (Nat.not_lt_zero _), fun b b' x x' hb => absurd (Hp.blk_lt hb) (Nat.not_lt_zero _), fun b x hb => absurd (Hp.blk_lt hb) (Nat.not_lt_zero _), Nat.le_refl _, fun k h1 h2 => by omega, fun b x hb => absurd (Hp.blk_lt hb) (Nat.not_lt_zero _)⟩
def upd (m : Mp) (n : Nat) (k : Nat × Nat) : Mp := fun b => if b = n then k else m b
theorem upd_agree (m : Mp) (n : Nat) (k : Nat × Nat) : Agree m (upd m n k) n := fun b hb => by simp [upd, Nat.ne_of_lt hb]
theorem map_agree {m m' : Mp} {n : Nat} (h : Agree m m' n) {l : List Value} (hl : ∀ v ∈ l, lt1 n v = true) : l.map (mv1 m') = l.map (mv1 m) :=
  List.map_congr_left fun v hv => mv1_agree h (hl v hv)
theorem Hp.blk_push {h : Hp} {cs : List Value} {e : TypeId} {b : Nat} (_hl : h.l.length = h.n) :
    (h.push cs e).blk? b = if b = h.n then some (cs, e) else h.blk? b := by
  unfold Hp.blk? Hp.push
  simp only [blt_iff]
  by_cases h1 : b = h.n
  · subst h1; simp
  · by_cases h2 : b < h.n
    · have e1 : h.n + 1 - 1 - b = (h.n - 1 - b) + 1 := by omega
      rw [if_pos (by omega : b < h.n + 1), if_neg h1, if_pos h2, e1, List.getElem?_cons_succ]
    · rw [if_neg (by omega : ¬ b < h.n + 1), if_neg h1, if_neg h2]
theorem size_alloc' (w : World) (o : Obj) : (w.alloc o).heap.size = w.heap.size + 1 := by unfold World.alloc; exact Array.size_push _
theorem heap_alloc_at (w : World) (o : Obj) : (w.alloc o).heap[w.heap.size]? = some o := by unfold World.alloc; exact Array.getElem?_push_size
theorem heap_alloc_ne (w : World) (o : Obj) (k : Nat) (h : k ≠ w.heap.size) : (w.alloc o).heap[k]? = w.heap[k]? := by
  unfold World.alloc
  show (w.heap.push o)[k]? = w.heap[k]?
  rw [Array.getElem?_push, if_neg h]
theorem AbsOk.of {m : Mp} {B : Nat} {h : Hp} {w : World} {b : Nat} {x : List Value × TypeId} (hs : spK x.2 = false) (A : nbA x.2 < B ∧ absR w (x.1.map (mv1 m)) x.2) : AbsOk m B h w b x := ⟨fun _ => A, fun h' => by rw [hs] at h'; cases h'⟩
theorem AbsOk.heap {m : Mp} {B : Nat} {h : Hp} {w w' : World} {b : Nat} {x : List Value × TypeId} (A : AbsOk m B h w b x) (hB : B ≤ w.heap.size) (hs : w.heap.size ≤ w'.heap.size) (hk : ∀ k, k < w.heap.size → w'.heap[k]? = w.heap[k]?) : AbsOk m B h w' b x := by
  refine ⟨fun he => ?_, fun he => ?_⟩
  · obtain ⟨k1, k2⟩ := A.1 he
    exact ⟨k1, k2.congr (hk _ (Nat.lt_of_lt_of_le k1 hB))⟩
  · obtain ⟨k2, k3, k4⟩ := A.2 he
    exact ⟨k2.heap hs hk, k3, k4⟩
theorem AbsOk.push {m : Mp} {B : Nat} {h : Hp} {w : World} {b : Nat} {x : List Value × TypeId} (A : AbsOk m B h w b x) (hl : h.l.length = h.n) (hb : b < h.n) (hwf : ∀ v ∈ x.1, lt1 h.n v = true) {cs : List Value} {e : TypeId} (he : ro e = false) {q : Nat × Nat} (hq : spK x.2 = true → ¬ fpt (m b).1 (x.1.map (mv1 m)) x.2 q.1) : AbsOk (upd m h.n q) B (h.push cs e) w b x := by
  have eb : upd m h.n q b = m b := upd_agree m h.n q b hb
  have ec := map_agree (upd_agree m h.n q) hwf
  refine ⟨fun hs => ?_, fun hs => ?_⟩
  · rw [ec]
    exact A.1 hs
  · obtain ⟨k2, k3, k4⟩ := A.2 hs
    rw [eb, ec]
    refine ⟨k2, fun c y hc hy => ?_, fun c y hc hy => ?_⟩
    · rw [Hp.blk_push hl] at hc
      split at hc
      · rename_i hcn
        rw [hcn, show upd m h.n q h.n = q by simp [upd]]
        exact hq hs
      · rename_i hcn
        rw [show upd m h.n q c = m c by simp [upd, hcn]]
        exact k3 c y hc hy
    · rw [Hp.blk_push hl] at hc
      split at hc
      · cases hc
        rw [spK_own he] at hy
        cases hy
      · exact k4 c y hc hy
theorem AbsOk.put {m : Mp} {B : Nat} {h : Hp} {w : World} {b : Nat} {x : List Value × TypeId} (A : AbsOk m B h w b x) {k : Nat} {z : List Value × TypeId} (hb : ∀ c, (h.put k z).blk? c = if c = k then some z else h.blk? c) (hz : ro z.2 = false → ∃ y, h.blk? k = some y ∧ ro y.2 = false) (hs : spK z.2 = false) : AbsOk m B (h.put k z) w b x := by
  refine ⟨A.1, fun he => ?_⟩
  obtain ⟨k2, k3, k4⟩ := A.2 he
  refine ⟨k2, fun c y hc hy => ?_, fun c y hc hy => ?_⟩
  · rw [hb] at hc
    split at hc
    · rename_i hck
      cases hc
      obtain ⟨y', h1, h2⟩ := hz hy
      rw [hck]
      exact k3 _ _ h1 h2
    · exact k3 c y hc hy
  · rw [hb] at hc
    split at hc
    · cases hc
      rw [hs] at hy
      cases hy
    · exact k4 c y hc hy
theorem AbsOk.cells {m : Mp} {B : Nat} {h : Hp} {w w' : World} {b : Nat} {x : List Value × TypeId} (A : AbsOk m B h w b x) {k0 : Nat} (hB : B ≤ k0) (hs : w.heap.size = w'.heap.size) (hk : spK x.2 = true → ¬ fpt (m b).1 (x.1.map (mv1 m)) x.2 k0) {r0 : Array Value} {ty : TypeId} {z : Nat × Nat} (hl : w.heap[k0]? = some (.cells r0 ty z)) (h0 : ∀ k, k ≠ k0 → w'.heap[k]? = w.heap[k]?) : AbsOk m B h w' b x := by
  refine ⟨fun he => ?_, fun he => ?_⟩
  · obtain ⟨k1, k2⟩ := A.1 he
    exact ⟨k1, k2.congr (h0 _ (Nat.ne_of_lt (Nat.lt_of_lt_of_le k1 hB)))⟩
  · obtain ⟨k2, k3, k4⟩ := A.2 he
    exact ⟨k2.cells hs (hk he) hl h0, k3, k4⟩
/-- the blocks' numbers changed -/
theorem AbsOk.ren {m : Mp} {B : Nat} {h h' : Hp} {w : World} {b : Nat} {x y : List Value × TypeId} {f : Nat → Nat} (A : AbsOk m B h w (f b) y) {r : List Value} (hy : y.2 = x.2) (hc : y.1.map (mv1 m) = x.1.map (mv1 fun i => m (f i)) ++ r) (hb : ∀ c z, h'.blk? c = some z → ∃ z', h.blk? (f c) = some z' ∧ z'.2 = z.2) (hi : ∀ c z, h'.blk? c = some z → spK z.2 = true → spK x.2 = true → f c = f b → c = b) : AbsOk (fun i => m (f i)) B h' w b x := by
  obtain ⟨a1, a2⟩ := A
  rw [hy, hc] at a1 a2
  refine ⟨fun hs => ?_, fun hs => ?_⟩
  · obtain ⟨e1, r0, t0, z, e2, e3⟩ := a1 hs
    exact ⟨e1, r ++ r0, t0, z, by rw [e2, List.append_assoc], by rw [List.length_append]; rw [List.length_append] at e3; omega⟩
  · obtain ⟨k2, k3, k4⟩ := a2 hs
    refine ⟨k2.front, fun c z hz ho hf => ?_, fun c z hz ho hm => ?_⟩
    · obtain ⟨z', h1, h2⟩ := hb c z hz
      exact k3 _ z' h1 (by rw [h2]; exact ho) (fpt_front hf)
    · obtain ⟨z', h1, h2⟩ := hb c z hz
      exact hi c z hz ho hs (k4 _ z' h1 (by rw [h2]; exact ho) (by rw [h2]; exact hm))
theorem Emb.push {m : Mp} {B : Nat} {h : Hp} {w : World} (E : Emb m B h w) (cs : List Value) (r : List Value) (e : TypeId) (he : ro e = false) (hcs : ∀ v ∈ cs, lt1 h.n v = true) {k : Nat} (hk : cs.length + r.length = k) :
    Emb (upd m h.n (w.heap.size, k)) B (h.push cs e) (w.alloc (.cells (cs.map (mv1 m) ++ r).toArray e (0, 0))) where
  len := by simp [Hp.push, E.len]
  lies := by
    intro b x hb hx
    rw [Hp.blk_push E.len] at hb
    by_cases h1 : b = h.n
    · rw [if_pos h1] at hb
      cases hb
      subst h1
      have e1 : upd m h.n (w.heap.size, k) h.n = (w.heap.size, k) := by simp [upd]
      have e2 : rt e = e := by unfold rt; unfold ro at he; simp [he]
      rw [e1, map_agree (upd_agree m h.n (w.heap.size, k)) hcs]
      exact ⟨r, (e, 0, 0), by simpa using hk, by rw [heap_alloc_at], fun _ => ⟨e2.symm, rfl⟩⟩
    · rw [if_neg h1] at hb
      have h2 := E.lies b x hb hx
      have e1 : upd m h.n (w.heap.size, k) b = m b := by simp [upd, h1]
      rw [e1, map_agree (upd_agree m h.n (w.heap.size, k)) (E.wf b x hb)]
      exact h2.congr (heap_alloc_ne _ _ _ (Nat.ne_of_lt h2.lt))
  low := by
    intro b x hb hx
    rw [Hp.blk_push E.len] at hb
    unfold upd
    split at hb
    · rename_i h1; rw [if_pos h1]; exact E.base
    · rename_i h1; rw [if_neg h1]; exact E.low b x hb hx
  ros := by
    intro b x hb hx hr
    rw [Hp.blk_push E.len] at hb
    unfold upd
    split at hb
    · cases hb; rw [he] at hr; cases hr
    · rename_i h1; rw [if_neg h1]; exact E.ros b x hb hx hr
  inj := by
    intro b b' x x' hb hb' hx hx' heq
    rw [Hp.blk_push E.len] at hb hb'
    unfold upd at heq
    split at hb <;> split at hb'
    · omega
    · rename_i h1 h2
      rw [if_pos h1, if_neg h2] at heq
      have := E.here hb' (tomb_ro hx')
      omega
    · rename_i h1 h2
      rw [if_neg h1, if_pos h2] at heq
      have := E.here hb (tomb_ro hx)
      omega
    · rename_i h1 h2
      rw [if_neg h1, if_neg h2] at heq
      exact E.inj b b' x x' hb hb' hx hx' heq
  wf := by
    intro b x hb v hv
    rw [Hp.blk_push E.len] at hb
    simp only [Hp.push]
    by_cases h1 : b = h.n
    · rw [if_pos h1] at hb
      cases hb
      exact lt1_mono (Nat.le_succ _) (hcs v hv)
    · rw [if_neg h1] at hb
      exact lt1_mono (Nat.le_succ _) (E.wf b x hb v hv)
  base := by have := E.base; rw [size_alloc']; omega
  ice := by
    intro k hk hk'
    rw [size_alloc'] at hk'
    by_cases h1 : k = w.heap.size
    · subst h1; exact iced_cells (heap_alloc_at _ _)
    · rw [heap_alloc_ne _ _ _ h1]; exact E.ice k hk (by omega)
  abs := by
    intro b x hb hx
    rw [Hp.blk_push E.len] at hb
    split at hb
    · cases hb
      rw [ab_ro he] at hx
      cases hx
    · have A := E.abs b x hb hx
      have hk : ∀ k, k < w.heap.size → (w.alloc (.cells (cs.map (mv1 m) ++ r).toArray e (0, 0))).heap[k]? = w.heap[k]? := fun k hk => heap_alloc_ne _ _ _ (Nat.ne_of_lt hk)
      refine (A.push E.len (Hp.blk_lt hb) (E.wf b x hb) he fun hs => ?_).heap E.base (by rw [size_alloc']; omega) hk
      exact fun hf => Nat.lt_irrefl _ ((A.2 hs).1.lt hf)
theorem setRow_other (w : World) (g k : Nat) (cs : Array Value) (h : g ≠ k) : (w.setRow g cs).heap[k]? = w.heap[k]? := by
  simp [World.setRow, Array.getElem?_modify, h]
theorem setRow_size (w : World) (g : Nat) (cs : Array Value) : (w.setRow g cs).heap.size = w.heap.size := by simp [World.setRow]
theorem Hp.blk_put {h : Hp} {b c : Nat} {x : List Value × TypeId} (hl : h.l.length = h.n) (hb : b < h.n) :
    (h.put b x).blk? c = if c = b then some x else h.blk? c := by
  unfold Hp.blk? Hp.put
  simp only [blt_iff]
  by_cases h1 : c = b
  · subst h1
    rw [if_pos hb, if_pos rfl, List.getElem?_set]
    simp
    omega
  · rw [if_neg h1]
    by_cases h2 : c < h.n
    · rw [if_pos h2, List.getElem?_set_ne (by omega), if_pos h2]
    · rw [if_neg h2, if_neg h2]
theorem Emb.put {m : Mp} {B : Nat} {h : Hp} {w : World} (E : Emb m B h w) {b : Nat} {x : List Value × TypeId} (hb : h.blk? b = some x) (hx : ro x.2 = false) {r0 : Array Value} (hl : w.heap[(m b).1]? = some (.cells r0 (rt x.2) (0, 0))) (cs r : List Value)
    (hcs : ∀ v ∈ cs, lt1 h.n v = true) (hk : cs.length + r.length = (m b).2) : Emb m B (h.put b (cs, x.2)) (w.setRow (m b).1 (cs.map (mv1 m) ++ r).toArray) where
  len := by simp [Hp.put, E.len]
  lies := by
    intro c y hc hy
    rw [Hp.blk_put E.len (Hp.blk_lt hb)] at hc
    by_cases h1 : c = b
    · rw [if_pos h1] at hc
      cases hc
      rw [h1]
      exact ⟨r, (rt x.2, 0, 0), by simpa using hk, setRow_heap w _ _ _ _ _ hl, fun _ => ⟨rfl, rfl⟩⟩
    · rw [if_neg h1] at hc
      refine (E.lies c y hc hy).congr (setRow_other _ _ _ _ fun heq => ?_)
      cases hr : ro y.2
      · exact h1 (E.inj _ _ _ _ hc hb hr hx heq.symm)
      · have k1 := E.ros c y hc hy hr
        have k2 := E.low b x hb hx
        omega
  low := by
    intro c y hc hy
    rw [Hp.blk_put E.len (Hp.blk_lt hb)] at hc
    split at hc
    · rename_i h1; subst h1; exact E.low _ x hb hx
    · exact E.low c y hc hy
  ros := by
    intro c y hc hy hr
    rw [Hp.blk_put E.len (Hp.blk_lt hb)] at hc
    split at hc
    · cases hc; rw [hx] at hr; cases hr
    · exact E.ros c y hc hy hr
  inj := by
    have back : ∀ c y, (h.put b (cs, x.2)).blk? c = some y → ro y.2 = false → ∃ y', h.blk? c = some y' ∧ ro y'.2 = false := by
      intro c y hc hy
      rw [Hp.blk_put E.len (Hp.blk_lt hb)] at hc
      split at hc
      · rename_i h1; subst h1; exact ⟨x, hb, hx⟩
      · exact ⟨y, hc, hy⟩
    intro c c' y y' hc hc' hy hy' heq
    obtain ⟨z, hz, k⟩ := back c y hc hy
    obtain ⟨z', hz', k'⟩ := back c' y' hc' hy'
    exact E.inj c c' z z' hz hz' k k' heq
  wf := by
    intro c y hc v hv
    rw [Hp.blk_put E.len (Hp.blk_lt hb)] at hc
    by_cases h1 : c = b
    · rw [if_pos h1] at hc; cases hc; exact hcs v hv
    · rw [if_neg h1] at hc; exact E.wf c y hc v hv
  base := by rw [setRow_size]; exact E.base
  ice := by
    intro k hk hk'
    rw [setRow_size] at hk'
    by_cases h1 : (m b).1 = k
    · subst h1; exact iced_cells (setRow_heap w _ _ _ _ _ hl)
    · rw [setRow_other _ _ _ _ h1]; exact E.ice k hk hk'
  abs := by
    intro c y hc hy
    have hbp := fun c => Hp.blk_put (x := (cs, x.2)) (c := c) E.len (Hp.blk_lt hb)
    rw [hbp] at hc
    split at hc
    · cases hc
      rw [ab_ro hx] at hy
      cases hy
    · have A := E.abs c y hc hy
      exact (A.put hbp (fun _ => ⟨x, hb, hx⟩) (spK_own hx)).cells (E.low b x hb hx) (setRow_size _ _ _).symm (fun hs => (A.2 hs).2.1 b x hb hx) hl fun k hk => setRow_other _ _ _ _ hk.symm
/-- a block is let be: nothing is known of it from now on -/
theorem Emb.bury {m : Mp} {B : Nat} {h : Hp} {w : World} (E : Emb m B h w) {b : Nat} (hb : b < h.n) : Emb m B (h.put b ([], 2 * dead)) w where
  len := by simp [Hp.put, E.len]
  lies := by
    intro c y hc hy
    rw [Hp.blk_put E.len hb] at hc
    split at hc
    · cases hc; cases hy
    · exact E.lies c y hc hy
  low := by
    intro c y hc hy
    rw [Hp.blk_put E.len hb] at hc
    split at hc
    · cases hc; cases hy
    · exact E.low c y hc hy
  ros := by
    intro c y hc hy hr
    rw [Hp.blk_put E.len hb] at hc
    split at hc
    · cases hc; cases hy
    · exact E.ros c y hc hy hr
  inj := by
    have back : ∀ c y, (h.put b ([], 2 * dead)).blk? c = some y → ro y.2 = false → h.blk? c = some y := by
      intro c y hc hy
      rw [Hp.blk_put E.len hb] at hc
      split at hc
      · cases hc; cases hy
      · exact hc
    intro c c' y y' hc hc' hy hy' heq
    exact E.inj c c' y y' (back c y hc hy) (back c' y' hc' hy') hy hy' heq
  wf := by
    intro c y hc v hv
    rw [Hp.blk_put E.len hb] at hc
    split at hc
    · cases hc; cases hv
    · exact E.wf c y hc v hv
  base := E.base
  ice := E.ice
  abs := by
    intro c y hc hy
    have hbp := fun c => Hp.blk_put (x := ([], 2 * dead)) (c := c) E.len hb
    rw [hbp] at hc
    split at hc
    · cases hc; cases hy
    · exact (E.abs c y hc hy).put hbp (fun h => by cases h) rfl
/-- a block that is there and is no small one becomes a small one -/
theorem Emb.adopt {m : Mp} {B : Nat} {h : Hp} {w : World} (E : Emb m B h w) (cs : List Value) (e : TypeId) (he : ro e = false) (hcs : ∀ v ∈ cs, lt1 h.n v = true) {k : Nat × Nat} (hk : lie w k (cs.map (mv1 m)) e) (hB : B ≤ k.1)
    (hf : ∀ b x, h.blk? b = some x → ro x.2 = false → (m b).1 ≠ k.1) (hsp : ∀ b x, h.blk? b = some x → spK x.2 = true → ¬ fpt (m b).1 (x.1.map (mv1 m)) x.2 k.1) : Emb (upd m h.n k) B (h.push cs e) w where
  len := by simp [Hp.push, E.len]
  lies := by
    intro b x hb hx
    rw [Hp.blk_push E.len] at hb
    by_cases h1 : b = h.n
    · rw [if_pos h1] at hb
      cases hb
      subst h1
      have e1 : upd m h.n k h.n = k := by simp [upd]
      rw [e1, map_agree (upd_agree m h.n k) hcs]
      exact hk
    · rw [if_neg h1] at hb
      have e1 : upd m h.n k b = m b := by simp [upd, h1]
      rw [e1, map_agree (upd_agree m h.n k) (E.wf b x hb)]
      exact E.lies b x hb hx
  low := by
    intro b x hb hx
    rw [Hp.blk_push E.len] at hb
    unfold upd
    split at hb
    · rename_i h1; rw [if_pos h1]; exact hB
    · rename_i h1; rw [if_neg h1]; exact E.low b x hb hx
  ros := by
    intro b x hb hx hr
    rw [Hp.blk_push E.len] at hb
    unfold upd
    split at hb
    · cases hb; rw [he] at hr; cases hr
    · rename_i h1; rw [if_neg h1]; exact E.ros b x hb hx hr
  inj := by
    intro b b' x x' hb hb' hx hx' heq
    rw [Hp.blk_push E.len] at hb hb'
    unfold upd at heq
    split at hb <;> split at hb'
    · omega
    · rename_i h1 h2
      rw [if_pos h1, if_neg h2] at heq
      exact absurd heq.symm (hf b' x' hb' hx')
    · rename_i h1 h2
      rw [if_neg h1, if_pos h2] at heq
      exact absurd heq (hf b x hb hx)
    · rename_i h1 h2
      rw [if_neg h1, if_neg h2] at heq
      exact E.inj b b' x x' hb hb' hx hx' heq
  wf := by
    intro b x hb v hv
    rw [Hp.blk_push E.len] at hb
    simp only [Hp.push]
    by_cases h1 : b = h.n
    · rw [if_pos h1] at hb
      cases hb
      exact lt1_mono (Nat.le_succ _) (hcs v hv)
    · rw [if_neg h1] at hb
      exact lt1_mono (Nat.le_succ _) (E.wf b x hb v hv)
  base := E.base
  ice := E.ice
  abs := by
    intro b x hb hx
    rw [Hp.blk_push E.len] at hb
    split at hb
    · cases hb
      rw [ab_ro he] at hx
      cases hx
    · exact (E.abs b x hb hx).push E.len (Hp.blk_lt hb) (E.wf b x hb) he fun hs => hsp b x hb hs
theorem below_setRow {B : Nat} {a w : World} (h : Below B a w) {g : Nat} (hg : B ≤ g) (cs : Array Value) : Below B a (w.setRow g cs) :=
  ⟨h.os, h.tape, h.output, by rw [setRow_size]; exact h.size, fun k hk => by rw [setRow_other _ _ _ _ (by omega)]; exact h.block k hk⟩
theorem Hp.blk_cut {h : Hp} {n b : Nat} (hn : n ≤ h.n) (hb : b < n) : (h.cut n).blk? b = h.blk? b := by
  unfold Hp.blk? Hp.cut
  simp only [blt_iff]
  rw [if_pos hb, if_pos (by omega), List.getElem?_drop]
  congr 1
  omega
/-- no blocks are told one by one -/
def Hp.nofm (h : Hp) : Bool := h.l.all fun x => !(Nat.beq x.2 fmT)
def Hp.tight (h : Hp) : Bool := h.l.all fun x => x.1.all (lt1 h.n)
theorem Hp.tight_spec {h : Hp} (ht : h.tight = true) {b : Nat} {x : List Value × TypeId} (hb : h.blk? b = some x) : ∀ v ∈ x.1, lt1 h.n v = true := by
  unfold Hp.tight at ht
  simp only [List.all_eq_true] at ht
  unfold Hp.blk? at hb
  split at hb
  · exact ht x (List.mem_of_getElem? hb)
  · cases hb
/-- Behind a call: what it made is let go. -/
theorem Emb.cut {m m' : Mp} {B : Nat} {h : Hp} {w : World} {n : Nat} (E : Emb m' B h w) (hm : Agree m m' n) (hn : n ≤ h.n) (ht : (h.cut n).tight = true) : Emb m B (h.cut n) w where
  len := by simp [Hp.cut, E.len]; omega
  lies := by
    intro b x hb hx
    have hlt : b < n := Hp.blk_lt hb
    have hwf := Hp.tight_spec ht hb
    rw [Hp.blk_cut hn hlt] at hb
    rw [← hm b hlt, ← map_agree (m := m) (m' := m') hm hwf]
    exact E.lies b x hb hx
  low := fun b x hb hx => by
    have hlt : b < n := Hp.blk_lt hb
    rw [Hp.blk_cut hn hlt] at hb
    rw [← hm b hlt]
    exact E.low b x hb hx
  ros := fun b x hb hx hr => by
    have hlt : b < n := Hp.blk_lt hb
    rw [Hp.blk_cut hn hlt] at hb
    rw [← hm b hlt]
    exact E.ros b x hb hx hr
  inj := fun b b' x x' hb hb' hx hx' heq => by
    have hlt : b < n := Hp.blk_lt hb
    have hlt' : b' < n := Hp.blk_lt hb'
    rw [Hp.blk_cut hn hlt] at hb
    rw [Hp.blk_cut hn hlt'] at hb'
    rw [← hm b hlt, ← hm b' hlt'] at heq
    exact E.inj b b' x x' hb hb' hx hx' heq
  wf := fun b x hb => Hp.tight_spec ht hb
  base := E.base
  ice := E.ice
  abs := fun b x hb hx => by
    have hlt : b < n := Hp.blk_lt hb
    have hwf := Hp.tight_spec ht hb
    have hb' := hb
    rw [Hp.blk_cut hn hlt] at hb'
    have A := E.abs b x hb' hx
    have ec := map_agree (m := m) (m' := m') hm hwf
    refine ⟨fun hs => by rw [← ec]; exact A.1 hs, fun hs => ?_⟩
    obtain ⟨k2, k3, k4⟩ := A.2 hs
    rw [← ec, ← hm b hlt]
    refine ⟨k2, fun c y hc hy => ?_, fun c y hc hy => ?_⟩
    · have hc' := Hp.blk_lt hc
      rw [Hp.blk_cut hn hc'] at hc
      rw [← hm c hc']
      exact k3 c y hc hy
    · have hc' := Hp.blk_lt hc
      rw [Hp.blk_cut hn hc'] at hc
      exact k4 c y hc hy
end Go.KRun
