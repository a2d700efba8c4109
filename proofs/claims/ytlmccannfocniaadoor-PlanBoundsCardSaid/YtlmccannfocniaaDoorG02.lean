/-
  RunB
-/
import Derived.Test.YtlmccannfocniaaDoorG01
namespace Go.KRun
open Go.RowKit
abbrev Log := List (Bool × Bool)
def okLog (c : Log) : Prop := ∀ x ∈ c, x.1 = x.2
/-- what is decided ahead: a test's outcome, a number's value, whether two arrays are the same, how two numbers compare, that an index is in range (a store's, too), what a cell holds -/
abbrev Dec := Sum Bool (Sum Int (Sum Bool (Sum Bool (Sum Unit Value))))
abbrev num (k : Int) : Dec := .inr (.inl k)
abbrev cmp (d : Bool) : Dec := .inr (.inr (.inr (.inl d)))
abbrev at_ : Dec := .inr (.inr (.inr (.inr (.inl ()))))
abbrev val (v : Value) : Dec := .inr (.inr (.inr (.inr (.inr v))))
/-- What the reckoner is given: the program, its functions with bodies, what is known of calls. -/
structure Tab where
  P : Program
  fn : Nat → Option Func
  ext : Nat → List Value → Option (Value × Log)
  con : Nat → List Value → List Dec → Option (Value × List Dec × Log)
  sym : Bool
  hc : Nat → List Value → Hp → List Dec → Option (Value × Hp × List Dec × Log) := fun _ _ _ _ => none
  auto : Bool := false
def ev (t : List Value) : Operand → Value
  | .tmp i => t.getD i undef
  | .const v => v
  | .global g => .pointer (some ⟨g, 0, none⟩)
  | .func f => .func (.func f) #[] #[]
def okX : Operand → Bool
  | .tmp _ => true
  | .const v => lt 0 v
  | .global _ => false
  | .func _ => true
theorem eval_mv {m : Mp} {t : List Value} {a : Act} (ha : a.tmps = (t.map (mv m)).toArray) {x : Operand} (hx : okX x = true) : a.eval x = mv m (ev t x) := by
  cases x with
  | tmp i =>
    simp only [Act.eval, ev, ha]
    cases h : t[i]? with
    | none => simp [List.getD, h, mv_undef]
    | some v => simp [List.getD, h]
  | const v => simp only [Act.eval, ev]; exact (mv_still hx).symm
  | global g => simp [okX] at hx
  | func f => simp [Act.eval, ev, mv, mv2, mv1]
theorem ev_lt {n : Nat} {t : List Value} (ht : ∀ v ∈ t, lt n v = true) {x : Operand} (hx : okX x = true) : lt n (ev t x) = true := by
  cases x with
  | tmp i =>
    simp only [ev, List.getD]
    cases h : t[i]? with
    | none => simp [undef, lt]
    | some v => exact ht v (List.mem_of_getElem? h)
  | const v => exact lt_mono (Nat.zero_le _) hx
  | global g => simp [okX] at hx
  | func f => simp [ev, lt, lt2, lt1]
def runP (P : Program) {α : Type} : Sem α → Option α
  | .pure a => some a
  | .program k => runP P (k P)
  | .mark _ k => runP P k
  | _ => none
theorem runP_run {P : Program} {α : Type} {s : Sem α} {v : α} (h : runP P s = some v) (w : World) : s.run P w = .ok v w := by
  induction s with
  | pure a => simp [runP] at h; subst h; rfl
  | program k ih => simp only [runP] at h; exact ih P h
  | mark x k ih => simp only [runP] at h; simp only [Sem.run]; exact ih h
  | _ => simp [runP] at h
def pickB (b : Bool) : List Dec → Bool × List Dec × Log
  | .inl d :: s => (d, s, [(b, d)])
  | s => (b, s, [])
theorem pickB_ok {b : Bool} {s : List Dec} (h : okLog (pickB b s).2.2) : (pickB b s).1 = b := by
  unfold pickB at *
  split at h
  · rename_i d s
    exact (h (b, d) (List.mem_singleton.2 rfl)).symm
  · rfl
/-! ### a load, a store, an address -/
def loadS (P : Program) (ty : TypeId) (a : Addr) (h : Hp) : Option Value :=
  match a.spot with
  | some _ => none
  | none =>
    match h.blk? a.block with
    | none => none
    | some x =>
      match (if tomb x.2 = true then none else P.underlying ty) with
      | none => none
      | some (.struct _) | some (.array _ _) =>
        match P.info? ty with
        | none => none
        | some i => if Nat.beq ((x.1.drop a.off).take i.size).length i.size = true then some (.agg ((x.1.drop a.off).take i.size).toArray) else none
      | some _ =>
        match x.1[a.off]? with
        | some v => if one v = true then some v else none
        | none => none
theorem mvA_none {m : Mp} {a : Addr} (h : a.spot = none) : mvA m a = ⟨(m a.block).1, a.off, none⟩ := by cases a; simp_all [mvA]
theorem cell_lies {m : Mp} {w : World} {b : Nat} {x : List Value × TypeId} (E : lie w (m b) (x.1.map (mv1 m)) x.2) {o : Nat} {v : Value} (hv : x.1[o]? = some v) :
    w.cell? ⟨(m b).1, o, none⟩ = some (mv1 m v) := by
  obtain ⟨r, z, _, h1, _⟩ := E
  have ho : o < x.1.length := (List.getElem?_eq_some_iff.1 hv).1
  have e : (x.1.map (mv1 m) ++ r)[o]? = some (mv1 m v) := by
    rw [List.getElem?_append_left (by simpa using ho), List.getElem?_map, hv]
    rfl
  simp only [World.cell?, h1]
  simpa using e
def aggD : TypeDesc → Bool
  | .struct _ | .array _ _ => true
  | _ => false
theorem isAgg_run {P : Program} {ty : TypeId} {d : TypeDesc} (h : P.underlying ty = some d) (w : World) :
    (isAgg ty).run P w = .ok (aggD d) w := by
  cases d <;> simp [isAgg, underlying, h, aggD]
theorem loadAgg_run {m : Mp} {w : World} {P : Program} {ty : TypeId} {b o : Nat} {x : List Value × TypeId} (E : lie w (m b) (x.1.map (mv1 m)) x.2) {i : TypeInfo} (hi : P.info? ty = some i)
    {d : TypeDesc} (hd : P.underlying ty = some d) (hda : (aggD d) = true)
    (hn : ((x.1.drop o).take i.size).length = i.size) :
    (Instr.loadAt ty (.pointer (some ⟨(m b).1, o, none⟩))).run P w = .ok (mv m (.agg ((x.1.drop o).take i.size).toArray)) w := by
  have hl := run_loadCells_list (P := P) w ⟨(m b).1, o, none⟩ (((x.1.drop o).take i.size).map (mv1 m)) (fun j v hj => by
    have e : (⟨(m b).1, o, none⟩ : Addr).add j = ⟨(m b).1, o + j, none⟩ := by unfold Addr.add; split <;> simp_all
    rw [e]
    rw [List.getElem?_map, List.getElem?_take] at hj
    split at hj
    · rw [List.getElem?_drop] at hj
      obtain ⟨u, hu, rfl⟩ := Option.map_eq_some_iff.1 hj
      exact cell_lies E hu
    · simp at hj)
  rw [List.length_map, hn] at hl
  simp only [Instr.loadAt, Instr.sureAddr, loadVar, Sem.run_bind, Sem.run_pure, Result.andThen_ok, isAgg_run hd, hda, if_true, sizeOf, typeInfo, run_program, hi]
  simp [hl, mv, mv2]
theorem loadS_at {m : Mp} {h : Hp} {w : World} {P : Program} {ty : TypeId} {a : Addr} {v : Value} (E0 : ∀ x, h.blk? a.block = some x → tomb x.2 = false → lie w (m a.block) (x.1.map (mv1 m)) x.2)
    (W0 : ∀ x, h.blk? a.block = some x → ∀ v ∈ x.1, lt1 h.n v = true) (hl : loadS P ty a h = some v) :
    (Instr.loadAt ty (.pointer (some (mvA m a)))).run P w = .ok (mv m v) w ∧ lt h.n v = true := by
  unfold loadS at hl
  split at hl
  · cases hl
  · rename_i hsp
    rw [mvA_none hsp]
    split at hl
    · cases hl
    · rename_i x hx
      have wf := W0 _ hx
      cases htb : tomb x.2 with
      | true =>
        rw [htb] at hl
        simp at hl
      | false =>
      rw [htb] at hl
      simp only [Bool.false_eq_true, if_false] at hl
      have E := E0 _ hx htb
      have agg : ∀ d, P.underlying ty = some d → (aggD d) = true →
          (match P.info? ty with
            | none => none
            | some i => if Nat.beq ((x.1.drop a.off).take i.size).length i.size = true then some (Value.agg ((x.1.drop a.off).take i.size).toArray) else none) = some v →
          (Instr.loadAt ty (.pointer (some ⟨(m a.block).1, a.off, none⟩))).run P w = .ok (mv m v) w ∧ lt h.n v = true := by
        intro d hd hda hq
        split at hq
        · cases hq
        · rename_i i hi
          split at hq
          · rename_i hbe
            cases hq
            refine ⟨loadAgg_run E hi hd hda (Nat.eq_of_beq_eq_true hbe), ?_⟩
            simp only [lt, lt2, List.all_eq_true]
            intro y hy
            exact wf y (List.mem_of_mem_drop (List.mem_of_mem_take (by simpa using hy)))
          · cases hq
      split at hl
      · cases hl
      · rename_i hd; exact agg _ hd rfl hl
      · rename_i hd; exact agg _ hd rfl hl
      · rename_i d hns hna hd
        split at hl
        · rename_i y hy
          split at hl
          · rename_i h1
            cases hl
            have hda : (aggD d) = false := by
              cases d <;> first | rfl | (exact absurd rfl (hns _)) | (exact absurd rfl (hna _ _))
            refine ⟨?_, by rw [lt_one h1]; exact wf _ (List.mem_of_getElem? hy)⟩
            simp only [Instr.loadAt, Instr.sureAddr, loadVar, Sem.run_bind, Sem.run_pure, Result.andThen_ok, isAgg_run hd, hda]
            simp [cell_lies E hy, mv_one h1]
          · cases hl
        · cases hl
theorem loadS_run {m : Mp} {B : Nat} {h : Hp} {w : World} {P : Program} {ty : TypeId} {a : Addr} {v : Value} (E : Emb m B h w) (hl : loadS P ty a h = some v) :
    (Instr.loadAt ty (.pointer (some (mvA m a)))).run P w = .ok (mv m v) w ∧ lt h.n v = true :=
  loadS_at (fun x hx => E.lies _ x hx) (fun x hx => E.wf _ x hx) hl
def storeS (P : Program) (ty : TypeId) (a : Addr) (v : Value) (h : Hp) : Option Hp :=
  match a.spot with
  | some _ => none
  | none =>
    match h.blk? a.block with
    | none => none
    | some x =>
      match P.info? ty with
      | none => none
      | some i =>
        if (noT v && Nat.beq (cellsL v).length i.size && Nat.ble (a.off + (cellsL v).length) x.1.length && (cellsL v).all one && !(ro x.2)) = true
        then some (h.put a.block (x.1.take a.off ++ cellsL v ++ x.1.drop (a.off + (cellsL v).length), x.2)) else none
theorem one_mv1 {m : Mp} {v : Value} (h : one v = true) : (mv1 m v).oneCell' = true := by
  cases v with
  | pointer a => cases a <;> rfl
  | map a => cases a <;> rfl
  | slice a l c => cases a <;> rfl
  | agg cs => simp [one] at h
  | tuple cs => simp [one] at h
  | iface t u =>
    simp only [one, Bool.not_eq_true'] at h
    simp only [mv1, h]
    rfl
  | _ => rfl
theorem storeS_run {m : Mp} {B : Nat} {h h' : Hp} {w : World} {P : Program} {ty : TypeId} {a : Addr} {v : Value} (E : Emb m B h w) (hv : lt h.n v = true) (hs : storeS P ty a v h = some h') :
    ∃ w', (Instr.storeAt ty (.pointer (some (mvA m a))) (mv m v)).run P w = .ok () w' ∧ Emb m B h' w' ∧ Below B w w' ∧ h'.n = h.n := by
  unfold storeS at hs
  split at hs
  · cases hs
  · rename_i hsp
    split at hs
    · cases hs
    · rename_i x hx
      split at hs
      · cases hs
      · rename_i i hi
        split at hs
        · rename_i hc
          cases hs
          simp only [Bool.and_eq_true, List.all_eq_true, Bool.not_eq_true'] at hc
          obtain ⟨⟨⟨⟨hT, hsz⟩, hle⟩, hone⟩, hro⟩ := hc
          obtain ⟨r, z, hl0, hl1, hl2⟩ := E.lies _ _ hx (tomb_ro hro)
          rw [(hl2 hro).1, (hl2 hro).2] at hl1
          have hsz := Nat.eq_of_beq_eq_true hsz
          have hle := Nat.le_of_ble_eq_true hle
          have hcells := cells_mv (m := m) hT
          have hlt := lt_cells hT hv
          have wf := E.wf _ _ hx
          rw [mvA_none hsp]
          have hst := run_storeCells_at P (m a.block).1 a.off (rt x.2) ((cellsL v).map (mv1 m)) 0 (x.1.map (mv1 m) ++ r).toArray w hl1 (by simp; omega)
            (fun y hy => by obtain ⟨z, hz, rfl⟩ := List.mem_map.1 hy; exact one_mv1 (hone z hz))
          have esp : (x.1.map (mv1 m) ++ r).take a.off ++ (cellsL v).map (mv1 m) ++ (x.1.map (mv1 m) ++ r).drop (a.off + (cellsL v).length) = (x.1.take a.off ++ cellsL v ++ x.1.drop (a.off + (cellsL v).length)).map (mv1 m) ++ r := by
            rw [List.take_append_of_le_length (by simp; omega), List.drop_append_of_le_length (by simpa using hle)]
            simp
          refine ⟨_, ?_, E.put hx hro hl1 (x.1.take a.off ++ cellsL v ++ x.1.drop (a.off + (cellsL v).length)) r (fun y hy => ?_) (by simp at hl0 ⊢; omega), below_setRow (Below.refl _ _) (E.low _ _ hx hro) _, rfl⟩
          · simp only [Instr.storeAt, Instr.sureAddr, storeVar, Sem.run_bind, Sem.run_pure, Result.andThen_ok, sizeOf, typeInfo, run_program, hi, hcells]
            simp only [List.size_toArray, List.length_map, hsz, ne_eq, not_true, if_false]
            rw [hst]
            simp only [hsz] at esp
            simp only [Nat.add_zero, List.length_map, hsz, esp]
          · simp only [List.mem_append] at hy
            rcases hy with (hy | hy) | hy
            · exact wf y (List.mem_of_mem_take hy)
            · exact hlt y hy
            · exact wf y (List.mem_of_mem_drop hy)
        · cases hs
theorem mvA_add (m : Mp) (a : Addr) (k : Nat) : mvA m (a.add k) = (mvA m a).add k := by
  unfold Addr.add mvA; split <;> rfl
theorem add_block (a : Addr) (k : Nat) : (a.add k).block = a.block := by unfold Addr.add; split <;> rfl
def indexS (P : Program) (ty : TypeId) (x i : Value) : Option Value :=
  match i with
  | .int _ n =>
    match P.underlying ty, x with
    | some (.array len elem), .pointer (some a) =>
      match P.info? elem with
      | some ie => if 0 ≤ n ∧ n < (len : Int) then some (.pointer (some (a.add (n.toNat * ie.size)))) else none
      | none => none
    | some (.slice elem), .slice (some a) len _ =>
      match P.info? elem with
      | some ie => if 0 ≤ n ∧ n < (len : Int) then some (.pointer (some (a.add (n.toNat * ie.size)))) else none
      | none => none
    | _, _ => none
  | _ => none
theorem indexS_run {m : Mp} {P : Program} {ty : TypeId} {x i v : Value} {n : Nat} (hx : lt n x = true) (hs : indexS P ty x i = some v) (w : World) :
    (Instr.indexAt ty (mv m x) (mv m i)).run P w = .ok (mv m v) w ∧ lt n v = true := by
  unfold indexS at hs
  split at hs
  · rename_i k j
    split at hs
    · rename_i len elem a hu
      split at hs
      · rename_i ie hie
        split at hs
        · rename_i hlt
          cases hs
          refine ⟨?_, ?_⟩
          · simp [Instr.indexAt, mv, mv2, mv1, asIntOf, underlying, hu, Instr.sureAddr, hlt, sizeOf, typeInfo, hie, mvA_add]
          · simpa [lt, lt2, lt1, add_block] using hx
        · cases hs
      · cases hs
    · rename_i elem a len cap hu
      split at hs
      · rename_i ie hie
        split at hs
        · rename_i hlt
          cases hs
          refine ⟨?_, ?_⟩
          · simp [Instr.indexAt, mv, mv2, mv1, asIntOf, underlying, hu, hlt, sizeOf, typeInfo, hie, mvA_add]
          · simpa [lt, lt2, lt1, add_block] using hx
        · cases hs
      · cases hs
    · cases hs
  · cases hs
/-- a field's address -/
def fieldS (P : Program) (ty : TypeId) (x : Value) (k : Nat) : Option Value :=
  match P.underlying ty, x with
  | some (.struct fs), .pointer (some a) =>
    match fs[k]? with
    | some f =>
      match P.info? f.type with
      | some i => if Nat.beq i.size 0 = true then none else some (.pointer (some (a.add f.offset)))
      | none => none
    | none => none
  | _, _ => none
theorem fieldS_run {m : Mp} {P : Program} {ty : TypeId} {x v : Value} {k n : Nat} (hx : lt n x = true) (hs : fieldS P ty x k = some v) (w : World) :
    (Instr.fieldAt ty (mv m x) k).run P w = .ok (mv m v) w ∧ lt n v = true := by
  unfold fieldS at hs
  split at hs
  · rename_i fs a hu
    split at hs
    · rename_i f hf
      split at hs
      · rename_i i hi
        split at hs
        · cases hs
        · rename_i hz
          cases hs
          have hz' : ¬ i.size = 0 := fun h => hz (by rw [h]; rfl)
          refine ⟨?_, ?_⟩
          · simp [Instr.fieldAt, mv, mv2, mv1, underlying, hu, hf, Instr.sureAddr, fieldPlace, sizeOf, typeInfo, hi, hz', mvA_add]
          · simpa [lt, lt2, lt1, add_block] using hx
      · cases hs
    · cases hs
  · cases hs
/-! ### addresses, loads and stores at letters: that they are in range, and what a cell holds, is told ahead -/
def cellIs : Option Value → Value → Bool
  | some (.int k m), .int k' n => decide (k = k' ∧ m = n)
  | some (.bool b), .bool b' => b == b'
  | _, _ => false
theorem cellIs_spec {c : Option Value} {v : Value} (h : cellIs c v = true) : c = some v ∧ one v = true := by
  unfold cellIs at h
  split at h
  · simp only [decide_eq_true_eq] at h
    obtain ⟨rfl, rfl⟩ := h
    exact ⟨rfl, rfl⟩
  · simp only [beq_iff_eq] at h
    subst h
    exact ⟨rfl, rfl⟩
  · cases h
def indexY (P : Program) (ty : TypeId) (x i : Value) : Option (Value × Log) :=
  match i with
  | .int _ n =>
    match P.underlying ty, x with
    | some (.array len elem), .pointer (some ⟨b, o, none⟩) =>
      match P.info? elem with
      | some ie => some (.pointer (some ⟨b, o + n.toNat * ie.size, none⟩), [(decide (0 ≤ n ∧ n < (len : Int)), true)])
      | none => none
    | some (.slice elem), .slice (some ⟨b, o, none⟩) len _ =>
      match P.info? elem with
      | some ie => some (.pointer (some ⟨b, o + n.toNat * ie.size, none⟩), [(decide (0 ≤ n ∧ n < (len : Int)), true)])
      | none => none
    | _, _ => none
  | _ => none
theorem add_plain (b o k : Nat) : (⟨b, o, none⟩ : Addr).add k = ⟨b, o + k, none⟩ := by unfold Addr.add; split <;> simp_all
theorem indexY_run {m : Mp} {P : Program} {ty : TypeId} {x i v : Value} {lg : Log} {n : Nat} (hx : lt n x = true) (hs : indexY P ty x i = some (v, lg)) (hlg : okLog lg) (w : World) :
    (Instr.indexAt ty (mv m x) (mv m i)).run P w = .ok (mv m v) w ∧ lt n v = true := by
  unfold indexY at hs
  split at hs
  · rename_i k j
    split at hs
    · rename_i len elem b o hu
      split at hs
      · rename_i ie hie
        cases hs
        have hlt := hlg _ (List.mem_singleton.2 rfl)
        simp only [decide_eq_true_eq] at hlt
        refine ⟨?_, ?_⟩
        · simp [Instr.indexAt, mv, mv2, mv1, mvA, asIntOf, underlying, hu, Instr.sureAddr, hlt, sizeOf, typeInfo, hie, add_plain]
        · simpa [lt, lt2, lt1] using hx
      · cases hs
    · rename_i elem b o len cap hu
      split at hs
      · rename_i ie hie
        cases hs
        have hlt := hlg _ (List.mem_singleton.2 rfl)
        simp only [decide_eq_true_eq] at hlt
        refine ⟨?_, ?_⟩
        · simp [Instr.indexAt, mv, mv2, mv1, mvA, asIntOf, underlying, hu, hlt, sizeOf, typeInfo, hie, add_plain]
        · simpa [lt, lt2, lt1] using hx
      · cases hs
    · cases hs
  · cases hs
/-- the cells of a whole struct or array, told ahead -/
def cellsIs : List Value → List Value → Bool
  | [], [] => true
  | a :: l, b :: m => cellIs (some a) b && cellsIs l m
  | _, _ => false
theorem cellsIs_spec : ∀ {l m : List Value}, cellsIs l m = true → l = m
  | [], [], _ => rfl
  | a :: l, b :: m, h => by
    simp only [cellsIs, Bool.and_eq_true] at h
    have h1 := (cellIs_spec h.1).1
    rw [Option.some.inj h1, cellsIs_spec h.2]
  | [], _ :: _, h => by cases h
  | _ :: _, [], h => by cases h
def loadG (P : Program) (ty : TypeId) (l : List Value) (v : Value) : Option Log :=
  match P.info? ty, v with
  | some i, .agg cs => some [(Nat.beq cs.toList.length i.size && cellsIs (l.take i.size) cs.toList, true)]
  | _, _ => none
def loadY (P : Program) (ty : TypeId) (a : Addr) (h : Hp) (v : Value) : Option Log :=
  match a.spot with
  | some _ => none
  | none =>
    match h.blk? a.block with
    | none => none
    | some x =>
      match (if tomb x.2 = true then none else P.underlying ty) with
      | some d => if aggD d = true then loadG P ty (x.1.drop a.off) v else some [(cellIs (x.1[a.off]?) v, true)]
      | none => none
theorem loadY_at {m : Mp} {h : Hp} {w : World} {P : Program} {ty : TypeId} {a : Addr} {v : Value} {lg : Log} (E0 : ∀ x, h.blk? a.block = some x → tomb x.2 = false → lie w (m a.block) (x.1.map (mv1 m)) x.2)
    (W0 : ∀ x, h.blk? a.block = some x → ∀ v ∈ x.1, lt1 h.n v = true) (hl : loadY P ty a h v = some lg) (hlg : okLog lg) :
    (Instr.loadAt ty (.pointer (some (mvA m a)))).run P w = .ok (mv m v) w ∧ lt h.n v = true := by
  unfold loadY at hl
  split at hl
  · cases hl
  · rename_i hsp
    rw [mvA_none hsp]
    split at hl
    · cases hl
    · rename_i x hx
      cases htb : tomb x.2 with
      | true =>
        rw [htb] at hl
        simp at hl
      | false =>
      rw [htb] at hl
      simp only [Bool.false_eq_true, if_false] at hl
      split at hl
      · rename_i d hd
        split at hl
        · rename_i hda
          unfold loadG at hl
          split at hl
          · rename_i i cs hi
            cases hl
            have h1 := hlg _ (List.mem_singleton.2 rfl)
            simp only [Bool.and_eq_true] at h1
            have h2 := Nat.eq_of_beq_eq_true h1.1
            have h3 := cellsIs_spec h1.2
            have r := loadAgg_run (P := P) (o := a.off) (E0 _ hx htb) hi hd hda (by rw [h3, h2])
            rw [h3] at r
            refine ⟨r, ?_⟩
            simp only [lt, lt2, List.all_eq_true]
            intro y hy
            rw [← h3] at hy
            exact W0 _ hx y (List.mem_of_mem_drop (List.mem_of_mem_take hy))
          · cases hl
        · rename_i hda
          cases hl
          obtain ⟨hy, h1⟩ := cellIs_spec (hlg _ (List.mem_singleton.2 rfl))
          refine ⟨?_, by rw [lt_one h1]; exact W0 _ hx _ (List.mem_of_getElem? hy)⟩
          simp only [Instr.loadAt, Instr.sureAddr, loadVar, Sem.run_bind, Sem.run_pure, Result.andThen_ok, isAgg_run hd, hda]
          simp [cell_lies (E0 _ hx htb) hy, mv_one h1]
      · cases hl
/-- a whole struct or array -/
def storeG (b o n : Nat) (v : Value) (x : List Value × TypeId) (h : Hp) : Option (Hp × Log) :=
  match v with
  | .agg cs => if (cs.toList.all one && Nat.beq cs.toList.length n && !(ro x.2)) = true then some (h.put b (x.1.take o ++ cs.toList ++ x.1.drop (o + cs.toList.length), x.2), [(Nat.ble (o + cs.toList.length) x.1.length, true)]) else none
  | _ => none
def storeY (P : Program) (ty : TypeId) (a : Addr) (v : Value) (h : Hp) : Option (Hp × Log) :=
  match a.spot with
  | some _ => none
  | none =>
    match h.blk? a.block with
    | none => none
    | some x =>
      match P.info? ty with
      | none => none
      | some i => if (one v && Nat.beq i.size 1 && !(ro x.2)) = true then some (h.put a.block (x.1.set a.off v, x.2), [(decide (a.off < x.1.length), true)]) else storeG a.block a.off i.size v x h
theorem set_splice (l : List Value) (o : Nat) (v : Value) (h : o < l.length) : l.set o v = l.take o ++ [v] ++ l.drop (o + 1) := by
  rw [List.set_eq_take_append_cons_drop, if_pos h]
  simp
theorem storeY_run {m : Mp} {B : Nat} {h h' : Hp} {w : World} {P : Program} {ty : TypeId} {a : Addr} {v : Value} {lg : Log} (E : Emb m B h w) (hv : lt h.n v = true) (hs : storeY P ty a v h = some (h', lg)) (hlg : okLog lg) :
    ∃ w', (Instr.storeAt ty (.pointer (some (mvA m a))) (mv m v)).run P w = .ok () w' ∧ Emb m B h' w' ∧ Below B w w' ∧ h'.n = h.n := by
  unfold storeY at hs
  split at hs
  · cases hs
  · rename_i hsp
    split at hs
    · cases hs
    · rename_i x hx
      split at hs
      · cases hs
      · rename_i i hi
        split at hs
        · rename_i hc
          cases hs
          simp only [Bool.and_eq_true, Bool.not_eq_true'] at hc
          obtain ⟨⟨h1, hsz⟩, hro⟩ := hc
          have hlt := hlg _ (List.mem_singleton.2 rfl)
          simp only [decide_eq_true_eq] at hlt
          have e1 : cellsL v = [v] := by cases v <;> simp_all [one, cellsL]
          have e2 : noT v = true := by cases v <;> simp_all [one, noT]
          refine storeS_run (ty := ty) E hv ?_
          unfold storeS
          rw [hsp]
          simp only [hx, hi, e1, e2, List.length_singleton]
          have hsz' := Nat.eq_of_beq_eq_true hsz
          rw [if_pos (by simp [hsz', h1, hro]; exact hlt), set_splice _ _ _ hlt]
        · unfold storeG at hs
          split at hs
          · rename_i cs _
            split at hs
            · rename_i hc
              cases hs
              simp only [Bool.and_eq_true, Bool.not_eq_true'] at hc
              obtain ⟨⟨h1, hsz⟩, hro⟩ := hc
              have hle := hlg _ (List.mem_singleton.2 rfl)
              simp only at hle
              refine storeS_run (ty := ty) E hv ?_
              unfold storeS
              rw [hsp]
              simp only [hx, hi]
              have e1 : noT (.agg cs) = true := rfl
              have e2 : cellsL (.agg cs) = cs.toList := rfl
              rw [e1, e2, h1, hsz, hle, hro]
              rfl
            · cases hs
          · cases hs
def stillO : Option Operand → List Value → Bool
  | none, _ => true
  | some x, t => okX x && lt 0 (ev t x)
theorem stillO_map {m : Mp} {t : List Value} {a : Act} (ha : a.tmps = (t.map (mv m)).toArray) {x : Option Operand} (hx : stillO x t = true) : x.map a.eval = x.map (ev t) := by
  cases x with
  | none => rfl
  | some x =>
    simp only [stillO, Bool.and_eq_true] at hx
    simp [eval_mv ha hx.1, mv_still hx.2]
def smallC (c : Nat) : Bool := Nat.blt c dead
theorem cap_small {n c : Nat} (h : smallC c = true) : cap n c = c := by
  unfold cap
  rw [if_neg]
  intro h1
  have h2 := Nat.le_of_ble_eq_true h1
  have h3 := blt_iff.1 h
  omega
def sliceS (P : Program) (ty : TypeId) (x : Value) (lo hi mx : Option Value) : Option Value :=
  match P.underlying ty, x with
  | some (.array n elem), .pointer (some a) =>
    match runP P (Instr.sliceBounds false n n lo hi mx), P.info? elem with
    | some b, some ie => if smallC (b.2.2 - b.1) = true then some (.slice (some (if b.2.2 = b.1 then a else a.add (b.1 * ie.size))) (b.2.1 - b.1) (b.2.2 - b.1)) else none
    | _, _ => none
  | some (.slice elem), .slice (some a) len c =>
    if smallC c = true then
      match runP P (Instr.sliceBounds true len c lo hi mx), P.info? elem with
      | some b, some ie => if smallC (b.2.2 - b.1) = true then some (.slice (some (if b.2.2 = b.1 then a else a.add (b.1 * ie.size))) (b.2.1 - b.1) (b.2.2 - b.1)) else none
      | _, _ => none
    else none
  | some (.slice elem), .slice none len c =>
    match runP P (Instr.sliceBounds true len c lo hi mx), P.info? elem with
    | some b, some _ => some (.slice none (b.2.1 - b.1) (b.2.2 - b.1))
    | _, _ => none
  | _, _ => none
theorem sliceS_run {m : Mp} {P : Program} {ty : TypeId} {x v : Value} {lo hi mx : Option Value} {n : Nat} (hx : lt n x = true) (hs : sliceS P ty x lo hi mx = some v) (w : World) :
    (Instr.sliceAt ty (mv m x) lo hi mx).run P w = .ok (mv m v) w ∧ lt n v = true := by
  unfold sliceS at hs
  split at hs
  · rename_i len elem a hu
    split at hs
    · rename_i b ie hb hie
      split at hs
      · rename_i hsm
        cases hs
        have hr := runP_run hb w
        refine ⟨?_, ?_⟩
        · simp only [Instr.sliceAt, mv, mv2, mv1, underlying, Sem.run_bind, run_program, Result.andThen_ok, hu, Sem.run_pure, Instr.sureAddr, hr, sizeOf, typeInfo, hie, cap_small hsm]
          split
          · rename_i h1; simp [h1]
          · simp [mvA_add]
        · simp only [lt, lt2, lt1] at hx ⊢
          split
          · exact hx
          · rw [add_block]; exact hx
      · cases hs
    · cases hs
  · rename_i elem a len c hu
    split at hs
    · rename_i hc
      split at hs
      · rename_i b ie hb hie
        split at hs
        · rename_i hsm
          cases hs
          have hr := runP_run hb w
          refine ⟨?_, ?_⟩
          · simp only [Instr.sliceAt, Instr.slice, mv, mv2, mv1, cap_small hc, underlying, Sem.run_bind, run_program, Result.andThen_ok, hu, Sem.run_pure, hr, sizeOf, typeInfo, hie, cap_small hsm]
            split
            · rename_i h1; simp [h1]
            · simp [mvA_add]
          · simp only [lt, lt2, lt1] at hx ⊢
            split
            · exact hx
            · rw [add_block]; exact hx
        · cases hs
      · cases hs
    · cases hs
  · rename_i elem len c hu
    split at hs
    · rename_i b ie hb hie
      cases hs
      have hr := runP_run hb w
      refine ⟨?_, by simp [lt, lt2, lt1]⟩
      simp [Instr.sliceAt, Instr.slice, mv, mv2, mv1, underlying, hu, hr, sizeOf, typeInfo, hie]
    · cases hs
  · cases hs
end Go.KRun
